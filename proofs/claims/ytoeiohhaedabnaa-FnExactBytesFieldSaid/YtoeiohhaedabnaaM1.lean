/- Chapter 1 without any Go: what its functions compute. -/
import Derived.PlainAid
namespace Go.Proofs.Ytoeiohhaedabnaa.M

/-- The byte of a number. -/
def B8 (n : Int) : UInt8 := UInt8.ofNat n.toNat
theorem B8_nat (n : Int) (h0 : 0 ≤ n) (h1 : n < 256) : ((B8 n).toNat : Int) = n := by
  simp [B8, UInt8.toNat_ofNat']; omega
theorem B8_of (b : UInt8) : B8 (b.toNat : Int) = b := by simp [B8]

/-- Byte k of a text, as a number. -/
def at_ (l : List UInt8) (k : Nat) : Int := ((l.getD k 0).toNat : Int)
theorem at_lo (l : List UInt8) (k : Nat) : 0 ≤ at_ l k := by unfold at_; omega
theorem at_hi (l : List UInt8) (k : Nat) : at_ l k < 256 := by unfold at_; have := (l.getD k 0).toNat_lt; omega

def isTold (n : Int) : Bool := decide (0 ≤ n) && decide (n ≤ 999999)
def numBytes (n : Int) : List UInt8 :=
  if n < 128 then [B8 n] else if n < 16384 then [B8 (128 + n % 128), B8 (n / 128)] else [B8 (128 + n % 128), B8 (128 + n / 128 % 128), B8 (n / 128 / 128)]
def numPut (n : Int) : List UInt8 := if isTold n then numBytes n else []

/-- What the first k digits come to. -/
def partL (l : List UInt8) : Nat → Int
  | 0 => 0
  | k + 1 => partL l k + at_ l k % 128 * 128 ^ k
/-- The reading from digit k on: number, what is behind, whether. -/
def getFrom (l : List UInt8) : Nat → Nat → Int × List UInt8 × Bool
  | 0, _ => (0, [], false)
  | f + 1, k => if l.length ≤ k then (0, [], false) else
      if at_ l k < 128 then (if (0 < k ∧ at_ l k = 0) ∨ 999999 < partL l (k + 1) then (0, [], false) else (partL l (k + 1), l.drop (k + 1), true)) else getFrom l f (k + 1)
def numGet (l : List UInt8) : Int × List UInt8 × Bool := getFrom l 3 0

theorem pow128 (k : Nat) (hk : k ≤ 3) : (1 : Int) ≤ 128 ^ k ∧ (128 : Int) ^ k ≤ 2097152 := by
  obtain rfl | rfl | rfl | rfl : k = 0 ∨ k = 1 ∨ k = 2 ∨ k = 3 := by omega
  all_goals exact ⟨by decide, by decide⟩
theorem partL_bd (l : List UInt8) (k : Nat) (hk : k ≤ 3) : 0 ≤ partL l k ∧ partL l k < 128 ^ k := by
  have a0 := at_lo l 0
  have a1 := at_lo l 1
  have a2 := at_lo l 2
  obtain rfl | rfl | rfl | rfl : k = 0 ∨ k = 1 ∨ k = 2 ∨ k = 3 := by omega
  all_goals simp only [partL]
  · exact ⟨by decide, by decide⟩
  · constructor <;> omega
  · constructor <;> omega
  · constructor <;> omega

theorem getFrom_out (l : List UInt8) (f k : Nat) (h : l.length ≤ k) : getFrom l f k = (0, [], false) := by
  cases f with | zero => rfl | succ f => rw [getFrom, if_pos h]
theorem getFrom_in (l : List UInt8) (k : Nat) (a p U : Int) (h : k < l.length) (hk : k < 3) (ha : at_ l k = a) (hp : p = partL l k) (hU : U = 128 ^ k) :
    getFrom l (3 - k) k = if a < 128 then (if (0 < k ∧ a = 0) ∨ 999999 < p + a % 128 * U then (0, [], false) else (p + a % 128 * U, l.drop (k + 1), true)) else getFrom l (3 - (k + 1)) (k + 1) := by
  rw [show 3 - k = (3 - (k + 1)) + 1 from by omega, getFrom, if_neg (by omega), partL, ha, hp, hU]

def numSize (n : Int) : Int := if isTold n then (if n < 128 then 1 else if n < 16384 then 2 else 3) else 0
theorem numSize_len (n : Int) (h : isTold n = true) : ((numPut n).length : Int) = numSize n := by
  unfold numPut numSize numBytes; rw [if_pos h, if_pos h]; split
  · rfl
  · split <;> rfl

def foldB (n : Int) : Bool := decide (-499999 ≤ n) && decide (n ≤ 499999)
def foldV (n : Int) : Int := if foldB n then (if n < 0 then -2 * n - 1 else 2 * n) else 0
def openB (n : Int) : Bool := decide (0 ≤ n) && decide (n ≤ 999998)
def openV (n : Int) : Int := if openB n then (if n % 2 = 1 then -((n + 1) / 2) else n / 2) else 0
end Go.Proofs.Ytoeiohhaedabnaa.M
