/- Chapter 1 without any Go: the reading of a number, once more as its first three bytes tell. -/
import Derived.Test.YtoeiohhaedabnaaM1
namespace Go.Proofs.Ytoeiohhaedabnaa.M

theorem numGet_no (l : List UInt8) (h : ∀ k, k < 3 → k < l.length → 128 ≤ at_ l k) : numGet l = (0, [], false) := by
  have step : ∀ f k, f + k = 3 → getFrom l f k = (0, [], false) := by
    intro f
    induction f with
    | zero => intro k _; rfl
    | succ f ih =>
      intro k hk
      rw [getFrom]
      split
      · rfl
      · rw [if_neg (by have := h k (by omega) (by omega); omega)]
        exact ih (k + 1) (by omega)
  exact step 3 0 rfl
theorem numGet_0 (l : List UInt8) (h : 0 < l.length) (ha : at_ l 0 < 128) : numGet l = (at_ l 0, l.drop 1, true) := by
  have := at_lo l 0
  unfold numGet
  rw [getFrom, if_neg (by omega), if_pos ha, if_neg (by simp [partL]; omega)]
  have e : partL l (0 + 1) = at_ l 0 := by simp [partL]; omega
  rw [e]
theorem numGet_1 (l : List UInt8) (h : 1 < l.length) (ha : 128 ≤ at_ l 0) (hb : at_ l 1 < 128) :
    numGet l = if at_ l 1 = 0 then (0, [], false) else (at_ l 0 % 128 + at_ l 1 * 128, l.drop 2, true) := by
  have := at_lo l 0
  have := at_lo l 1
  have e : partL l 2 = at_ l 0 % 128 + at_ l 1 * 128 := by simp [partL]; omega
  unfold numGet
  rw [getFrom, if_neg (by omega), if_neg (by omega)]
  show getFrom l 2 1 = _
  rw [getFrom, if_neg (by omega), if_pos hb]
  show (if (0 < 1 ∧ at_ l 1 = 0) ∨ 999999 < partL l 2 then (0, [], false) else (partL l 2, l.drop 2, true)) = _
  rw [e]
  by_cases h0 : at_ l 1 = 0
  · rw [if_pos h0, if_pos (Or.inl ⟨by omega, h0⟩)]
  · rw [if_neg h0, if_neg (by omega)]
theorem numGet_2 (l : List UInt8) (h : 2 < l.length) (ha : 128 ≤ at_ l 0) (hb : 128 ≤ at_ l 1) (hc : at_ l 2 < 128) :
    numGet l = if at_ l 2 = 0 ∨ 999999 < at_ l 0 % 128 + at_ l 1 % 128 * 128 + at_ l 2 * 16384 then (0, [], false) else (at_ l 0 % 128 + at_ l 1 % 128 * 128 + at_ l 2 * 16384, l.drop 3, true) := by
  have := at_lo l 0
  have := at_lo l 1
  have := at_lo l 2
  have e : partL l 3 = at_ l 0 % 128 + at_ l 1 % 128 * 128 + at_ l 2 * 16384 := by simp [partL]; omega
  unfold numGet
  rw [getFrom, if_neg (by omega), if_neg (by omega)]
  show getFrom l 2 1 = _
  rw [getFrom, if_neg (by omega), if_neg (by omega)]
  show getFrom l 1 2 = _
  rw [getFrom, if_neg (by omega), if_pos hc]
  show (if (0 < 2 ∧ at_ l 2 = 0) ∨ 999999 < partL l 3 then (0, [], false) else (partL l 3, l.drop 3, true)) = _
  rw [e]
  by_cases h0 : at_ l 2 = 0 ∨ 999999 < at_ l 0 % 128 + at_ l 1 % 128 * 128 + at_ l 2 * 16384
  · rw [if_pos h0, if_pos (by omega)]
  · rw [if_neg h0, if_neg (by omega)]

/-- The digits of a number. -/
def digX (n : Int) : Int := if n < 128 then n else 128 + n % 128
def digY (n : Int) : Int := if n < 128 then 0 else if n < 16384 then n / 128 else 128 + n / 128 % 128
def digZ (n : Int) : Int := if n < 16384 then 0 else n / 128 / 128
def num3 (a b c : Int) : Int := (c % 128 * 128 + b % 128) * 128 + a % 128
theorem num3_bd (a b c : Int) : 0 ≤ num3 a b c ∧ num3 a b c ≤ 2097151 := by unfold num3; omega

/-- How the program reads: what the digits come to, told again, must be the same digits. -/
def ans (a b c : Int) (r : List UInt8) : Int × List UInt8 × Bool :=
  let n := num3 a b c
  if isTold n = true ∧ digX n = a ∧ digY n = b ∧ digZ n = c then (n, r, true) else (0, [], false)
theorem ans_0 (l : List UInt8) (h : 0 < l.length) (ha : at_ l 0 < 128) : numGet l = ans (at_ l 0) 0 0 (l.drop 1) := by
  rw [numGet_0 l h ha]
  have h0 := at_lo l 0
  generalize at_ l 0 = a at *
  have hn : num3 a 0 0 = a := by unfold num3; omega
  unfold ans
  simp only [hn]
  rw [if_pos]
  refine ⟨by simp [isTold]; omega, by unfold digX; rw [if_pos ha], by unfold digY; rw [if_pos ha], by unfold digZ; rw [if_pos (by omega)]⟩
theorem ans_1 (l : List UInt8) (h : 1 < l.length) (ha : 128 ≤ at_ l 0) (hb : at_ l 1 < 128) : numGet l = ans (at_ l 0) (at_ l 1) 0 (l.drop 2) := by
  rw [numGet_1 l h ha hb]
  have h0 := at_hi l 0
  have h1 := at_lo l 1
  generalize at_ l 0 = a at *
  generalize at_ l 1 = b at *
  have hn : num3 a b 0 = a % 128 + b * 128 := by unfold num3; omega
  unfold ans
  simp only [hn]
  by_cases hz : b = 0
  · subst hz
    rw [if_pos rfl, if_neg]
    rintro ⟨_, hx, _⟩
    unfold digX at hx
    rw [if_pos (by omega)] at hx
    omega
  · rw [if_neg hz, if_pos]
    refine ⟨by simp [isTold]; omega, by unfold digX; rw [if_neg (by omega)]; omega, by unfold digY; rw [if_neg (by omega), if_pos (by omega)]; omega, by unfold digZ; rw [if_pos (by omega)]⟩
theorem ans_2 (l : List UInt8) (h : 2 < l.length) (ha : 128 ≤ at_ l 0) (hb : 128 ≤ at_ l 1) (hc : at_ l 2 < 128) : numGet l = ans (at_ l 0) (at_ l 1) (at_ l 2) (l.drop 3) := by
  rw [numGet_2 l h ha hb hc]
  have h0 := at_hi l 0
  have h1 := at_hi l 1
  have h2 := at_lo l 2
  generalize at_ l 0 = a at *
  generalize at_ l 1 = b at *
  generalize at_ l 2 = c at *
  have hn : num3 a b c = a % 128 + b % 128 * 128 + c * 16384 := by unfold num3; omega
  unfold ans
  simp only [hn]
  by_cases hz : c = 0 ∨ 999999 < a % 128 + b % 128 * 128 + c * 16384
  · rw [if_pos hz, if_neg]
    rintro ⟨ht, hx, hy, hzz⟩
    simp [isTold] at ht
    rcases hz with rfl | hz
    · unfold digY at hy
      split at hy
      · omega
      · rw [if_pos (by omega)] at hy; omega
    · omega
  · rw [if_neg hz, if_pos]
    refine ⟨by simp [isTold]; omega, by unfold digX; rw [if_neg (by omega)]; omega, by unfold digY; rw [if_neg (by omega), if_neg (by omega)]; omega, by unfold digZ; rw [if_neg (by omega)]; omega⟩
end Go.Proofs.Ytoeiohhaedabnaa.M
