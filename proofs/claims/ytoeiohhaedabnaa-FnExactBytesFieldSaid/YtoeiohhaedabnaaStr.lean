/- Strings as lists of bytes: how the walk's operations read them. -/
import Derived.Test.YtoeiohhaedabnaaBase
namespace Go.Proofs.Ytoeiohhaedabnaa
open Go.ChangeShapes Go.WideShapes Go.ChangeAt Go.RowKit M

theorem S_at (l : List UInt8) (k : Nat) (h : k < (S l).size) : (((S l)[k]'h).toNat : Int) = at_ l k := byte_eq (S l) k h
theorem S_ext (l : List UInt8) (a b : Nat) : (S l).extract a b = S ((l.drop a).take (b - a)) := by
  apply ByteArray.ext; apply Array.toList_inj.1
  rw [Lib.extract_data]; rfl
theorem S_from (l : List UInt8) (a : Nat) : (S l).extract a l.length = S (l.drop a) := by
  rw [S_ext, List.take_of_length_le (by simp)]
theorem S_to (l : List UInt8) (b : Nat) : (S l).extract 0 b = S (l.take b) := by
  rw [S_ext]; rfl
theorem S_from_drop (l : List UInt8) (k a : Nat) : (S (l.drop k)).extract a (l.length - k) = S (l.drop (k + a)) := by
  rw [← List.length_drop, S_from, List.drop_drop]
theorem S_bytes (l : List UInt8) : (S l).toList = l := by rw [ByteArray.toList_eq]; rfl
theorem S_lit (a l : List UInt8) : ByteArray.mk a.toArray ++ S l = S (a ++ l) := S_append a l
theorem lit_S (a l : List UInt8) : S l ++ ByteArray.mk a.toArray = S (l ++ a) := S_append l a
attribute [go_sem] S_size S_at S_ext S_bytes S_lit lit_S S_append
attribute [go_sem high] S_from S_to S_from_drop

theorem ret_sib {k : IntKind} {x y : Int} {a b : ByteArray} {c d : Bool} (h : a = b) (e : x = y) (g : c = d) : Ending.returned (.tuple #[.string a, .int k x, .bool c]) = .returned (.tuple #[.string b, .int k y, .bool d]) := by rw [e, h, g]
theorem below_set {w X : World} (h : Below w.heap.size w X) {p : Addr} (hp : w.heap.size ≤ p.block) (v : Value) : Below w.heap.size w (X.setCell p v) := h.setCell hp v
/-- Small letters. -/
def low (c : Int) : Bool := decide (97 ≤ c) && decide (c ≤ 122)
theorem at_cons (c : UInt8) (l : List UInt8) : at_ (c :: l) 0 = (c.toNat : Int) := rfl
theorem at_succ (c : UInt8) (l : List UInt8) (k : Nat) : at_ (c :: l) (k + 1) = at_ l k := by unfold at_; simp
theorem at_drop (l : List UInt8) (a k : Nat) : at_ (l.drop a) k = at_ l (a + k) := by unfold at_; simp [List.getD_eq_getElem?_getD]
theorem at_take (l : List UInt8) (a k : Nat) (h : k < a) : at_ (l.take a) k = at_ l k := by unfold at_; simp [List.getD_eq_getElem?_getD, h]
end Go.Proofs.Ytoeiohhaedabnaa
