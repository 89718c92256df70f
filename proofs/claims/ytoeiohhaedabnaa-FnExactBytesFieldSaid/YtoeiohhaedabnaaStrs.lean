/- Slices of strings that a call has made: what compares, marks and holds them. -/
import Derived.Test.YtoeiohhaedabnaaStr
import Derived.OwnWalk
import Derived.Deep.AppendLies
import Derived.Laws.OwnMore
import Derived.Deep.Onto
namespace Go.Proofs.Ytoeiohhaedabnaa
open Go.ChangeShapes Go.WideShapes Go.ChangeAt Go.RowKit M

abbrev sv (x : List UInt8) : Value := .string (S x)
/-- The slice v is one of strings L that a call has made, at or above block B. -/
def Strs (w : World) (B : Nat) (v : Value) (L : List (List UInt8)) : Prop := w.ownsRow B 9 1 v L.length (L.map sv)

/-- What a call that returns a slice of strings of its own, and a bool, leaves. -/
def RetStrs (w : World) (L : List (List UInt8)) (ok : Bool) (e : Ending) (w' : World) : Prop := ∃ v, e = .returned (.tuple #[v, .bool ok]) ∧ Strs w' w.heap.size v L ∧ Below w.heap.size w w'
theorem Strs_none (w : World) : Strs (w.alloc (.cells #[] 9)) w.heap.size (.slice (some ⟨w.heap.size, 0, none⟩) 0 0) [] := World.ownsRow_lit w #[] 0 (Nat.le_refl _) (by unfold maxLen; omega) rfl
theorem Strs_one (w : World) (x : List UInt8) : Strs (w.alloc (.cells #[.string (S x)] 9)) w.heap.size (.slice (some ⟨w.heap.size, 0, none⟩) 1 1) [x] := World.ownsRow_lit w #[.string (S x)] 1 (Nat.le_refl _) (by unfold maxLen; omega) rfl
theorem info_string : (Try.prog.info? 9).map (fun i => (i.zero, i.size, i.bytes)) = some (some (.string ByteArray.empty), 1, 16) := by kernel_rfl

theorem grown_of_below {a w : World} (h : Below a.heap.size a w) (row : Option Nat) : a.grownBy w row := ⟨h.os, h.tape, h.output, h.size, fun i hi _ => h.block i hi⟩
theorem Strs.below {w w' : World} {B : Nat} {v : Value} {L : List (List UInt8)} (h : Strs w B v L) (hb : Below w.heap.size w w') : Strs w' B v L := by
  unfold Strs at *
  have hl := h.lt
  cases hv : v.ownBlock with
  | none => exact h.kept (grown_of_below hb none) (.inl hv)
  | some g => exact h.kept (row := none) (grown_of_below hb none) (.inr (by rw [hv]; simp))
theorem Strs.mono {w : World} {B B' : Nat} {v : Value} {L : List (List UInt8)} (h : Strs w B v L) (hb : B' ≤ B) : Strs w B' v L := World.ownsRow.mono h hb
theorem Strs.form {w : World} {B : Nat} {v : Value} {L : List (List UInt8)} (h : Strs w B v L) : ∃ ao cap, v = .slice ao L.length cap ∧ L.length ≤ cap ∧
    (ao = none ∧ L = [] ∨ ∃ g, ao = some ⟨g, 0, none⟩ ∧ B ≤ g ∧ g < w.heap.size) := by
  rcases h.2 with ⟨rfl, hn⟩ | ⟨g, cap, cur, rfl, hb, hg, hnc, hm, hs, ht⟩
  · rw [hn]; exact ⟨none, 0, rfl, Nat.le_refl _, .inl ⟨rfl, List.eq_nil_of_length_eq_zero hn⟩⟩
  · exact ⟨_, cap, rfl, hnc, .inr ⟨g, rfl, hb, (Array.getElem?_eq_some_iff.1 hg).1⟩⟩
theorem Strs.cell {w : World} {B g n cap : Nat} {L : List (List UInt8)} (h : Strs w B (.slice (some ⟨g, 0, none⟩) n cap) L) (k : Nat) (hk : k < L.length) : w.cell? ⟨g, k, none⟩ = some (.string (S (L.getD k []))) := by
  obtain ⟨ao, c, hv, -, -⟩ := h.form
  obtain ⟨rfl, rfl, rfl⟩ : n = L.length ∧ cap = c ∧ ao = _ := by injection hv with h1 h2 h3; exact ⟨h2, h3, h1.symm⟩
  rw [World.ownsRow.cellAt h k (by omega)]
  simp [sv, hk]
theorem Strs.nofreeze {w : World} {B g n cap : Nat} {L : List (List UInt8)} (h : Strs w B (.slice (some ⟨g, 0, none⟩) n cap) L) (k : Nat) : w.frozen? ⟨g, k, none⟩ = false := by
  obtain ⟨ao, c, hv, -, -⟩ := h.form
  obtain ⟨rfl, rfl, rfl⟩ : n = L.length ∧ cap = c ∧ ao = _ := by injection hv with h1 h2 h3; exact ⟨h2, h3, h1.symm⟩
  exact World.ownsRow.frozenAt h k

end Go.Proofs.Ytoeiohhaedabnaa
