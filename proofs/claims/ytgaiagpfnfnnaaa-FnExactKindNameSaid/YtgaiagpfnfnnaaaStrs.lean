/- Slices of strings that a call has made: what compares, marks and holds them. -/
import Derived.Test.YtgaiagpfnfnnaaaStr
import Derived.OwnWalk
import Derived.Deep.AppendLies
import Derived.Laws.OwnMore
import Derived.Deep.Onto
namespace Go.Proofs.Ytgaiagpfnfnnaaa
open Go.ChangeShapes Go.WideShapes Go.ChangeAt Go.RowKit M

abbrev sv (x : List UInt8) : Value := .string (S x)
/-- The slice v is one of strings L that a call has made, at or above block B. -/
def Strs (w : World) (B : Nat) (v : Value) (L : List (List UInt8)) : Prop := w.ownsRow B 9 1 v L.length (L.map sv)

/-- What a call that returns a slice of strings of its own, and a bool, leaves. -/
def RetStrs (w : World) (L : List (List UInt8)) (ok : Bool) (e : Ending) (w' : World) : Prop := ∃ v, e = .returned (.tuple #[v, .bool ok]) ∧ Strs w' w.heap.size v L ∧ Below w.heap.size w w'
theorem Strs_none (w : World) : Strs (w.alloc (.cells #[] 9)) w.heap.size (.slice (some ⟨w.heap.size, 0, none⟩) 0 0) [] := World.ownsRow_lit w #[] 0 (Nat.le_refl _) (by unfold maxLen; omega) rfl
theorem Strs_one (w : World) (x : List UInt8) : Strs (w.alloc (.cells #[.string (S x)] 9)) w.heap.size (.slice (some ⟨w.heap.size, 0, none⟩) 1 1) [x] := World.ownsRow_lit w #[.string (S x)] 1 (Nat.le_refl _) (by unfold maxLen; omega) rfl
theorem info_string : (Try.prog.info? 9).map (fun i => (i.zero, i.size, i.bytes)) = some (some (.string ByteArray.empty), 1, 16) := by kernel_rfl

theorem grown_of_below {a w : World} (h : Below a.heap.size a w) (row : Option Nat) : a.grownBy w row := ⟨h.os, h.tape, h.output, h.size, fun i hi _ => h.block i hi⟩
theorem Strs.below {w w' : World} {B : Nat} {v : Value} {L : List (List UInt8)} (h : Strs w B v L) (hb : Below w.heap.size w w') : Strs w' B v L := by
  unfold Strs at *
  have hl := h.lt
  cases hv : v.ownBlock with
  | none => exact h.kept (grown_of_below hb none) (.inl hv)
  | some g => exact h.kept (row := none) (grown_of_below hb none) (.inr (by rw [hv]; simp))
theorem Strs.mono {w : World} {B B' : Nat} {v : Value} {L : List (List UInt8)} (h : Strs w B v L) (hb : B' ≤ B) : Strs w B' v L := World.ownsRow.mono h hb
theorem Strs.form {w : World} {B : Nat} {v : Value} {L : List (List UInt8)} (h : Strs w B v L) : ∃ ao cap, v = .slice ao L.length cap ∧ L.length ≤ cap ∧
    (ao = none ∧ L = [] ∨ ∃ g, ao = some ⟨g, 0, none⟩ ∧ B ≤ g ∧ g < w.heap.size) := by
  rcases h.2 with ⟨rfl, hn⟩ | ⟨g, cap, cur, rfl, hb, hg, hnc, hm, hs, ht⟩
  · rw [hn]; exact ⟨none, 0, rfl, Nat.le_refl _, .inl ⟨rfl, List.eq_nil_of_length_eq_zero hn⟩⟩
  · exact ⟨_, cap, rfl, hnc, .inr ⟨g, rfl, hb, (Array.getElem?_eq_some_iff.1 hg).1⟩⟩
theorem Strs.cell {w : World} {B g n cap : Nat} {L : List (List UInt8)} (h : Strs w B (.slice (some ⟨g, 0, none⟩) n cap) L) (k : Nat) (hk : k < L.length) : w.cell? ⟨g, k, none⟩ = some (.string (S (L.getD k []))) := by
  obtain ⟨ao, c, hv, -, -⟩ := h.form
  obtain ⟨rfl, rfl, rfl⟩ : n = L.length ∧ cap = c ∧ ao = _ := by injection hv with h1 h2 h3; exact ⟨h2, h3, h1.symm⟩
  rw [World.ownsRow.cellAt h k (by omega)]
  simp [sv, hk]
theorem Strs.nofreeze {w : World} {B g n cap : Nat} {L : List (List UInt8)} (h : Strs w B (.slice (some ⟨g, 0, none⟩) n cap) L) (k : Nat) : w.frozen? ⟨g, k, none⟩ = false := by
  obtain ⟨ao, c, hv, -, -⟩ := h.form
  obtain ⟨rfl, rfl, rfl⟩ : n = L.length ∧ cap = c ∧ ao = _ := by injection hv with h1 h2 h3; exact ⟨h2, h3, h1.symm⟩
  exact World.ownsRow.frozenAt h k

theorem eqStringS (v v' : Value) (L : List (List UInt8)) (B B' : Nat) (w : World) (h : Strs w B v L) (h' : Strs w B' v' L) (hL : L.length ≤ 1000000) :
    Calls Try.prog 29 #[v, v'] w fun e w' => e = .returned (.bool true) ∧ Below w.heap.size w w' := by
  obtain ⟨ao, cap, rfl, hc, hf⟩ := h.form
  obtain ⟨ao', cap', rfl, hc', hf'⟩ := h'.form
  have H := Lib.hid h; clear h
  have H' := Lib.hid h'; clear h'
  obtain ⟨n, hn⟩ : ∃ n, L.length = n := ⟨_, rfl⟩
  rw [hn] at H H' hL hc hc' ⊢
  have HN := Lib.hid hn; clear hn
  have HF := Lib.hid hf; clear hf
  have HF' := Lib.hid hf'; clear hf'
  go_enter Try.func29, Try.ntmps29
  go_wp2_with fail
  go_loopw [5] (fun i wr => ∃ k q : Nat, k ≤ n ∧ i = .int .i64 k ∧ wr = w.drewN q) (fun i _ => n - (intOf i).toNat)
  case atStart => exact ⟨0, 0, by omega, rfl, rfl⟩
  case round =>
    obtain ⟨k, q, hk, rfl, rfl⟩ := hrel
    by_cases hlt : k < n
    · obtain ⟨g, rfl, hg1, hg2⟩ : ∃ g, ao = some ⟨g, 0, none⟩ ∧ B ≤ g ∧ g < w.heap.size := by
        rcases HF.out with ⟨_, h0⟩ | h0
        · have h1 := HN.out; rw [h0] at h1; simp at h1; omega
        · exact h0
      obtain ⟨g', rfl, hg1', hg2'⟩ : ∃ g, ao' = some ⟨g, 0, none⟩ ∧ B' ≤ g ∧ g < w.heap.size := by
        rcases HF'.out with ⟨_, h0⟩ | h0
        · have h1 := HN.out; rw [h0] at h1; simp at h1; omega
        · exact h0
      have c1 := H.out.cell k (by rw [HN.out]; exact hlt)
      have c2 := H'.out.cell k (by rw [HN.out]; exact hlt)
      generalize L.getD k [] = x at c1 c2
      go_wp2_with fail
      go_quiet (fail)
      go_wp2_with fail
      go_roundw
      case rel => exact ⟨k + 1, _, by omega, by go_num, rfl⟩
      case measure => simp [intOf]; omega
    · go_wp2_with fail
      go_ret
      exact ⟨rfl, below_drewN (Below.refl _ _) _⟩
theorem wfTexts (v v' : Value) (L : List (List UInt8)) (B B' : Nat) (w : World) (h : Strs w B v L) (h' : Strs w B' v' L) (hL : L.length ≤ 1000000) :
    Calls Try.prog 26 #[v, v'] w fun e w' => e = .returned (.bool true) ∧ Below w.heap.size w w' := by
  obtain ⟨ao, cap, rfl, hc, hf⟩ := h.form
  obtain ⟨ao', cap', rfl, hc', hf'⟩ := h'.form
  have H := Lib.hid h; clear h
  have H' := Lib.hid h'; clear h'
  obtain ⟨n, hn⟩ : ∃ n, L.length = n := ⟨_, rfl⟩
  rw [hn] at H H' hL hc hc' ⊢
  have HN := Lib.hid hn; clear hn
  have HF := Lib.hid hf; clear hf
  have HF' := Lib.hid hf'; clear hf'
  go_enter Try.func26, Try.ntmps26
  go_wp2_with fail
  go_loopw [5] (fun i wr => ∃ k q : Nat, k ≤ n ∧ i = .int .i64 k ∧ wr = w.drewN q) (fun i _ => n - (intOf i).toNat)
  case atStart => exact ⟨0, 0, by omega, rfl, rfl⟩
  case round =>
    obtain ⟨k, q, hk, rfl, rfl⟩ := hrel
    by_cases hlt : k < n
    · obtain ⟨g, rfl, hg1, hg2⟩ : ∃ g, ao = some ⟨g, 0, none⟩ ∧ B ≤ g ∧ g < w.heap.size := by
        rcases HF.out with ⟨_, h0⟩ | h0
        · have h1 := HN.out; rw [h0] at h1; simp at h1; omega
        · exact h0
      obtain ⟨g', rfl, hg1', hg2'⟩ : ∃ g, ao' = some ⟨g, 0, none⟩ ∧ B' ≤ g ∧ g < w.heap.size := by
        rcases HF'.out with ⟨_, h0⟩ | h0
        · have h1 := HN.out; rw [h0] at h1; simp at h1; omega
        · exact h0
      have c1 := H.out.cell k (by rw [HN.out]; exact hlt)
      have c2 := H'.out.cell k (by rw [HN.out]; exact hlt)
      generalize L.getD k [] = x at c1 c2
      go_wp2_with fail
      go_quiet (fail)
      go_wp2_with fail
      go_roundw
      case rel => exact ⟨k + 1, _, by omega, by go_num, rfl⟩
      case measure => simp [intOf]; omega
    · go_wp2_with fail
      go_ret
      exact ⟨rfl, below_drewN (Below.refl _ _) _⟩
end Go.Proofs.Ytgaiagpfnfnnaaa
