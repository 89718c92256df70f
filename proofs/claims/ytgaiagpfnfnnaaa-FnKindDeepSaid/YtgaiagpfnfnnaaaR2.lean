/- Draws of strings by a reader: the word for what they leave; kinds. -/
import Derived.Test.YtgaiagpfnfnnaaaR1
import Derived.Test.YtgaiagpfnfnnaaaStrs
namespace Go.Proofs.Ytgaiagpfnfnnaaa
open Go.ChangeShapes Go.WideShapes Go.ChangeAt Go.RowKit M

theorem only_drewN {a w : World} {row : Option Nat} (h : a.grownBy w row) (n : Nat) : a.grownBy (w.drewN n) row := ⟨h.os, h.tape, h.output, h.size, h.block⟩
theorem only_alloc {a w : World} {row : Option Nat} (h : a.grownBy w row) (o : Obj) : a.grownBy (w.alloc o) row :=
  ⟨h.os, h.tape, h.output, Nat.le_trans h.size (by simp), fun i hi hne => (Below.heap_alloc w o i (Nat.lt_of_lt_of_le hi h.size)).trans (h.block i hi hne)⟩
theorem only_setCell {a w : World} {g : Nat} (h : a.grownBy w (some g)) {p : Addr} (hp : p.block = g ∨ a.heap.size ≤ p.block) (u : Value) : a.grownBy (w.setCell p u) (some g) :=
  ⟨h.os, h.tape, h.output, by simpa [World.setCell] using h.size, fun i hi hne => (Below.heap_setCell w p u i (by
    rintro rfl
    rcases hp with hp | hp
    · exact hne (by rw [hp])
    · omega)).trans (h.block i hi hne)⟩
theorem only_trans {a x y : World} {row : Option Nat} (h : a.grownBy x row) (k : x.grownBy y row) : a.grownBy y row := h.trans k
theorem below_of_only {w w' : World} {b B : Nat} (h : w.grownBy w' (some b)) (hb : B ≤ b) (hw : B ≤ w.heap.size) : Below B w w' :=
  ⟨h.os, h.tape, h.output, h.size, fun i hi => h.block i (by omega) (by intro e; injection e with e; omega)⟩

/-- A pick, with the word that only the reader's block has turned. -/
theorem pick_g {B : Nat} {w : World} {b : Nat} {ao : Option Addr} {len cap : Nat} {p : Int} (h : Rdr B w b ao len cap p) (h1 : p ≤ 1000000) (n : Int) (hn : 1 ≤ n) (hn2 : n ≤ 1000000) :
    Calls Try.prog 39 #[.pointer (some ⟨b, 0, none⟩), .int .i64 n] w fun e w' => ∃ v : Int, e = .returned (.int .i64 v) ∧ 0 ≤ v ∧ v < n ∧ Hid (Rdr B w' b ao len cap (p + 1)) ∧ w'.heap.size = w.heap.size ∧
      (∀ k o, k ≠ b → w'.cell? ⟨k, o, none⟩ = w.cell? ⟨k, o, none⟩) ∧ (∀ k o, k ≠ b → w'.frozen? ⟨k, o, none⟩ = w.frozen? ⟨k, o, none⟩) ∧ Hid (w.grownBy w' (some b)) := by
  refine (pick_any h h1 n hn hn2).mono ?_
  rintro e w' ⟨v, q, rfl, v0, v1, rfl⟩
  refine ⟨v, rfl, v0, v1, h.pick q, by simp, fun k o hk => by simp [go_sem], fun k o _ => by simp [go_sem], ?_⟩
  exact only_drewN (only_setCell (World.grownBy.refl _ _) (.inl rfl) _) q

/-- What a draw of a string leaves. -/
def DrawS (B b : Nat) (ao : Option Addr) (len cap : Nat) (p dp : Int) (N : Nat) (w : World) (e : Ending) (w' : World) : Prop :=
  ∃ (l : List UInt8) (p' : Int), e = .returned (.string (S l)) ∧ l.length ≤ N ∧ p ≤ p' ∧ p' ≤ p + dp ∧ Hid (Rdr B w' b ao len cap p') ∧ w.grownBy w' (some b)

set_option maxRecDepth 100000 in
theorem l91Kind {B : Nat} {w : World} {b : Nat} {ao : Option Addr} {len cap : Nat} {p : Int} (h : Rdr B w b ao len cap p) (h1 : p ≤ 900000) :
    Calls Try.prog 33 #[.pointer (some ⟨b, 0, none⟩)] w (DrawS B b ao len cap p 8 20 w) := by
  have H := Lib.hid h
  have hlt := h.lt
  clear h
  have n0 : ¬ w.heap.size = b := by omega
  go_enter Try.func33, Try.ntmps33
  go_wp2_with fail
  refine (pick_g (H.out.below (by (repeat (first | exact Below.refl _ _ | apply below_drew | apply below_draws | apply below_alloc | (refine below_trans ?_ (by assumption)) | (refine Below.trans ?_ (by assumption)))))) (by omega) _ (by omega) (by omega)).mono ?_
  rintro e w1 ⟨v, rfl, v0, v1, HR1, hz1, hc1, hf1, hg1⟩
  obtain ⟨x, hx, hx'⟩ := idxS [[110], [116], [102], [110], [116], [64, 97, 59], [64, 98, 59], [64, 99, 59]] v v0 v1
  have hx2 : ∀ h, ([.string { data := #[110] }, .string { data := #[116] }, .string { data := #[102] }, .string { data := #[110] }, .string { data := #[116] }, .string { data := #[64, 97, 59] }, .string { data := #[64, 98, 59] }, .string { data := #[64, 99, 59] }] : List Value)[v.toNat]'h = .string (S x) := hx'
  have hxl : x.length ≤ 3 := by simp at hx; rcases hx with rfl | rfl | rfl | rfl | rfl | rfl | rfl | rfl <;> simp
  clear hx hx'
  go_wp2_with fail
  clear hx2
  refine (pick_g (HR1.out.below (by (repeat (first | exact Below.refl _ _ | apply below_drew | apply below_draws | apply below_alloc | (refine below_trans ?_ (by assumption)) | (refine Below.trans ?_ (by assumption)))))) (by omega) _ (by omega) (by omega)).mono ?_
  rintro e w2 ⟨k, rfl, k0, k1, HR2, hz2, hc2, hf2, hg2⟩
  have HG2 := Lib.hid (only_trans (only_trans (only_alloc (World.grownBy.refl w _) _) hg1.out) hg2.out)
  have hs2 : w.heap.size < w2.heap.size := by simp [hz2, hz1]
  clear hg1 hg2 hc1 hf1 hc2 hf2 hz1 hz2 HR1
  go_wp2_with fail
  go_loopw [3, 4] (fun s i wr => ∃ (l : List UInt8) (j q : Int), s = .string (S l) ∧ i = .int .i64 j ∧ j ≤ 3 ∧ 0 ≤ j ∧ l.length + j ≤ 10 ∧ p ≤ q ∧ q + j ≤ p + 5 ∧ Hid (Rdr B wr b ao len cap q) ∧ Hid (w.grownBy wr (some b)) ∧ b < wr.heap.size) (fun _ i _ => (intOf i).toNat)
  case atStart => exact ⟨x, k, p + 1 + 1, rfl, rfl, by omega, by omega, by omega, by omega, by omega, HR2, HG2.out, by omega⟩
  case round =>
    obtain ⟨l, j, q, rfl, rfl, j3, j0, hl, q0, q1, HQ, HG, hb⟩ := hrel
    by_cases hj : 1 < j
    · have n1 : ¬ wr.heap.size = b := by omega
      go_wp2_with fail
      refine (pick_g (HQ.out.below (by (repeat (first | exact Below.refl _ _ | apply below_drew | apply below_draws | apply below_alloc | (refine below_trans ?_ (by assumption)) | (refine Below.trans ?_ (by assumption)))))) (by omega) _ (by omega) (by omega)).mono ?_
      rintro e w3 ⟨v, rfl, v0, v1, HR3, hz3, hc3, hf3, hg3⟩
      obtain ⟨y, hy, hy'⟩ := idxS [[91], [63], [91]] v v0 v1
      have hy2 : ∀ h, ([.string { data := #[91] }, .string { data := #[63] }, .string { data := #[91] }] : List Value)[v.toNat]'h = .string (S y) := hy'
      have hyl : y.length ≤ 1 := by simp at hy; rcases hy with rfl | rfl | rfl <;> simp
      clear hy hy'
      have hcat := cat_run y l (by omega)
      have HG3 := Lib.hid (only_trans (only_trans HG.out (only_alloc (World.grownBy.refl wr _) _)) hg3.out)
      go_wp2_with fail
      clear hy2 hcat
      go_roundw
      case rel => exact ⟨_, j - 1, q + 1, rfl, by go_num, by omega, by omega, by simp; omega, by omega, by omega, HR3, HG3.out, by simp [hz3]; omega⟩
      case measure => simp [intOf]; omega
    · have n1 : ¬ wr.heap.size = b := by omega
      go_wp2_with fail
      refine (pick_g (HQ.out.below (by (repeat (first | exact Below.refl _ _ | apply below_drew | apply below_draws | apply below_alloc | (refine below_trans ?_ (by assumption)) | (refine Below.trans ?_ (by assumption)))))) (by omega) _ (by omega) (by omega)).mono ?_
      rintro e w3 ⟨v, rfl, v0, v1, HR3, hz3, hc3, hf3, hg3⟩
      have n2 : ¬ w3.heap.size = b := by omega
      have HG3 := Lib.hid (only_trans HG.out hg3.out)
      by_cases hv : v = 0
      · subst hv
        go_wp2_with fail
        refine (pick_g (HR3.out.below (by (repeat (first | exact Below.refl _ _ | apply below_drew | apply below_draws | apply below_alloc | (refine below_trans ?_ (by assumption)) | (refine Below.trans ?_ (by assumption)))))) (by omega) _ (by omega) (by omega)).mono ?_
        rintro e w4 ⟨u, rfl, u0, u1, HR4, hz4, hc4, hf4, hg4⟩
        obtain ⟨y, hy, hy'⟩ := idxS [[], [120], [64, 59], [64, 65, 59], [91], [63, 63, 63, 63, 63, 63, 63, 63, 63, 63, 63, 63, 63, 63, 110], [64, 97], [110, 110]] u u0 u1
        have hy2 : ∀ h, ([.string { data := #[] }, .string { data := #[120] }, .string { data := #[64, 59] }, .string { data := #[64, 65, 59] }, .string { data := #[91] }, .string { data := #[63, 63, 63, 63, 63, 63, 63, 63, 63, 63, 63, 63, 63, 63, 110] }, .string { data := #[64, 97] }, .string { data := #[110, 110] }] : List Value)[u.toNat]'h = .string (S y) := hy'
        have hyl : y.length ≤ 15 := by simp at hy; rcases hy with rfl | rfl | rfl | rfl | rfl | rfl | rfl | rfl <;> simp
        clear hy hy'
        have HG4 := Lib.hid (only_trans (only_trans HG3.out (only_alloc (World.grownBy.refl w3 _) _)) hg4.out)
        go_wp2_with fail
        go_ret
        exact ⟨y, q + 1 + 1, rfl, by omega, by omega, by omega, HR4, HG4.out⟩
      · have hv' : (v == 0) = false := by simp [hv]
        clear hv
        go_wp2_with fail
        go_ret
        exact ⟨l, q + 1, rfl, by omega, by omega, by omega, HR3, HG3.out⟩

/-- What a law's draw of a string leaves. -/
def DrewS (N : Nat) (w : World) (e : Ending) (w' : World) : Prop := ∃ l : List UInt8, e = .returned (.string (S l)) ∧ l.length ≤ N ∧ Below w.heap.size w w'
theorem DrewS.of {B b : Nat} {ao : Option Addr} {len cap : Nat} {p dp : Int} {N : Nat} {w w1 : World} {e : Ending} {w' : World} (h : DrawS B b ao len cap p dp N w1 e w') (hb : Below w.heap.size w w1) (hl : w.heap.size ≤ b) : DrewS N w e w' := by
  obtain ⟨l, p', rfl, h1, _, _, _, hg⟩ := h
  exact ⟨l, rfl, h1, hb.trans (below_of_only hg hl hb.size)⟩
end Go.Proofs.Ytgaiagpfnfnnaaa
