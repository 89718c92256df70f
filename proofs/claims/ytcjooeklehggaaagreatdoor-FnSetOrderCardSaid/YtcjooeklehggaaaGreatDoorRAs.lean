/- Lemmas of this seat. -/
import Derived.Test.YtcjooeklehggaaaGreatDoorZCs
import Derived.Test.YtcjooeklehggaaaGreatDoorZLs
import Derived.Test.YtcjooeklehggaaaGreatDoorZMs
import Derived.Test.YtcjooeklehggaaaGreatDoorZPs
import Derived.Test.YtcjooeklehggaaaGreatDoorYCs
import Derived.Test.YtcjooeklehggaaaGreatDoorYYs
set_option linter.unusedVariables false
set_option linter.unusedSimpArgs false
set_option maxRecDepth 100000
namespace Go.Proofs.YtcjooeklehggaaaGreatDoor
open Go.ChangeShapes Go.WideShapes Go.ChangeAt Go.RowKit M
theorem only_up {a x y : World} {row : Option Nat} {C : Nat} (h : a.grownBy x row) (k : Below C x y) (hC : a.heap.size ≤ C) : a.grownBy y row :=
 ⟨k.os.trans h.os, k.tape.trans h.tape, k.output.trans h.output, Nat.le_trans h.size k.size, fun i hi hne => (k.block i (by omega)).trans (h.block i hi hne)⟩
theorem only_beh {a x y : World} {row : Option Nat} (h : a.grownBy x row) (k : Below x.heap.size x y) : a.grownBy y row := only_up h k h.size
theorem Flds.rowed {w w' : World} {B b : Nat} {v : Value} {fs : List Fl} (h : Flds w B v fs) (hg : w.grownBy w' (some b)) (hb : b < B) : Flds w' B v fs :=
 World.ownsRow.kept h hg (.inr fun e => by have := (World.ownsRow.lt h b e).1; omega)
theorem Tys.rowed {w w' : World} {B b : Nat} {v : Value} {ps : List (Ty × Value)} (h : Tys w B v ps) (hg : w.grownBy w' (some b)) (hb : b < B) : Tys w' B v ps :=
 ⟨World.ownsRow.kept h.1 hg (.inr fun e => by have := (World.ownsRow.lt h.1 b e).1; omega), fun p hp => (h.2 p hp).rowed hg hb⟩
theorem Rdr.aside {B : Nat} {w w' : World} {b C : Nat} {ao : Option Addr} {len cap : Nat} {p : Int} (h : Rdr B w b ao len cap p) (hb : Below C w w') (hc : b < C) : Rdr B w' b ao len cap p :=
  ⟨by rw [← h.c0]; exact hb.cell (p := ⟨b, 0, none⟩) hc, by rw [← h.c1]; exact hb.cell (p := ⟨b, 1, none⟩) hc, by rw [← h.f1]; exact hb.frozen (p := ⟨b, 1, none⟩) hc, h.base, Nat.lt_of_lt_of_le h.lt hb.size,
   h.bts.below (hb.mono (Nat.le_of_lt (Nat.lt_of_le_of_lt h.base hc))), h.short, h.p0⟩
section
variable {w w' : World} {B q : Nat} {k t : Bs} {gs : List Int} {l : List V} {ps : List Nat} {a a' : Option Addr} {c c' : Nat}
theorem PP.rowed {r : Nat} (h : PP w B q k t gs l ps a c a' c') (hg : w.grownBy w' (some r)) (hr : r < q) : PP w' B q k t gs l ps a c a' c' := by
 have hlt := h.lt
 have hN : ∀ x, some r = some x → ¬ B ≤ x := by intro x e; injection e with e; omega
 exact ⟨hlt, h.blk.grown hg (by intro e; injection e with e; omega), h.tgs.rowed hg hN, h.kds.rowed hg hN, h.mny.rowed hg (fun x e hx => hN x e hx.1)⟩
theorem PP.after_kid (h : PP w B q k t gs l ps a c a' c') (hg : w.grownBy w' (Value.slice a' l.length c').ownBlock) : w'.cell? ⟨q, 3, none⟩ = some (.slice a' l.length c') ∧ w'.frozen? ⟨q, 3, none⟩ = false ∧ q < w'.heap.size := by
 have hlt := h.lt
 have hb := h.blk.grown hg (fun e => by have := h.kds.2 q e.symm; omega)
 exact ⟨hb.cell 3, hb.frozen 3, hb.lt⟩
theorem PP.kid' (h : PP w B q k t gs l ps a c a' c') (H : Nat) (hH : w.heap.size = H) {x : V} {p L g cap : Nat} (hx : VAt w (fun b => L ≤ b) x p) (hBL : B ≤ L) (ha : ∀ g, (Value.slice a gs.length c).ownBlock = some g → g < L) (ha' : ∀ g, (Value.slice a' l.length c').ownBlock = some g → g < L)
  (hk : Kids w' (fun b => B ≤ b ∨ H ≤ b) (.slice (some ⟨g, 0, none⟩) (ps.length + 1) cap) (ps ++ [p])) (hg : w.grownBy w' (Value.slice a' l.length c').ownBlock) (hgg : (Value.slice a' l.length c').ownBlock = some g ∨ g = H) (hB : B ≤ H) :
  PP (w'.setCell ⟨q, 3, none⟩ (.slice (some ⟨g, 0, none⟩) (ps.length + 1) cap)) B q k t gs (l ++ [x]) (ps ++ [p]) a c (some ⟨g, 0, none⟩) cap := by
 subst hH
 have e : ps.length = l.length := h.mny.1
 rw [e] at hk ⊢
 exact h.kid hx hBL ha ha' hk hg hgg hB
theorem PP.set_kid {w0 : World} {C : Nat} (h : PP w B q k t gs l ps a c a' c') (hb : Below w0.heap.size w0 w) (hC : C ≤ w0.heap.size) (hg : w.grownBy w' (Value.slice a' l.length c').ownBlock) (hq : C ≤ q) (u : Value) : Below C w0 (w'.setCell ⟨q, 3, none⟩ u) := by
 have hlt := h.lt
 have hz := hb.size
 exact ((hb.mono hC).trans (h.below_kid hg (by omega) (by omega))).setCell hq u
theorem PP.set_tag {w0 : World} {C : Nat} (h : PP w B q k t gs l ps a c a' c') (hb : Below w0.heap.size w0 w) (hC : C ≤ w0.heap.size) (hg : w.grownBy w' (Value.slice a gs.length c).ownBlock) (hq : C ≤ q) (u : Value) : Below C w0 (w'.setCell ⟨q, 2, none⟩ u) := by
 have hlt := h.lt
 have hz := hb.size
 exact ((hb.mono hC).trans (h.below_tag hg (by omega) (by omega))).setCell hq u
theorem VAt.plain {k t0 t : Bs} {N : Nat → Prop} (hN : N q) (h : Blk w q 133 #[.string (S k), .string (S t0), .slice none 0 0, .slice none 0 0]) : VAt (w.setCell ⟨q, 1, none⟩ (.string (S t))) N (.mk k t [] []) q :=
 .make hN (h.set_ 1 (.string (S t))) (Tgs.nil_ _ _) (Kids.nil_ _ _) (Many.nil_ _ _)
end
theorem idxV (l : List Int) (v : Int) (h0 : 0 ≤ v) (h1 : v < l.length) : ∃ x, x ∈ l ∧ ∀ h, (l.map fun n => Value.int .i64 n)[v.toNat]'h = .int .i64 x :=
 ⟨l[v.toNat]'(by omega), List.getElem_mem _, fun h => by rw [List.getElem_map]⟩
def DrawV (X : List Ty) (k : Bs) (B b : Nat) (ao : Option Addr) (len cap : Nat) (p dp : Int) (L : Nat) (w : World) (e : Ending) (w' : World) : Prop :=
 ∃ (x : V) (q : Nat) (p' : Int), e = .returned (vp q) ∧ M.Tv X x ∧ x.kind = k ∧ (outV x).length ≤ L ∧ VAt w' (fun b => w.heap.size ≤ b) x q ∧ p ≤ p' ∧ p' ≤ p + dp ∧ Hid (Rdr B w' b ao len cap p') ∧ w.grownBy w' (some b)
def IVal (v : Value) (tps : List (Ty × Value)) (B0 B b : Nat) (ao : Option Addr) (len cap : Nat) (d D : Int) (L : Nat) (K : Bs → Prop) : Prop :=
 ∀ (k : Bs) (p : Int) (w : World), kOk k = true → coreOk (tps.map (·.1)) k = true → K k → Rdr B w b ao len cap p → p + D ≤ 890000 → Tys w B0 v tps → B0 ≤ w.heap.size →
  Calls Tryz.prog 83 #[.pointer (some ⟨b, 0, none⟩), v, .string (S k), .int .i64 d] w (DrawV (tps.map (·.1)) k B b ao len cap p D L w)
def DrawQ (B b : Nat) (ao : Option Addr) (len cap : Nat) (p dp : Int) (w : World) (e : Ending) (w' : World) : Prop :=
 ∃ (l : List UInt8) (p' : Int), e = .returned (.string (S l)) ∧ textL l = true ∧ l.length ≤ 14 ∧ p ≤ p' ∧ p' ≤ p + dp ∧ Hid (Rdr B w' b ao len cap p') ∧ w.grownBy w' (some b)
theorem l91Text {B : Nat} {w : World} {b : Nat} {ao : Option Addr} {len cap : Nat} {p : Int} (h : Rdr B w b ao len cap p) (h1 : p ≤ 900000) :
  Calls Tryz.prog 107 #[.pointer (some ⟨b, 0, none⟩)] w (DrawQ B b ao len cap p 1 w) := by
 have H := Lib.hid h
 have hlt := h.lt
 have n0 : ¬ w.heap.size = b := by omega
 clear h
 go_enter Tryz.func107, Tryz.ntmps107
 go_wp2_with fail
 refine (pick_g (H.out.below (by (repeat (first | exact Below.refl _ _ | apply below_drew | apply below_draws | apply below_alloc | (refine below_trans ?_ (by assumption)) | (refine Below.trans ?_ (by assumption)))))) (by omega) _ (by omega) (by omega)).mono ?_
 rintro e w1 ⟨v, rfl, v0, v1, HR1, hz1, hc1, hf1, hg1⟩
 obtain ⟨x, hx, hx'⟩ := idxS [[], [97], [104, 105], [97, 32, 98], [122, 122, 57], [97, 98, 99, 100, 101, 102, 103, 104, 105, 106, 107, 108]] v v0 v1
 have hx2 : ∀ h, ([.string { data := #[] }, .string { data := #[97] }, .string { data := #[104, 105] }, .string { data := #[97, 32, 98] }, .string { data := #[122, 122, 57] }, .string { data := #[97, 98, 99, 100, 101, 102, 103, 104, 105, 106, 107, 108] }] : List Value)[v.toNat]'h = .string (S x) := hx'
 have hxl : x.length ≤ 12 := by simp at hx; rcases hx with rfl | rfl | rfl | rfl | rfl | rfl <;> simp
 have HT := Lib.hid (show textL (39 :: (x ++ [39])) = true by simp at hx; rcases hx with rfl | rfl | rfl | rfl | rfl | rfl <;> decide)
 have t1 := cat_run [39] x (by simp; omega)
 have t2 := cat_run (39 :: x) [39] (by simp; omega)
 have HG1 := Lib.hid (only_trans (only_alloc (World.grownBy.refl w _) _) hg1.out)
 clear hx hx' hg1
 go_wp2_with fail
 go_ret
 exact ⟨39 :: (x ++ [39]), p + 1, rfl, HT.out, by simp; omega, by omega, by omega, HR1, HG1.out⟩
theorem l91Some {B : Nat} {w : World} {b : Nat} {ao : Option Addr} {len cap : Nat} {p : Int} (s : Bs) (hs : s.length ≤ 2000000) (h : Rdr B w b ao len cap p) (h1 : p ≤ 800000) :
  Calls Tryz.prog 40 #[.pointer (some ⟨b, 0, none⟩), .string (S s)] w (DrawS B b ao len cap p 10 20 w) := by
 have H := Lib.hid h
 have hlt := h.lt
 clear h
 go_enter Tryz.func40, Tryz.ntmps40
 go_wp2_with fail
 refine (pick_g H.out (by omega) _ (by omega) (by omega)).mono ?_
 rintro e w1 ⟨v, rfl, v0, v1, HR1, hz1, hc1, hf1, hg1⟩
 have n1 : ¬ w1.heap.size = b := by omega
 have HG1 := Lib.hid hg1.out
 clear hc1 hf1 hg1 hz1
 by_cases hv : v = 0
 ·subst hv
  go_wp2_with fail
  refine (l91Kind HR1.out (by omega)).mono ?_
  rintro e w2 ⟨l, p2, rfl, hl, hp, hp', HR2, hg2⟩
  have HG2 := Lib.hid (only_trans HG1.out hg2)
  clear hg2
  go_wp2_with fail
  go_ret
  exact ⟨l, p2, rfl, hl, by omega, by omega, HR2, HG2.out⟩
 ·have hv' : (v == 0) = false := by simp [hv]
  clear hv
  go_wp2_with fail
  refine (pick_g (HR1.out.below (by (repeat (first | exact Below.refl _ _ | apply below_drew | apply below_draws | apply below_alloc | (refine below_trans ?_ (by assumption)) | (refine Below.trans ?_ (by assumption)))))) (by omega) _ (by omega) (by omega)).mono ?_
  rintro e w4 ⟨u, rfl, u0, u1, HR4, hz4, hc4, hf4, hg4⟩
  obtain ⟨y, hy, hy'⟩ := idxS [[64, 97, 59], [64, 97, 59], [64, 97, 59], [64, 98, 59], [64, 99, 59], [91, 110], [63, 64, 97, 59], [110], [116], [91, 64, 98, 59], [63, 91, 102]] u u0 u1
  have hy2 : ∀ h, ([.string { data := #[64, 97, 59] }, .string { data := #[64, 97, 59] }, .string { data := #[64, 97, 59] }, .string { data := #[64, 98, 59] }, .string { data := #[64, 99, 59] }, .string { data := #[91, 110] }, .string { data := #[63, 64, 97, 59] }, .string { data := #[110] }, .string { data := #[116] }, .string { data := #[91, 64, 98, 59] }, .string { data := #[63, 91, 102] }] : List Value)[u.toNat]'h = .string (S y) := hy'
  have hyl : y.length ≤ 4 := by simp at hy; rcases hy with rfl | rfl | rfl | rfl | rfl | rfl | rfl | rfl | rfl | rfl | rfl <;> simp
  have HG4 := Lib.hid (only_trans (only_alloc HG1.out _) hg4.out)
  have HK := Lib.hid (fun w => k_l3Kind s y w hs (by omega))
  clear hy hy' hg4
  go_wp2_with fail
  clear hy2 hc4 hf4
  refine (HK.out _).mono ?_
  rintro e w5 ⟨xv, tps, rfl, -, -, -, hb5⟩
  have HR5 := Lib.hid (HR4.out.below hb5)
  have HG5 := Lib.hid (only_below HG4.out hb5)
  generalize (kindS s y).isSome = ok at *
  clear hb5
  cases ok with
  | true =>
   go_wp2_with fail
   go_ret
   exact ⟨y, p + 1 + 1, rfl, by omega, by omega, by omega, HR5, HG5.out⟩
  | false =>
   go_wp2_with fail
   go_ret
   exact ⟨[110], p + 1 + 1, rfl, by simp, by omega, by omega, HR5, HG5.out⟩
end Go.Proofs.YtcjooeklehggaaaGreatDoor
