/- Lemmas of this seat. -/
import Derived.Test.YtcjooeklehggaaaGreatDoorRAs
set_option linter.unusedVariables false
set_option linter.unusedSimpArgs false
set_option maxRecDepth 100000
namespace Go.Proofs.YtcjooeklehggaaaGreatDoor
open Go.ChangeShapes Go.WideShapes Go.ChangeAt Go.RowKit M
theorem mulD {n m : Nat} {D : Int} (h : n ≤ m) (hD : 0 ≤ D) : (n : Int) * D ≤ (m : Int) * D := Int.mul_le_mul_of_nonneg_right (by omega) hD
theorem mulS (n : Nat) (D : Int) : ((n + 1 : Nat) : Int) * D = (n : Int) * D + D := by rw [show ((n + 1 : Nat) : Int) = (n : Int) + 1 by omega, Int.add_mul, Int.one_mul]
theorem DrawV.mk_ {X : List Ty} {k : Bs} {B b : Nat} {ao : Option Addr} {len cap : Nat} {p dp : Int} {L : Nat} {w w' : World} {x : V} {q : Nat} {p' : Int} {L' : Nat} (hx : M.Tv X x ∧ (outV x).length ≤ L') (hk : x.kind = k) (hL : L' ≤ L) (hv : VAt w' (fun b => w.heap.size ≤ b) x q) (h1 : p ≤ p') (h2 : p' ≤ p + dp) (hr : Rdr B w' b ao len cap p') (hg : w.grownBy w' (some b)) :
  DrawV X k B b ao len cap p dp L w (.returned (vp q)) w' := ⟨x, q, p', rfl, hx.1, hk, Nat.le_trans hx.2 hL, hv, h1, h2, hr, hg⟩
section
variable {v : Value} {tps : List (Ty × Value)} {B0 B b : Nat} {ao : Option Addr} {len cap : Nat} {p d : Int} {k : Bs} {w : World}
set_option maxHeartbeats 2000000 in
theorem d_value_n (hk : k = [110]) (h : Rdr B w b ao len cap p) (h1 : p ≤ 890000) :
  Calls Tryz.prog 83 #[.pointer (some ⟨b, 0, none⟩), v, .string (S k), .int .i64 d] w (DrawV (tps.map (·.1)) k B b ao len cap p 2 20 w) := by
 have H := Lib.hid h
 have hlt := h.lt
 have HK := Lib.hid hk
 have n0 : ¬ w.heap.size = b := by omega
 have e1 : (at_ k 0 == 110) = true := by rw [hk]; decide
 have hk0 : 0 < k.length := by rw [hk]; simp
 have KV := Lib.hid (Blk.new w 133 #[.string (S k), .string { data := #[] }, .slice none 0 0, .slice none 0 0])
 clear h hk
 go_enter Tryz.func83, Tryz.ntmps83
 go_wp2_with fail
 refine (pick_g (H.out.below (by (repeat (first | exact Below.refl _ _ | apply below_drew | apply below_draws | apply below_alloc | (refine below_trans ?_ (by assumption)) | (refine Below.trans ?_ (by assumption)))))) (by omega) _ (by omega) (by omega)).mono ?_
 rintro e w1 ⟨m, rfl, m0, m1, HR1, hz1, hc1, hf1, hg1⟩
 have n1 : ¬ w1.heap.size = b := by simp at hz1; omega
 have HG1 := Lib.hid (only_trans (only_alloc (World.grownBy.refl w _) _) hg1.out)
 have KV1 := Lib.hid (KV.out.grown hg1.out (by simpa using n0))
 clear hc1 hf1 hg1 hz1
 go_wp2_with fail
 refine (pick_g (HR1.out.below (by (repeat (first | exact Below.refl _ _ | apply below_drew | apply below_draws | apply below_alloc | (refine below_trans ?_ (by assumption)) | (refine Below.trans ?_ (by assumption)))))) (by omega) _ (by omega) (by omega)).mono ?_
 rintro e w2 ⟨u, rfl, u0, u1, HR2, hz2, hc2, hf2, hg2⟩
 obtain ⟨x, hx, hx'⟩ := idxV [0, 5, m, 127, 128, 16383, 16384, 999999] u u0 u1
 have hx2 : ∀ h, ([.int .i64 0, .int .i64 5, .int .i64 m, .int .i64 127, .int .i64 128, .int .i64 16383, .int .i64 16384, .int .i64 999999] : List Value)[u.toNat]'h = .int .i64 x := hx'
 have hxl : 0 ≤ x ∧ x ≤ 999999 := by simp at hx; omega
 have HG2 := Lib.hid (only_trans (only_alloc HG1.out _) hg2.out)
 have KV2 := Lib.hid ((KV1.out.alloc _).grown hg2.out (by simpa using n0))
 have HD := Lib.hid (fun w => k_l6Dec 1000000 x w (by omega) hxl.1 (by omega))
 have HX := Lib.hid hxl
 clear hx hx' hg2 KV1
 go_wp2_with fail
 clear hx2 hc2 hf2
 refine (HD.out _).mono ?_
 rintro e w3 ⟨rfl, hb3⟩
 have KV3 := Lib.hid (KV2.out.keep hb3)
 have c1 := KV3.out.cell 1
 have f1 := KV3.out.frozen 1
 have hlt3 := KV3.out.lt
 have HR3 := Lib.hid (HR2.out.below hb3)
 have HG3 := Lib.hid (only_beh HG2.out hb3)
 simp at c1
 clear hb3
 go_wp2_with fail
 go_ret
 exact DrawV.mk_ (draw_num HX.out.1 HX.out.2) HK.out.symm (by omega) (VAt.plain (Nat.le_refl _) (by rw [← HK.out]; exact KV3.out)) (by omega) (by omega) (HR3.out.aside ((Below.refl w.heap.size w3).setCell (Nat.le_refl _) _) hlt) (only_up HG3.out ((Below.refl w.heap.size w3).setCell (Nat.le_refl _) _) (Nat.le_refl _))
set_option maxHeartbeats 2000000 in
theorem d_value_t (hk : k = [116]) (h : Rdr B w b ao len cap p) (h1 : p ≤ 890000) :
  Calls Tryz.prog 83 #[.pointer (some ⟨b, 0, none⟩), v, .string (S k), .int .i64 d] w (DrawV (tps.map (·.1)) k B b ao len cap p 2 20 w) := by
 have H := Lib.hid h
 have hlt := h.lt
 have HK := Lib.hid hk
 have n0 : ¬ w.heap.size = b := by omega
 have e1 : (at_ k 0 == 110) = false := by rw [hk]; decide
 have e2 : (at_ k 0 == 116) = true := by rw [hk]; decide
 have hk0 : 0 < k.length := by rw [hk]; simp
 have KV := Lib.hid (Blk.new w 133 #[.string (S k), .string { data := #[] }, .slice none 0 0, .slice none 0 0])
 clear h hk
 go_enter Tryz.func83, Tryz.ntmps83
 go_wp2_with fail
 refine (l91Text (H.out.below (by (repeat (first | exact Below.refl _ _ | apply below_drew | apply below_draws | apply below_alloc | (refine below_trans ?_ (by assumption)) | (refine Below.trans ?_ (by assumption)))))) (by omega)).mono ?_
 rintro e w3 ⟨t, p3, rfl, ht, htl, hp, hp', HR3, hg3⟩
 have KV3 := Lib.hid (KV.out.grown hg3 (by simpa using n0))
 have c1 := KV3.out.cell 1
 have f1 := KV3.out.frozen 1
 have hlt3 := KV3.out.lt
 have HG3 := Lib.hid (only_trans (only_alloc (World.grownBy.refl w _) _) hg3)
 have HT := Lib.hid (And.intro ht htl)
 simp at c1
 clear hg3 ht
 go_wp2_with fail
 go_ret
 exact DrawV.mk_ (draw_text HT.out.1 HT.out.2) HK.out.symm (by omega) (VAt.plain (Nat.le_refl _) (by rw [← HK.out]; exact KV3.out)) (by omega) (by omega) (HR3.out.aside ((Below.refl w.heap.size w3).setCell (Nat.le_refl _) _) hlt) (only_up HG3.out ((Below.refl w.heap.size w3).setCell (Nat.le_refl _) _) (Nat.le_refl _))
set_option maxHeartbeats 2000000 in
theorem d_value_f (hk : k = [102]) (h : Rdr B w b ao len cap p) (h1 : p ≤ 890000) :
  Calls Tryz.prog 83 #[.pointer (some ⟨b, 0, none⟩), v, .string (S k), .int .i64 d] w (DrawV (tps.map (·.1)) k B b ao len cap p 2 20 w) := by
 have H := Lib.hid h
 have hlt := h.lt
 have HK := Lib.hid hk
 have n0 : ¬ w.heap.size = b := by omega
 have n1 : ¬ w.heap.size + 1 = b := by omega
 have e1 : (at_ k 0 == 110) = false := by rw [hk]; decide
 have e2 : (at_ k 0 == 116) = false := by rw [hk]; decide
 have e3 : (at_ k 0 == 102) = true := by rw [hk]; decide
 have hk0 : 0 < k.length := by rw [hk]; simp
 have KV := Lib.hid ((Blk.new w 133 #[.string (S k), .string { data := #[] }, .slice none 0 0, .slice none 0 0]).alloc (.cells #[.string { data := #[121, 101, 115] }, .string { data := #[110, 111] }] 9))
 clear h hk
 go_enter Tryz.func83, Tryz.ntmps83
 go_wp2_with fail
 refine (pick_g (H.out.below (by (repeat (first | exact Below.refl _ _ | apply below_drew | apply below_draws | apply below_alloc | (refine below_trans ?_ (by assumption)) | (refine Below.trans ?_ (by assumption)))))) (by omega) _ (by omega) (by omega)).mono ?_
 rintro e w3 ⟨u, rfl, u0, u1, HR3, hz3, hc3, hf3, hg3⟩
 obtain ⟨x, hx, hx'⟩ := idxS [[121, 101, 115], [110, 111]] u u0 u1
 have hx2 : ∀ h, ([.string { data := #[121, 101, 115] }, .string { data := #[110, 111] }] : List Value)[u.toNat]'h = .string (S x) := hx'
 have HX := Lib.hid (show x = [121, 101, 115] ∨ x = [110, 111] by simpa using hx)
 have KV3 := Lib.hid (KV.out.grown hg3.out (by simpa using n0))
 have c1 := KV3.out.cell 1
 have f1 := KV3.out.frozen 1
 have hlt3 := KV3.out.lt
 have HG3 := Lib.hid (only_trans (only_alloc (only_alloc (World.grownBy.refl w _) _) _) hg3.out)
 simp at c1
 clear hg3 hx hx'
 go_wp2_with fail
 go_ret
 exact DrawV.mk_ (draw_flag HX.out) HK.out.symm (by omega) (VAt.plain (Nat.le_refl _) (by rw [← HK.out]; exact KV3.out)) (by omega) (by omega) (HR3.out.aside ((Below.refl w.heap.size w3).setCell (Nat.le_refl _) _) hlt) (only_up HG3.out ((Below.refl w.heap.size w3).setCell (Nat.le_refl _) _) (Nat.le_refl _))
end
end Go.Proofs.YtcjooeklehggaaaGreatDoor
