/- Lemmas of this seat. -/
import Derived.Test.YtcjooeklehggaaaGreatDoorYRs
import Derived.Test.YtcjooeklehggaaaGreatDoorRBs
set_option linter.unusedVariables false
set_option linter.unusedSimpArgs false
set_option maxRecDepth 100000
namespace Go.Proofs.YtcjooeklehggaaaGreatDoor
open Go.ChangeShapes Go.WideShapes Go.ChangeAt Go.RowKit M
section
variable {v : Value} {tps : List (Ty × Value)} {B0 B b : Nat} {ao : Option Addr} {len cap : Nat} {p d D : Int} {L : Nat} {k : Bs} {w : World}
set_option maxHeartbeats 4000000 in
theorem d_value_list (h91 : at_ k 0 = 91) (hko : kOk k = true) (hco : coreOk (tps.map (·.1)) k = true) (hD : 0 ≤ D) (hd : -100 ≤ d ∧ d ≤ 100) (IH : 0 < d → IVal v tps B0 B b ao len cap (d - 1) D L (fun _ => True))
  (h : Rdr B w b ao len cap p) (h1 : p + (3 * D + 1) ≤ 890000) (hT : Tys w B0 v tps) (hbB : b < B0) (hB : B0 ≤ w.heap.size) :
  Calls Tryz.prog 83 #[.pointer (some ⟨b, 0, none⟩), v, .string (S k), .int .i64 d] w (DrawV (tps.map (·.1)) k B b ao len cap p (3 * D + 1) (3 * L + 5) w) := by
 have H := Lib.hid h
 have hlt := h.lt
 have HFIN := Lib.hid (fun (n : Nat) (l : List V) (hn : n ≤ 3) (hi : ItP (tps.map (·.1)) (k.drop 1) n L l) => hi.list hn hko h91)
 have HIH := Lib.hid (fun (hd0 : 0 < d) (W : World) (q : Int) (hR : Rdr B W b ao len cap q) (hq : q + D ≤ 890000) (hg : w.grownBy W (some b)) => IH hd0 (k.drop 1) q W (kOk_drop hko (.inl h91)) (core_drop hko (.inl h91) hco) trivial hR hq (hT.rowed hg hbB) (by have := hg.size; omega))
 rw [List.drop_one] at HFIN HIH
 have n0 : ¬ w.heap.size = b := by omega
 have e1 : (at_ k 0 == 110) = false := by simp [h91]
 have e2 : (at_ k 0 == 116) = false := by simp [h91]
 have e3 : (at_ k 0 == 102) = false := by simp [h91]
 have e4 : (at_ k 0 == 91) = true := by simp [h91]
 have hkl := kOk_len hko
 have hk0 : 0 < k.length := hkl.2
 have hk1 : (1 : Int) ≤ (k.length : Int) := by have := hkl.2; omega
 have ew : IntKind.i64.wrap (d - 1) = d - 1 := IntWalk.i64_in _ (by omega)
 have PP0 := Lib.hid (PP.start (B := w.heap.size + 1) (q := w.heap.size) (k := k) (t := []) (w.alloc (.cells #[.string (S k), .string { data := #[] }, .slice none 0 0, .slice none 0 0] 133)) (by omega) (Blk.new _ _ _))
 clear h h91 hko hco IH hT hbB hB hkl
 go_enter Tryz.func83, Tryz.ntmps83
 go_wp2_with fail
 refine (pick_g (H.out.below (by (repeat (first | exact Below.refl _ _ | apply below_drew | apply below_draws | apply below_alloc | (refine below_trans ?_ (by assumption)) | (refine Below.trans ?_ (by assumption)))))) (by omega) _ (by omega) (by omega)).mono ?_
 rintro e w1 ⟨j0, rfl, m0, m1, HR1, hz1, hc1, hf1, hg1⟩
 have PP1 := Lib.hid (PP0.out.rowed hg1.out hlt)
 have HG1 := Lib.hid (only_trans (only_alloc (World.grownBy.refl w _) _) hg1.out)
 clear hc1 hf1 hg1 PP0 hz1 n0
 go_wp2_with fail
 go_loopw [10] (fun i wr => ∃ (j : Int) (n : Nat) (l : List V) (ps : List Nat) (a' : Option Addr) (c' : Nat) (q : Int), i = .int .i64 j ∧ 0 ≤ j ∧ j + n ≤ 3 ∧ p ≤ q ∧ q ≤ p + 1 + n * D ∧ Hid (ItP (tps.map (·.1)) k.tail n L l) ∧ Hid (PP wr (w.heap.size + 1) w.heap.size k [] [] l ps none 0 a' c') ∧ Hid (Rdr B wr b ao len cap q) ∧ Hid (w.grownBy wr (some b))) (fun i _ => (intOf i).toNat)
 case atStart => exact ⟨j0, 0, [], [], none, 0, p + 1, rfl, by omega, by omega, by omega, by simp, ItP.nil_ _ _ _, PP1.out, HR1, HG1.out⟩
 case round =>
  obtain ⟨j, n, l, ps, a', c', q, rfl, j0', jn, q0, q1, HI, HPP, HQ, HG⟩ := hrel
  clear PP1 HG1 HR1
  have hwz := HG.out.size
  have HPS := Lib.hid (show ps.length ≤ 3000000 by have : ps.length = l.length := HPP.out.mny.1; have := HI.out.1; omega)
  have hln : l.length ≤ n := HI.out.1
  have hnD := mulD (m := 3) (show n ≤ 3 by omega) hD
  obtain ⟨hq, -, p3, -, f3, -, ha'⟩ := HPP.out.cells
  by_cases hj : 0 < j
  ·by_cases hd0 : 0 < d
   ·have hnD' := mulD (m := 2) (show n ≤ 2 by omega) hD
    have hnS := mulS n D
    have HPf := Lib.hid (fun W (hbw : Below wr.heap.size wr W) => HPP.out.belowed hbw)
    have HGf := Lib.hid (fun W (hbw : Below wr.heap.size wr W) => only_beh HG.out hbw)
    have HIw := Lib.hid (fun W (hbw : Below wr.heap.size wr W) => HIH.out hd0 W q (HQ.out.below hbw) (by omega) (only_beh HG.out hbw))
    have HA := Lib.hid ha'
    clear HFIN HIH ha'
    go_upto_region 16 with fail
    go_region_law (first
     | (refine step_app_kid rfl (.tmp 65) (.tmp 73) rfl (fun b => w.heap.size + 1 ≤ b) _ ps (by simp [Act.eval, Act.put]) (HP3.out _ (by repeat (with_reducible first | exact Below.refl _ _ | apply below_drew | apply below_alloc))).kds w3.heap.size qx (by simp [Act.eval, Act.put]) (by simp [go_sem]) HPS.out (w3.heap.size + 1) (by simp) ?_; intro g cap' w' hk' hg' hgg hlt'; obtain ⟨kq, fq, lq⟩ := PP.after_kid (HP3.out _ (by repeat (with_reducible first | exact Below.refl _ _ | apply below_drew | apply below_alloc))) hg')
     | (go_simp; go_at_call 83; (with_reducible refine (HIw.out _ (by repeat (with_reducible first | exact Below.refl _ _ | apply below_drew | apply below_alloc))).mono ?_); rintro e w3 ⟨x, qx, p3', rfl, hx, hxk, hxl, hxv, hp, hp', HR3, hg3⟩; have HP3 := Lib.hid (fun W (hbw : Below w3.heap.size w3 W) => (((HPf.out _ (by repeat (with_reducible first | exact Below.refl _ _ | apply below_drew | apply below_alloc))).rowed hg3 (by omega)).belowed hbw)); have HG3 := Lib.hid (only_trans (HGf.out _ (by repeat (with_reducible first | exact Below.refl _ _ | apply below_drew | apply below_alloc))) hg3); have hz3 := hg3.size; obtain ⟨hq3, -, k3, -, fz3, -, -⟩ := (HP3.out _ (Below.refl _ _)).cells))
    all_goals
     have hwz3 : wr.heap.size ≤ w3.heap.size := by simpa using hz3
     have HBe := Lib.hid ((HP3.out _ (by repeat (with_reducible first | exact Below.refl _ _ | apply below_drew | apply below_alloc))).set_kid (by repeat (with_reducible first | exact Below.refl _ _ | apply below_drew | apply below_alloc)) (show w.heap.size ≤ w3.heap.size by omega) hg' (Nat.le_refl _) (.slice (some ⟨g, 0, none⟩) (ps.length + 1) cap'))
     have HNew := Lib.hid ((HP3.out _ (by repeat (with_reducible first | exact Below.refl _ _ | apply below_drew | apply below_alloc))).kid' (w3.heap.size + 1) (by simp) (x := x) (L := wr.heap.size) ((hxv.belowed (by repeat (with_reducible first | exact Below.refl _ _ | apply below_drew | apply below_alloc))).imp (by intro b _ h; simpa using h)) (by omega) (by intro g e; cases e) HA.out hk' hg' hgg (by omega))
     have HI2 := Lib.hid (HI.out.more hx hxk hxl)
     have HGN := Lib.hid (only_up HG3.out HBe.out (Nat.le_refl _))
     have HRN := Lib.hid (HR3.out.aside HBe.out hlt)
     clear hk' hg' hgg HPf HGf HP3 HG3 HBe hxv hg3 HR3 HIw
     go_wp2_with fail
     go_roundw
     case rel => exact ⟨j - 1, n + 1, l ++ [x], ps ++ [qx], some ⟨g, 0, none⟩, cap', p3', by go_num, by omega, by omega, by omega, by omega, HI2.out, HNew.out, HRN.out, HGN.out⟩
     case measure => simp [intOf]; omega
   ·clear HIH
    go_wp2_with fail
    go_ret
    exact DrawV.mk_ (HFIN.out n l (by omega) HI.out) rfl (Nat.le_refl _) (HPP.out.done (Nat.le_refl _)) (by omega) (by omega) HQ HG.out
  ·clear HIH
   go_wp2_with fail
   go_ret
   exact DrawV.mk_ (HFIN.out n l (by omega) HI.out) rfl (Nat.le_refl _) (HPP.out.done (Nat.le_refl _)) (by omega) (by omega) HQ HG.out
set_option maxHeartbeats 4000000 in
theorem d_value_may (h63 : at_ k 0 = 63) (hko : kOk k = true) (hco : coreOk (tps.map (·.1)) k = true) (hD : 0 ≤ D) (hd : -100 ≤ d ∧ d ≤ 100) (IH : 0 < d → IVal v tps B0 B b ao len cap (d - 1) D L (fun _ => True))
  (h : Rdr B w b ao len cap p) (h1 : p + (D + 1) ≤ 890000) (hT : Tys w B0 v tps) (hbB : b < B0) (hB : B0 ≤ w.heap.size) :
  Calls Tryz.prog 83 #[.pointer (some ⟨b, 0, none⟩), v, .string (S k), .int .i64 d] w (DrawV (tps.map (·.1)) k B b ao len cap p (D + 1) (L + 1) w) := by
 have H := Lib.hid h
 have hlt := h.lt
 have HNO := Lib.hid (draw_may (X := tps.map (·.1)) hko h63)
 have HYES := Lib.hid (fun (x : V) (hx : M.Tv (tps.map (·.1)) x) (hxk : x.kind = k.tail) (hl : (outV x).length ≤ L) => draw_some hko h63 hx (by rw [List.drop_one]; exact hxk) hl)
 have HIH := Lib.hid (fun (hd0 : 0 < d) (W : World) (q : Int) (hR : Rdr B W b ao len cap q) (hq : q + D ≤ 890000) (hg : w.grownBy W (some b)) => IH hd0 (k.drop 1) q W (kOk_drop hko (.inr h63)) (core_drop hko (.inr h63) hco) trivial hR hq (hT.rowed hg hbB) (by have := hg.size; omega))
 rw [List.drop_one] at HIH
 have n0 : ¬ w.heap.size = b := by omega
 have e1 : (at_ k 0 == 110) = false := by simp [h63]
 have e2 : (at_ k 0 == 116) = false := by simp [h63]
 have e3 : (at_ k 0 == 102) = false := by simp [h63]
 have e4 : (at_ k 0 == 91) = false := by simp [h63]
 have e5 : (at_ k 0 == 63) = true := by simp [h63]
 have hkl := kOk_len hko
 have hk0 : 0 < k.length := hkl.2
 have hk1 : (1 : Int) ≤ (k.length : Int) := by have := hkl.2; omega
 have ew : IntKind.i64.wrap (d - 1) = d - 1 := IntWalk.i64_in _ (by omega)
 have PP0 := Lib.hid (PP.start (B := w.heap.size + 1) (q := w.heap.size) (k := k) (t := []) (w.alloc (.cells #[.string (S k), .string { data := #[] }, .slice none 0 0, .slice none 0 0] 133)) (by omega) (Blk.new _ _ _))
 clear h h63 hko hco IH hT hbB hB hkl
 by_cases hd0 : 0 < d
 case neg =>
  clear HIH
  have HR := Lib.hid (H.out.below (below_alloc (Below.refl _ w) (.cells #[.string (S k), .string { data := #[] }, .slice none 0 0, .slice none 0 0] 133)))
  go_enter Tryz.func83, Tryz.ntmps83
  go_wp2_with fail
  go_ret
  exact DrawV.mk_ HNO.out rfl (by omega) (PP0.out.done (Nat.le_refl _)) (by omega) (by omega) HR (only_alloc (World.grownBy.refl w _) _)
 go_enter Tryz.func83, Tryz.ntmps83
 go_wp2_with fail
 refine (pick_g (H.out.below (by (repeat (first | exact Below.refl _ _ | apply below_drew | apply below_draws | apply below_alloc | (refine below_trans ?_ (by assumption)) | (refine Below.trans ?_ (by assumption)))))) (by omega) _ (by omega) (by omega)).mono ?_
 rintro e wr ⟨j0, rfl, m0, m1, HQ, hz1, hc1, hf1, hg1⟩
 have HPP := Lib.hid (PP0.out.rowed hg1.out hlt)
 have HG := Lib.hid (only_trans (only_alloc (World.grownBy.refl w _) _) hg1.out)
 clear hc1 hf1 hg1 PP0 hz1 n0
 by_cases hj : 0 < j0
 case neg =>
  clear HIH
  go_wp2_with fail
  go_ret
  exact DrawV.mk_ HNO.out rfl (by omega) (HPP.out.done (Nat.le_refl _)) (by omega) (by omega) HQ HG.out
 have hwz := HG.out.size
 obtain ⟨hq, -, p3, -, f3, -, ha'⟩ := HPP.out.cells
 have HPf := Lib.hid (fun W (hbw : Below wr.heap.size wr W) => HPP.out.belowed hbw)
 have HGf := Lib.hid (fun W (hbw : Below wr.heap.size wr W) => only_beh HG.out hbw)
 have HIw := Lib.hid (fun W (hbw : Below wr.heap.size wr W) => HIH.out hd0 W (p + 1) (HQ.out.below hbw) (by omega) (only_beh HG.out hbw))
 have HA := Lib.hid ha'
 clear HIH ha' HNO
 go_upto_region 20 with fail
 go_region_law (first
  | (refine step_app_kid rfl (.tmp 91) (.tmp 99) rfl (fun b => w.heap.size + 1 ≤ b) _ [] (by simp [Act.eval, Act.put]) (HP3.out _ (by repeat (with_reducible first | exact Below.refl _ _ | apply below_drew | apply below_alloc))).kds w3.heap.size qx (by simp [Act.eval, Act.put]) (by simp [go_sem]) (Nat.zero_le _) (w3.heap.size + 1) (by simp) ?_; intro g cap' w' hk' hg' hgg hlt'; obtain ⟨kq, fq, lq⟩ := PP.after_kid (HP3.out _ (by repeat (with_reducible first | exact Below.refl _ _ | apply below_drew | apply below_alloc))) hg')
  | (go_simp; go_at_call 83; (with_reducible refine (HIw.out _ (by repeat (with_reducible first | exact Below.refl _ _ | apply below_drew | apply below_alloc))).mono ?_); rintro e w3 ⟨x, qx, p3', rfl, hx, hxk, hxl, hxv, hp, hp', HR3, hg3⟩; have HP3 := Lib.hid (fun W (hbw : Below w3.heap.size w3 W) => (((HPf.out _ (by repeat (with_reducible first | exact Below.refl _ _ | apply below_drew | apply below_alloc))).rowed hg3 (by omega)).belowed hbw)); have HG3 := Lib.hid (only_trans (HGf.out _ (by repeat (with_reducible first | exact Below.refl _ _ | apply below_drew | apply below_alloc))) hg3); have hz3 := hg3.size; obtain ⟨hq3, -, k3, -, fz3, -, -⟩ := (HP3.out _ (Below.refl _ _)).cells))
 all_goals
  have hwz3 : wr.heap.size ≤ w3.heap.size := by simpa using hz3
  have HBe := Lib.hid ((HP3.out _ (by repeat (with_reducible first | exact Below.refl _ _ | apply below_drew | apply below_alloc))).set_kid (by repeat (with_reducible first | exact Below.refl _ _ | apply below_drew | apply below_alloc)) (show w.heap.size ≤ w3.heap.size by omega) hg' (Nat.le_refl _) (.slice (some ⟨g, 0, none⟩) 1 cap'))
  have HNew := Lib.hid ((HP3.out _ (by repeat (with_reducible first | exact Below.refl _ _ | apply below_drew | apply below_alloc))).kid' (w3.heap.size + 1) (by simp) (x := x) (L := wr.heap.size) ((hxv.belowed (by repeat (with_reducible first | exact Below.refl _ _ | apply below_drew | apply below_alloc))).imp (by intro b _ h; simpa using h)) (by omega) (by intro g e; cases e) HA.out hk' hg' hgg (by omega))
  have HY := Lib.hid (HYES.out x hx hxk hxl)
  have HGN := Lib.hid (only_up HG3.out HBe.out (Nat.le_refl _))
  have HRN := Lib.hid (HR3.out.aside HBe.out hlt)
  clear hk' hg' hgg HPf HGf HP3 HG3 HBe hxv hg3 HR3 HIw
  go_wp2_with fail
  go_ret
  exact DrawV.mk_ HY.out rfl (Nat.le_refl _) (HNew.out.done (Nat.le_refl _)) (by omega) (by omega) HRN.out HGN.out
end
end Go.Proofs.YtcjooeklehggaaaGreatDoor
