/- Lemmas of this seat. -/
import Derived.Test.YtcjooeklehggaaaGreatDoorYXs
import Derived.Test.YtcjooeklehggaaaGreatDoorDBs
import Derived.Test.YtcjooeklehggaaaGreatDoorLBs
set_option linter.unusedVariables false
set_option linter.unusedSimpArgs false
set_option maxRecDepth 100000
namespace Go.Proofs.YtcjooeklehggaaaGreatDoor
open Go.ChangeShapes Go.WideShapes Go.ChangeAt Go.RowKit M
set_option maxHeartbeats 4000000 in
theorem walk_FnValueSet (a0 : Option Addr) (len0 cap0 : Nat) (z0 : List Int) (w : World) (h0 : IsRow .u8 w a0 len0 cap0 z0) (hT : Tab w) :
  Calls Tryz.prog 8 #[.slice a0 len0 cap0] w fun e w' => e = .returned (.bool true) ∧ Below w.heap.size w w' := by
 have H := Lib.hid h0; clear h0
 have HTB := Lib.hid hT; clear hT
 by_cases hl : len0 ≤ 1048576
 case neg =>
  go_enter Tryz.func8, Tryz.ntmps8
  go_wp2_with fail
  go_ret
  exact ⟨rfl, by (repeat (first | exact Below.refl _ _ | apply below_drew | apply below_draws | apply below_alloc | (refine below_trans ?_ (by assumption)) | (refine Below.trans ?_ (by assumption))))⟩
 go_enter Tryz.func8, Tryz.ntmps8
 go_wp2_with fail
 refine (d_DrawValueSet H.out).mono ?_
 rintro e w1 ⟨l, k, s, g, u, rfl, hl2, hk2, hs2, g0, g7, hu2, hb1⟩
 have HI := Lib.hid (i_ValueSet l k s g u w1 (by omega) (by omega) (by omega) (by omega) (HTB.out.below hb1))
 have HS := Lib.hid (fun w => k_ValueSet l k s g u w (by omega) (by omega) (by omega) (by omega))
 rw [setO_P] at HS
 unfold RetSB at HS
 unfold RetSP at HI
 have HLAW := Lib.hid (fun x (h : setP l k s g u = some x) => And.intro (law_set h) (set_len h))
 have hold := fieldVP_len l k s g
 have HVF := Lib.hid (fun (c : Bs) (t : Int) (w' : World) (hb : Below w.heap.size w w') (hc : c.length ≤ 2000000) => i_ValueField l k c t w' (by omega) (by omega) hc (HTB.out.below hb))
 have HSET := Lib.hid (fun (c d : Bs) (w' : World) (hb : Below w.heap.size w w') (hc : c.length ≤ 400) (hd : d.length ≤ 400) => i_ValueSet l k c g d w' (by omega) (by omega) (by omega) (by omega) (HTB.out.below hb))
 unfold RetSP at HSET
 obtain ⟨o, ho⟩ : ∃ o, setP l k s g u = o := ⟨_, rfl⟩
 rw [ho] at HI HS HLAW
 clear ho
 cases o with
 | none =>
  clear HLAW HVF HSET
  go_wp2_with fail
  refine HI.out.mono ?_
  rintro e w2 ⟨rfl, hb2⟩
  go_wp2_with fail
  refine (HS.out _).mono ?_
  rintro e w3 ⟨rfl, hb3⟩
  go_wp2_with fail
  go_ret
  exact ⟨rfl, by (repeat (first | exact Below.refl _ _ | apply below_drew | apply below_draws | apply below_alloc | (refine below_trans ?_ (by assumption)) | (refine Below.trans ?_ (by assumption))))⟩
 | some x =>
  obtain ⟨⟨h1, h2, h3⟩, hx4⟩ := HLAW.out x rfl
  have HV1 := Lib.hid (fun w' hb => HVF.out x g w' hb (by omega))
  rw [h1] at HV1
  have HV2 := Lib.hid (fun w' hb => HVF.out s g w' hb (by omega))
  obtain ⟨old, hod⟩ : ∃ old, (fieldVP l k s g).getD [] = old := ⟨_, rfl⟩
  rw [hod] at HV2 h2 hold
  generalize (fieldVP l k s g).isSome = ob at *
  have HS2 := Lib.hid (fun w' hb => HSET.out x old w' hb hx4 hold)
  rw [h2] at HS2
  have HVA := Lib.hid (fun (t : Int) w' hb => HVF.out s t w' hb (by omega))
  have HVB := Lib.hid (fun (t : Int) w' hb => HVF.out x t w' hb (by omega))
  have HEQ := Lib.hid h3
  clear HLAW HVF HSET h1 h2 h3 hod hold
  go_wp2_with fail
  refine HI.out.mono ?_
  rintro e w2 ⟨rfl, hb2⟩
  go_wp2_with fail
  refine (HS.out _).mono ?_
  rintro e w3 ⟨rfl, hb3⟩
  go_wp2_with fail
  refine (HV1.out _ (by (repeat (first | exact Below.refl _ _ | apply below_drew | apply below_draws | apply below_alloc | (refine below_trans ?_ (by assumption)) | (refine Below.trans ?_ (by assumption)))))).mono ?_
  rintro e w4 ⟨rfl, hb4⟩
  go_wp2_with fail
  refine (HV2.out _ (by (repeat (first | exact Below.refl _ _ | apply below_drew | apply below_draws | apply below_alloc | (refine below_trans ?_ (by assumption)) | (refine Below.trans ?_ (by assumption)))))).mono ?_
  rintro e w5 ⟨rfl, hb5⟩
  go_wp2_with fail
  refine (HS2.out _ (by (repeat (first | exact Below.refl _ _ | apply below_drew | apply below_draws | apply below_alloc | (refine below_trans ?_ (by assumption)) | (refine Below.trans ?_ (by assumption)))))).mono ?_
  rintro e w6 ⟨rfl, hb6⟩
  have HB6 := Lib.hid (show Below w.heap.size w w6 by (repeat (first | exact Below.refl _ _ | apply below_drew | apply below_draws | apply below_alloc | (refine below_trans ?_ (by assumption)) | (refine Below.trans ?_ (by assumption)))))
  clear hb1 hb2 hb3 hb4 hb5 hb6 HI HS HV1 HV2 HS2
  go_wp2_with fail
  go_loopw [19] (fun i wr => ∃ j : Int, i = .int .i64 j ∧ 1 ≤ j ∧ j ≤ 12 ∧ Hid (Below w.heap.size w wr)) (fun i _ => 20 - (intOf i).toNat)
  case atStart => exact ⟨1, rfl, by omega, by omega, HB6.out⟩
  case round =>
   obtain ⟨j, rfl, j0, j1, hbr⟩ := hrel
   clear HB6
   by_cases hj : j < 12
   ·have HA := Lib.hid (HVA.out j wr hbr.out)
    have HBj := Lib.hid (fun w' hb => HVB.out j w' hb)
    by_cases hjg : j = g
    ·subst hjg
     obtain ⟨oa, hoa⟩ : ∃ oa, fieldVP l k s j = oa := ⟨_, rfl⟩
     obtain ⟨ob2, hob2⟩ : ∃ ob2, fieldVP l k x j = ob2 := ⟨_, rfl⟩
     rw [hoa] at HA
     rw [hob2] at HBj
     generalize oa.getD [] = t1 at *
     generalize oa.isSome = b1 at *
     generalize ob2.getD [] = t2 at *
     generalize ob2.isSome = b2 at *
     have e1 : (j == j) = true := by simp
     have e2 : (j != j) = false := by simp
     clear HVA HVB HEQ hoa hob2
     go_wp2_with fail
     refine HA.out.mono ?_
     rintro e w7 ⟨rfl, hb7⟩
     have HB7 := Lib.hid (below_trans hbr.out hb7)
     go_wp2_with fail
     refine (HBj.out _ HB7.out).mono ?_
     rintro e w8 ⟨rfl, hb8⟩
     have HB8 := Lib.hid (below_trans HB7.out hb8)
     clear hb7 hb8
     go_wp2_with fail
     go_roundw
     case rel => exact ⟨j + 1, by go_num, by omega, by omega, HB8.out⟩
     case measure => simp [intOf]; omega
    ·rw [HEQ.out j hjg] at HBj
     generalize (fieldVP l k s j).getD [] = t1 at *
     generalize (fieldVP l k s j).isSome = b1 at *
     have e1 : (j == g) = false := by simp [hjg]
     have e2 : (j != g) = true := by simp [hjg]
     clear HVA HVB HEQ
     go_wp2_with fail
     refine HA.out.mono ?_
     rintro e w7 ⟨rfl, hb7⟩
     have HB7 := Lib.hid (below_trans hbr.out hb7)
     go_wp2_with fail
     refine (HBj.out _ HB7.out).mono ?_
     rintro e w8 ⟨rfl, hb8⟩
     have HB8 := Lib.hid (below_trans HB7.out hb8)
     clear hb7 hb8
     go_wp2_with fail
     go_roundw
     case rel => exact ⟨j + 1, by go_num, by omega, by omega, HB8.out⟩
     case measure => simp [intOf]; omega
   ·go_wp2_with fail
    go_ret
    exact ⟨rfl, hbr.out⟩
end Go.Proofs.YtcjooeklehggaaaGreatDoor
