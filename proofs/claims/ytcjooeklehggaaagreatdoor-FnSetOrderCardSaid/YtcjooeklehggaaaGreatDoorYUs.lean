/- Lemmas of this seat. -/
import Derived.Test.YtcjooeklehggaaaGreatDoorYNs
import Derived.Test.YtcjooeklehggaaaGreatDoorYRs
import Derived.Test.YtcjooeklehggaaaGreatDoorYTs
set_option linter.unusedVariables false
set_option linter.unusedSimpArgs false
set_option maxRecDepth 100000
namespace Go.Proofs.YtcjooeklehggaaaGreatDoor
open Go.ChangeShapes Go.WideShapes Go.ChangeAt Go.RowKit M
def setO (k : Bs) (tag : Int) (val : Bs) : Option (List Ty × V) → Option Bs
 | none => none
 | some (X, .mk k' t gs l) => match recF X k tag with
  | none => none
  | some f => match wholeV (readF X 12 val f.kind) with
   | none => none
   | some y => backO (outV (setV X val f tag y k' t gs l)) (wholeV (readF X 12 (outV (setV X val f tag y k' t gs l)) k))
theorem setO_norec {k : Bs} {tag : Int} {val : Bs} {X : List Ty} {k' t : Bs} {gs : List Int} {l : List V} (h : recF X k tag = none) : setO k tag val (some (X, .mk k' t gs l)) = none := by unfold setO; simp only; rw [h]
theorem setO_noval {k : Bs} {tag : Int} {val : Bs} {X : List Ty} {k' t : Bs} {gs : List Int} {l : List V} {f : Fl} (h : recF X k tag = some f) (h2 : wholeV (readF X 12 val f.kind) = none) : setO k tag val (some (X, .mk k' t gs l)) = none := by unfold setO; simp only; rw [h]; simp only; rw [h2]
theorem setO_on {k : Bs} {tag : Int} {val : Bs} {X : List Ty} {k' t : Bs} {gs : List Int} {l : List V} {f : Fl} {y : V} (h : recF X k tag = some f) (h2 : wholeV (readF X 12 val f.kind) = some y) : setO k tag val (some (X, .mk k' t gs l)) = backO (outV (setV X val f tag y k' t gs l)) (wholeV (readF X 12 (outV (setV X val f tag y k' t gs l)) k)) := by unfold setO; simp only; rw [h]; simp only; rw [h2]
theorem recF_some {X : List Ty} {k : Bs} {tag : Int} {f : Fl} (h : recF X k tag = some f) : ∃ t, refT X k = some t ∧ t.sort = 82 ∧ fieldM t tag = some f := by
 cases hr : refT X k with
 | none => rw [recF_none hr] at h; cases h
 | some t =>
  by_cases h82 : t.sort = 82
  ·rw [recF_rec hr h82] at h; exact ⟨t, rfl, h82, h⟩
  ·rw [recF_other hr h82] at h; cases h
set_option maxHeartbeats 8000000 in
theorem k_ValueSet (l k s : Bs) (tag : Int) (val : Bs) (w : World) (hl : l.length ≤ 2000000) (hk : k.length ≤ 2000000) (hs : s.length ≤ 2000000) (hvl : val.length ≤ 1048576) :
  Calls Tryz.prog 28 #[.string (S l), .string (S k), .string (S s), .int .i64 tag, .string (S val)] w (RetSB w (setO k tag val (of4 l k s))) := by
 have HC := Lib.hid (k_l4Of k_readAll l k s w hl hk hs)
 have HS := Lib.hid (fun y (h : of4 l k s = some y) => of4_some h)
 obtain ⟨o, ho⟩ : ∃ o, of4 l k s = o := ⟨_, rfl⟩
 rw [ho] at HC HS ⊢
 obtain ⟨R, hR⟩ : ∃ R, setO k tag val o = R := ⟨_, rfl⟩
 rw [hR]
 have HR := Lib.hid hR
 have HVL := Lib.hid hvl
 clear ho hR hl hk hs hvl
 go_enter Tryz.func28, Tryz.ntmps28
 go_wp2_with fail
 refine HC.out.mono ?_
 rintro e w1 ⟨xv, pv, rfl, hb, hx⟩
 cases o with
 | none =>
  have HN := Lib.hid (show R = none by rw [← HR.out]; rfl)
  clear hx HS HR HC
  go_wp2_with fail
  go_ret2
  exact ⟨by rw [HN.out]; rfl, hb⟩
 | some y =>
  obtain ⟨X, x⟩ := y
  obtain ⟨k', t, gs, lv⟩ := x
  obtain ⟨-, hg, hva, hko, hT, hkk, hlen⟩ := HS.out _ rfl
  obtain ⟨ps, p, hps, hTy, hl8, rfl, hv⟩ := hx _ rfl
  simp only at hps hv hg hva hT hkk hlen
  subst hps
  obtain rfl : k' = k := hkk
  obtain ⟨a, c, rfl, -, -⟩ := hTy.form
  have HRec := Lib.hid (k_l4Record _ ps w.heap.size k' tag w1 hTy (by omega) hb.size hko hg)
  obtain ⟨rf, hrf⟩ : ∃ rf, recF (ps.map (·.1)) k' tag = rf := ⟨_, rfl⟩
  rw [hrf] at HRec
  have HRF := Lib.hid hrf; have HV := Lib.hid hv; have HTY := Lib.hid hTy; have HG := Lib.hid hg; have HVA := Lib.hid hva; have HT := Lib.hid hT; have HKO := Lib.hid hko; have HLEN := Lib.hid hlen
  have hbz := hb.size
  clear hx HS hrf hv hTy hg hva hT hko hlen
  go_wp2_with fail
  refine HRec.out.mono ?_
  rintro e w2 ⟨f, rfl, hf, hb2⟩
  unfold fv
  have hbw2 : Below w.heap.size w w2 := below_trans hb hb2
  cases rf with
  | none =>
   have HN := Lib.hid (show R = none by rw [← HR.out]; exact setO_norec HRF.out)
   clear hf HRF HV HTY HG HVA HT HR HRec HC HKO HLEN
   go_wp2_with fail
   go_ret2
   exact ⟨by rw [HN.out]; rfl, by (repeat (first | with_reducible exact Below.refl _ _ | with_reducible apply below_drew | with_reducible apply below_draws | with_reducible apply below_alloc | with_reducible apply below_set | (with_reducible refine below_trans ?_ (by assumption)) | (with_reducible refine Below.trans ?_ (by assumption)) | exact Nat.le_refl _ | omega | (simp <;> omega)))⟩
  | some f' =>
   obtain rfl : f = f' := hf _ rfl
   have hkf := recF_kind HG.out HRF.out
   have hz2 := hb2.size
   have KF := Lib.hid (Blk.new w2 65 #[.int .i64 f.tag, .string (S f.name), .string (S f.kind), .string (S f.stand)])
   have hb3 : Below w1.heap.size w1 (w2.alloc (.cells #[.int .i64 f.tag, .string (S f.name), .string (S f.kind), .string (S f.stand)] 65)) := below_alloc hb2 _
   have hbw3 : Below w.heap.size w (w2.alloc (.cells #[.int .i64 f.tag, .string (S f.name), .string (S f.kind), .string (S f.stand)] 65)) := below_trans hb hb3
   have HRD := Lib.hid (k_readAll _ ps w.heap.size HG.out HVA.out hl8 val f.kind _ (by have := HVL.out; omega) hkf (HTY.out.below hb3) hbw3.size)
   have HST := Lib.hid (fun W (hbw : Below w1.heap.size w1 W) => k_stand _ ps w.heap.size hl8 HG.out HVA.out f hkf W (HTY.out.below hbw) (by have := hbw.size; omega))
   obtain ⟨o2, ho2⟩ : ∃ o2, readF (ps.map (·.1)) 12 val f.kind = o2 := ⟨_, rfl⟩
   rw [ho2] at HRD
   have HO2 := Lib.hid ho2
   have HKF := Lib.hid hkf
   have HB3 := Lib.hid hb3
   unfold fv at HST
   unfold rv at HRD
   clear hf ho2 HRec HC hb3 hbw3 hkf hb2
   go_wp2_with fail
   refine HRD.out.mono ?_
   rintro e w3 ⟨pv2, r, rfl, hb3, hx2⟩
   have hbw3 : Below w.heap.size w w3 := below_trans (below_alloc hbw2 _) hb3
   have hbx3 : Below w1.heap.size w1 w3 := below_trans HB3.out hb3
   have KF3 := KF.out.keep hb3
   have f0 := KF3.cell 0
   have f1 := KF3.cell 1
   have f2 := KF3.cell 2
   have f3 := KF3.cell 3
   simp at f0 f1 f2 f3
   have hz3 := hb3.size
   simp at hz3
   have hlt : w2.heap.size < w3.heap.size := by omega
   cases o2 with
   | none =>
    have HN := Lib.hid (show R = none by rw [← HR.out]; exact setO_noval HRF.out (by rw [HO2.out]; rfl))
    clear hx2 HRF HV HTY HG HVA HT HR HKO HLEN HRD HST HO2 HKF HB3 KF KF3
    go_wp2_with fail
    go_ret2
    exact ⟨by rw [HN.out]; rfl, hbw3⟩
   | some y =>
    obtain ⟨y, r'⟩ := y
    obtain ⟨rfl, py, rfl, hy⟩ := hx2 _ rfl
    cases r with
    | cons q r =>
     have HN := Lib.hid (show R = none by rw [← HR.out]; exact setO_noval HRF.out (by rw [HO2.out]; rfl))
     clear hx2 HRF HV HTY HG HVA HT HR HKO HLEN HRD HST HO2 HKF HB3 KF KF3 hy
     go_wp2_with fail
     go_ret2
     exact ⟨by rw [HN.out]; rfl, hbw3⟩
    | nil =>
     have hOut : outV y = val := by have := readF_out _ _ _ _ _ HO2.out; simp at this; exact this.symm
     obtain ⟨hty, hky⟩ := readF_tv HG.out 12 val f.kind (y, []) HKF.out HO2.out
     simp only at hty hky
     obtain ⟨tt, hr1, hr2, hr3⟩ := recF_some HRF.out
     have hrc := (rec_sort HT.out (show refT (ps.map (·.1)) (V.mk k' t gs lv).kind = some tt from hr1)).2 hr2
     unfold isRec at hrc
     simp [V.text, V.kind] at hrc
     obtain ⟨rfl, h64'⟩ := hrc
     have h64 : at_ k' 0 = 64 := by first | exact h64' | exact of_decide_eq_true h64'
     clear h64'
     obtain ⟨hgl, hasc⟩ := tv_up HT.out
     obtain ⟨hk1, hk2⟩ := tv_kids HT.out
     rw [show (V.mk k' [82] gs lv).kids = lv from rfl] at hk1 hk2
     have hll : lv.length ≤ 1000000 := by have := HLEN.out; omega
     have htag : 0 ≤ tag ∧ tag ≤ 200 := by
      obtain ⟨m1, m2⟩ := fieldM_mem hr3
      have := (HG.out tt (refT_mem hr1)).2.2.2.2 f m1
      have h1 := this.1
      have h2 := this.2.1
      omega
     have hRy := HR.out
     rw [setO_on HRF.out (show wholeV (readF (ps.map (·.1)) 12 val f.kind) = some y by rw [HO2.out]; rfl)] at hRy
     have hTX := setV_tv (f := f) HT.out hr1 hr3 hOut hky hty
     have hLX := setV_len (X := ps.map (·.1)) (val := val) (f := f) (tag := tag) (y := y) HG.out HT.out h64 htag HLEN.out (by rw [hOut]; exact HVL.out)
     have hSt := fun (h : val = standM (ps.map (·.1)) f) => setV_stand h tag y k' [82] gs lv
     have hPt := fun (h : ¬ val = standM (ps.map (·.1)) f) => setV_put h tag y k' [82] gs lv hgl hasc
     obtain ⟨x', hx'⟩ : ∃ x', setV (ps.map (·.1)) val f tag y k' [82] gs lv = x' := ⟨_, rfl⟩
     rw [hx'] at hRy hTX hLX hSt hPt
     have HRY := Lib.hid hRy
     have HOUT := Lib.hid (fun N q W (h : VAt W N x' q) => k_out HG.out x' hTX hLX N q W h)
     have HSTP := Lib.hid hSt
     have HPTP := Lib.hid hPt
     have HHY := Lib.hid hy
     have HGL := Lib.hid hgl
     have HLX := Lib.hid hLX
     have HBK := Lib.hid (fun W (hbw : Below w1.heap.size w1 W) => k_l4Back _ ps w.heap.size (k_readAll _ ps w.heap.size HG.out HVA.out hl8) k' (outV x') W HKO.out (by omega) (HTY.out.below hbw) (by have := hbw.size; omega))
     have HSTW := Lib.hid (HST.out w3 hbx3)
     rw [show standV (ps.map (·.1)) f = standM (ps.map (·.1)) f from rfl] at HSTW
     generalize standM (ps.map (·.1)) f = O at *
     have HBX3 := Lib.hid hbx3
     have HBW3 := Lib.hid hbw3
     have HB33 := Lib.hid hb3
     clear hx2 HRF HTY HG HVA HT HR HKO HLEN HRD HST HO2 HKF KF KF3 hy hOut hty hky hr1 hr2 hr3 h64 hgl hasc hk1 hk2 htag hRy hTX hLX hSt hPt hx' hbx3 hbw3 hb3 HB3
     go_wp2_with fail
     refine HSTW.out.mono ?_
     rintro e w4 ⟨rfl, hb4⟩
     have hbx4 : Below w1.heap.size w1 w4 := below_trans HBX3.out hb4
     have hbw4 : Below w.heap.size w w4 := below_trans HBW3.out hb4
     have HV4 := Lib.hid (HV.out.belowed hbx4)
     have HY4 := Lib.hid ((HHY.out.belowed hb4).imp (N' := fun b => w.heap.size ≤ b) (by intro b _ h; have h2 : _ ≤ b := h; simp at h2; omega))
     have HB4 := Lib.hid hbx4
     have HBW4 := Lib.hid hbw4
     clear hbx4 hbw4 hb4 HV HHY HSTW HBX3 HBW3 HB33
     by_cases hst : val = O
     ·have HNew := Lib.hid (show Calls Tryz.prog 61 #[vp p, .int .i64 tag] w4 (RetNew w4 (fun b => w.heap.size ≤ b) x') by
       have := k_without tag HV4.out HGL.out hll
       rw [woG_P, ← HSTP.out hst] at this
       exact this)
      have hq : (val == O) = true := by rw [hst]; simp
      clear HSTP HPTP HV4 HY4 hst
      go_wp2_with fail
      refine HNew.out.mono ?_
      rintro e w5 ⟨p5, rfl, hb5, hv5⟩
      have HO5 := Lib.hid (HOUT.out _ p5 w5 hv5)
      have hbx5 := below_trans HB4.out hb5
      clear hv5 HNew HOUT
      generalize outV x' = OX at *
      go_wp2_with fail
      refine HO5.out.mono ?_
      rintro e w6 ⟨rfl, hb6⟩
      have hbx6 := below_trans hbx5 hb6
      have HBK6 := Lib.hid (HBK.out w6 hbx6)
      unfold RetSB at HBK6
      rw [HRY.out] at HBK6
      have hbw6 : Below w.heap.size w w6 := below_trans hb hbx6
      clear HBK HO5 HRY
      go_wp2_with fail
      refine HBK6.out.mono ?_
      rintro e w7 ⟨rfl, hb7⟩
      go_wp2_with fail
      go_ret2
      exact ⟨rfl, below_trans hbw6 hb7⟩
     ·have HNew := Lib.hid (show Calls Tryz.prog 62 #[vp p, .int .i64 tag, vp py] w4 (RetNew w4 (fun b => w.heap.size ≤ b) x') by
       have := k_with tag y py HY4.out HV4.out HGL.out hll
       rw [wiG_L, ← HPTP.out hst] at this
       exact this)
      have hq : (val == O) = false := beq_eq_false_iff_ne.2 hst
      clear HSTP HPTP HV4 HY4 hst
      go_wp2_with fail
      refine HNew.out.mono ?_
      rintro e w5 ⟨p5, rfl, hb5, hv5⟩
      have HO5 := Lib.hid (HOUT.out _ p5 w5 hv5)
      have hbx5 := below_trans HB4.out hb5
      clear hv5 HNew HOUT
      generalize outV x' = OX at *
      go_wp2_with fail
      refine HO5.out.mono ?_
      rintro e w6 ⟨rfl, hb6⟩
      have hbx6 := below_trans hbx5 hb6
      have HBK6 := Lib.hid (HBK.out w6 hbx6)
      unfold RetSB at HBK6
      rw [HRY.out] at HBK6
      have hbw6 : Below w.heap.size w w6 := below_trans hb hbx6
      clear HBK HO5 HRY
      go_wp2_with fail
      refine HBK6.out.mono ?_
      rintro e w7 ⟨rfl, hb7⟩
      go_wp2_with fail
      go_ret2
      exact ⟨rfl, below_trans hbw6 hb7⟩
end Go.Proofs.YtcjooeklehggaaaGreatDoor
