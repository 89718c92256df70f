/- Lemmas of this seat. -/
import Derived.Test.YtcjooeklehggaaaGreatDoorYMs
import Derived.Test.YtcjooeklehggaaaGreatDoorYUs
import Derived.Test.YtcjooeklehggaaaGreatDoorYWs
set_option linter.unusedVariables false
set_option linter.unusedSimpArgs false
set_option maxRecDepth 100000
namespace Go.Proofs.YtcjooeklehggaaaGreatDoor
open Go.ChangeShapes Go.WideShapes Go.ChangeAt Go.RowKit M
theorem wholeV_some {o : Option (V × Bs)} {y : V} (h : wholeV o = some y) : o = some (y, []) := by
 cases o with
 | none => cases h
 | some x =>
  obtain ⟨a, b⟩ := x
  unfold wholeV at h
  simp only at h
  split at h
  ·rename_i hb
   injection h with h
   subst h; subst hb; rfl
  ·cases h
theorem wholeP_short {X : List Ty} {k s : Bs} (h : s.length ≤ 400) : wholeP X k s = wholeV (readF X 12 s k) := by
 unfold wholeP; rw [if_pos h]; cases readF X 12 s k <;> rfl
theorem wholeP_long {X : List Ty} {k s : Bs} (h : ¬ s.length ≤ 400) : wholeP X k s = none := if_neg h
theorem back_fit {X : List Ty} (hg : ∀ t ∈ X, GoodT t) {x : V} {k : Bs} (h : M.Tv X x) (hk : x.kind = k) : backO (outV x) (wholeV (readF X 12 (outV x) k)) = fitP x := by
 subst hk
 have hw : wholeV (readF X 12 (outV x) x.kind) = if deepV x ≤ 12 then some x else none := by rw [← whole_back hg h 12]; cases readF X 12 (outV x) x.kind <;> rfl
 rw [hw]
 unfold backO fitP
 by_cases h1 : (outV x).length ≤ 400 <;> by_cases h2 : deepV x ≤ 12 <;> simp [h1, h2]
theorem setO_P (l k s : Bs) (tag : Int) (val : Bs) : setO k tag val (of4 l k s) = setP l k s tag val := by
 rw [of4_valP]
 unfold setP fldO recP valP
 cases hks : kindS l k with
 | none => rfl
 | some X =>
  simp only
  cases hw : wholeP X k s with
  | none => rfl
  | some x =>
   obtain ⟨hof, hko, -⟩ := kindS_some hks
   obtain ⟨hg, h8, hva⟩ := ofS_some hof
   obtain ⟨hT, hkk, hlen⟩ := whole_tv hg hko hw
   simp only [Option.map_some]
   cases hr : refT X k with
   | none =>
    rw [rec_none hT (by rw [hkk]; exact hr)]
    cases x with
    | mk k' t gs lv => rw [setO_norec (recF_none hr)]; rfl
   | some t =>
    have hrs := rec_sort hT (by rw [hkk]; exact hr)
    by_cases h82 : t.sort = 82
    ·have hrc := hrs.2 h82
     rw [if_pos hrc]
     simp only
     unfold isRec at hrc
     simp at hrc
     cases x with
     | mk k' tx gs lv =>
      obtain ⟨htx, h64⟩ := hrc
      obtain rfl : tx = [82] := htx
      obtain rfl : k' = k := hkk
      have h64' : at_ k' 0 = 64 := h64
      have hF := recF_rec (tag := tag) hr h82
      cases hf : fieldT t tag with
      | none => rw [show fieldM t tag = none from hf, setO_norec (hF.trans hf)]; rfl
      | some f =>
       have hfm : fieldM t tag = some f := hf
       rw [hfm]
       obtain ⟨hmem, htag⟩ := fieldM_mem hfm
       obtain ⟨hgl, hasc⟩ := tv_up hT
       have hgf := (hg t (refT_mem hr)).2.2.2.2 f hmem
       show _ = (match wholeP X f.kind val with | none => none | some z => fitP (withP X f z k' gs lv))
       have hkf := recF_kind hg (hF.trans hf)
       cases hy : wholeV (readF X 12 val f.kind) with
       | none =>
        rw [setO_noval (hF.trans hf) hy]
        by_cases h4 : val.length ≤ 400
        ·rw [wholeP_short h4, hy]
        ·rw [wholeP_long h4]
       | some y =>
        rw [setO_on (hF.trans hf) hy]
        have hrd := wholeV_some hy
        have hOut : outV y = val := by have := readF_out _ _ _ _ _ hrd; simp at this; exact this.symm
        obtain ⟨hty, hky⟩ := readF_tv hg 12 val f.kind (y, []) hkf hrd
        simp only at hty hky
        by_cases h4 : val.length ≤ 400
        ·rw [wholeP_short h4, hy]
         simp only
         have hE : setV X val f tag y k' [82] gs lv = withP X f y k' gs lv := by unfold setV withP; rw [hOut, htag]
         rw [← hE]
         exact back_fit hg (setV_tv hT hr hfm hOut hky hty) (setV_kind ..)
        ·rw [wholeP_long h4]
         simp only
         have hne : ¬ val = standM X f := by
          intro h
          have := standM_len (f := f) hg hva h8 hgf.2.2.2.1
          rw [← h] at this
          omega
         have hlong := put_long (X := X) (f := f) (tag := tag) (y := y) (gs := (woP tag gs lv).1) (l := (woP tag gs lv).2) h64' (wo_len tag gs lv hgl).1 (by rw [hOut]; exact h4)
         have hE : setV X val f tag y k' [82] gs lv = .mk k' [82] (putP tag y (woP tag gs lv).1 (woP tag gs lv).2).1 (putP tag y (woP tag gs lv).1 (woP tag gs lv).2).2 := if_neg hne
         rw [hE]
         exact if_neg hlong
    ·have hrc : ¬ isRec x = true := fun h => h82 (hrs.1 h)
     rw [if_neg hrc]
     cases x with
     | mk k' tx gs lv => rw [setO_norec (recF_other hr h82)]
end Go.Proofs.YtcjooeklehggaaaGreatDoor
