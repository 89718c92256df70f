/- Lemmas of this seat. -/
import Derived.Test.YtcjooeklehggaaaGreatDoorZOs
import Derived.Test.YtcjooeklehggaaaGreatDoorYOs
import Derived.Test.YtcjooeklehggaaaGreatDoorYWs
import Derived.Test.YtcjooeklehggaaaGreatDoorYYs
set_option linter.unusedVariables false
set_option linter.unusedSimpArgs false
set_option maxRecDepth 100000
namespace Go.Proofs.YtcjooeklehggaaaGreatDoor
open Go.ChangeShapes Go.WideShapes Go.ChangeAt Go.RowKit M
structure RecS (l k s : Bs) (X : List Ty) (t : Ty) (p : List Int × List V) : Prop where
 hks : kindS l k = some X
 hof : ofS l = some X
 hko : kOk k = true
 hrt : refT X k = some t
 h82 : t.sort = 82
 h64 : at_ k 0 = 64
 hw : wholeP X k s = some (.mk k [82] p.1 p.2)
 htv : M.Tv X (.mk k [82] p.1 p.2)
 hout : outV (.mk k [82] p.1 p.2) = s
 hdeep : deepV (.mk k [82] p.1 p.2) ≤ 12
 hlen : s.length ≤ 400
 hup : Up p
theorem whole_more {X : List Ty} {k s : Bs} {x : V} (h : wholeP X k s = some x) : outV x = s ∧ deepV x ≤ 12 ∧ s.length ≤ 400 := by
 unfold wholeP at h
 split at h
 ·rename_i h4
  split at h
  ·cases h
  ·rename_i y hy
   split at h
   ·rename_i hr
    injection h with h
    subst h
    have h1 := readF_out _ _ _ _ _ hy
    rw [hr, List.append_nil] at h1
    exact ⟨h1.symm, ((readF_cut X 12 12 (Nat.le_refl _) s k y).1 hy).2, h4⟩
   ·cases h
 ·cases h
theorem whole_tv_back {X : List Ty} (hg : ∀ t ∈ X, GoodT t) {x : V} (h : M.Tv X x) (h1 : (outV x).length ≤ 400) (h2 : deepV x ≤ 12) : wholeP X x.kind (outV x) = some x := by
 unfold wholeP
 rw [if_pos h1]
 have := whole_back hg h 12
 rw [if_pos h2] at this
 exact this
theorem kid_small {k : Bs} {p : List Int × List V} {z : V} (h64 : at_ k 0 = 64) (hup : Up p) (hz : z ∈ p.2) : (outV z).length ≤ (outV (.mk k [82] p.1 p.2)).length ∧ deepV z ≤ deepV (.mk k [82] p.1 p.2) := by
 obtain ⟨i, hi, rfl⟩ := List.getElem_of_mem hz
 refine ⟨record_len h64 (by decide) (by decide) hup.1 i hi, ?_⟩
 rw [deepV]
 have := deepsV_le.1 (Nat.le_refl (deepsV p.2)) _ (List.getElem_mem hi)
 omega
section
variable {l k s : Bs} {X : List Ty} {t : Ty} {p : List Int × List V}
theorem RecS.good (h : RecS l k s X t p) : (∀ t ∈ X, GoodT t) ∧ X.length ≤ 8 ∧ validB X = true := ofS_some h.hof
theorem RecS.val (h : RecS l k s X t p) : valP l k s = some (.mk k [82] p.1 p.2) := by unfold valP; rw [h.hks]; exact h.hw
theorem RecS.fld (h : RecS l k s X t p) (tag : Int) : fldO l k s tag = (fieldM t tag).map fun f => (X, f, .mk k [82] p.1 p.2) := by
 unfold fldO recP
 rw [h.hks, h.val]
 simp only
 rw [if_pos ((rec_sort h.htv h.hrt).2 h.h82)]
 simp only
 rw [h.hrt]
theorem fld_rec {tag : Int} {f : Fl} {x : V} (h : fldO l k s tag = some (X, f, x)) : ∃ t p, RecS l k s X t p ∧ fieldM t tag = some f ∧ x = .mk k [82] p.1 p.2 := by
 unfold fldO recP at h
 cases hks : kindS l k with
 | none => rw [hks] at h; cases h
 | some Y =>
  rw [hks] at h
  simp only at h
  cases hv : valP l k s with
  | none => rw [hv] at h; cases h
  | some y =>
   rw [hv] at h
   simp only at h
   obtain ⟨hof, hko, hco⟩ := kindS_some hks
   obtain ⟨hg, h8, hva⟩ := ofS_some hof
   have hw : wholeP Y k s = some y := by unfold valP at hv; rw [hks] at hv; exact hv
   obtain ⟨hT, hkk, hlen⟩ := whole_tv hg hko hw
   obtain ⟨m1, m2, m3⟩ := whole_more hw
   by_cases hrc : isRec y = true
   ·rw [if_pos hrc] at h
    simp only at h
    cases hr : refT Y k with
    | none => rw [hr] at h; cases h
    | some t =>
     rw [hr] at h
     simp only at h
     cases hf : fieldM t tag with
     | none => rw [hf] at h; cases h
     | some f' =>
      rw [hf] at h
      injection h with h
      injection h with e1 e2
      injection e2 with e2 e3
      subst e1; subst e2; subst e3
      have hrs := (rec_sort hT (by rw [hkk]; exact hr)).1 hrc
      unfold isRec at hrc
      simp at hrc
      cases y with
      | mk k' tx gs lv =>
       obtain ⟨htx, h64⟩ := hrc
       obtain rfl : tx = [82] := htx
       obtain rfl : k' = k := hkk
       exact ⟨t, (gs, lv), ⟨hks, hof, hko, hr, hrs, h64, hw, hT, m1, m2, m3, tv_up hT⟩, hf, rfl⟩
   ·rw [if_neg hrc] at h; cases h
theorem RecS.field (h : RecS l k s X t p) (tag : Int) : fieldVP l k s tag = (fieldM t tag).map fun f => textF X f (atP p.1 p.2 tag) := by
 unfold fieldVP
 rw [h.fld tag, Option.map_map]
 cases hf : fieldM t tag with
 | none => rfl
 | some f =>
  have e := (fieldM_mem hf).2
  show some (fldT X p.1 p.2 f) = some (textF X f (atP p.1 p.2 tag))
  unfold fldT textF
  rw [e]
  cases atP p.1 p.2 tag <;> rfl
theorem RecS.kid (h : RecS l k s X t p) {tag : Int} {f : Fl} (hf : fieldM t tag = some f) : ∃ y, wholeP X f.kind (textF X f (atP p.1 p.2 tag)) = some y ∧ tellF X f y = atP p.1 p.2 tag := by
 obtain ⟨hg, h8, hva⟩ := h.good
 have htm := refT_mem h.hrt
 obtain ⟨hfm, hft⟩ := fieldM_mem hf
 have h69 : t.sort ≠ 69 := by rw [h.h82]; decide
 cases ha : atP p.1 p.2 tag with
 | none =>
  have hI := standM_val h.hof htm h69 hfm
  have hst := standM_len hg hva h8 (f := f) (((hg t htm).2.2.2.2 f hfm).2.2.2.1)
  obtain ⟨y, y1, y2, y3, y4, -⟩ := whole_val hg hI (by omega) (by omega)
  exact ⟨y, y1, if_pos y4⟩
 | some z =>
  obtain ⟨j, h1, h2, e1, e2⟩ := atP_get ha
  have hz : z ∈ p.2 := by rw [← e2]; exact List.getElem_mem h2
  obtain ⟨b1, b2⟩ := kid_small h.h64 h.hup hz
  have hd := h.hdeep
  have hl := h.hlen
  rw [← h.hout] at hl
  have hx := tv_kids h.htv
  have hT := (hx.2 z hz).1
  have hkz : z.kind = f.kind ∧ outV z ≠ standM X f := by
   obtain ⟨f', f1, f2, f3⟩ := tv_fields h.htv h.hrt j h1 h2
   rw [e1, hf] at f1
   injection f1 with f1
   subst f1
   rw [e2] at f2 f3
   exact ⟨f2, f3⟩
  refine ⟨z, ?_, if_neg hkz.2⟩
  have := whole_tv_back hg hT (by omega) (by omega)
  rw [hkz.1] at this
  exact this
theorem RecS.set (h : RecS l k s X t p) {tag : Int} {f : Fl} (hf : fieldM t tag = some f) {val : Bs} {y : V} (hy : wholeP X f.kind val = some y) : setP l k s tag val = fitP (.mk k [82] (setG tag (tellF X f y) p).1 (setG tag (tellF X f y) p).2) := by
 rw [setP_on (by rw [h.fld tag, hf]; rfl) hy]
 congr 1
 unfold withP tellF
 have e := (fieldM_mem hf).2
 rw [e]
 split <;> rfl
theorem RecS.setNo (h : RecS l k s X t p) {tag : Int} {f : Fl} (hf : fieldM t tag = some f) {val : Bs} (hy : wholeP X f.kind val = none) : setP l k s tag val = none := setP_bad (by rw [h.fld tag, hf]; rfl) hy
theorem RecS.tvSet (h : RecS l k s X t p) {tag : Int} {f : Fl} (hf : fieldM t tag = some f) {val : Bs} {y : V} (hy : wholeP X f.kind val = some y) : M.Tv X (.mk k [82] (setG tag (tellF X f y) p).1 (setG tag (tellF X f y) p).2) := by
 obtain ⟨hg, h8, hva⟩ := h.good
 have htm := refT_mem h.hrt
 obtain ⟨hfm, hft⟩ := fieldM_mem hf
 have h69 : t.sort ≠ 69 := by rw [h.h82]; decide
 obtain ⟨hT, hkk, -⟩ := whole_tv hg (((hg t htm).2.2.2.2 f hfm).2.2.2.2.2.1 h69) hy
 unfold tellF
 by_cases ho : outV y = standM X f
 ·rw [if_pos ho]; exact tv_wo h.htv tag
 ·rw [if_neg ho]
  exact tv_put (tv_wo h.htv tag) tag (fun g hg => (wo_mem tag p.1 p.2 g hg).2) h.hrt hf hkk ho hT
theorem RecS.fit (h : RecS l k s X t p) {p' : List Int × List V} (hT : M.Tv X (.mk k [82] p'.1 p'.2)) (hu : Up p') {x0 : Bs} (hx : fitP (.mk k [82] p'.1 p'.2) = some x0) : RecS l k x0 X t p' := by
 obtain ⟨hg, h8, hva⟩ := h.good
 unfold fitP at hx
 split at hx
 ·rename_i hc
  injection hx with hx
  subst hx
  exact ⟨h.hks, h.hof, h.hko, h.hrt, h.h82, h.h64, whole_tv_back hg hT hc.1 hc.2, hT, rfl, hc.2, hc.1, hu⟩
 ·cases hx
theorem RecS.self (h : RecS l k s X t p) : fitP (.mk k [82] p.1 p.2) = some s := by
 unfold fitP
 rw [if_pos ⟨by rw [h.hout]; exact h.hlen, h.hdeep⟩, h.hout]
theorem set_rec {tag : Int} {val x0 : Bs} (h : setP l k s tag val = some x0) : ∃ X t p f y, RecS l k s X t p ∧ fieldM t tag = some f ∧ wholeP X f.kind val = some y ∧ RecS l k x0 X t (setG tag (tellF X f y) p) := by
 cases ho : fldO l k s tag with
 | none => rw [setP_no ho] at h; cases h
 | some r =>
  obtain ⟨X, f, x⟩ := r
  obtain ⟨t, p, hr, hf, rfl⟩ := fld_rec ho
  cases hy : wholeP X f.kind val with
  | none => rw [hr.setNo hf hy] at h; cases h
  | some y =>
   rw [hr.set hf hy] at h
   exact ⟨X, t, p, f, y, hr, hf, hy, hr.fit (hr.tvSet hf hy) (setG_up hr.hup) h⟩
end
theorem law_field {l k s v : Bs} {tag : Int} (h : fieldVP l k s tag = some v) : ∃ X t f, ofS l = some X ∧ refT X k = some t ∧ t.sort = 82 ∧ fieldM t tag = some f ∧ (valP l f.kind v).isSome = true ∧ setP l k s tag v = some s := by
 unfold fieldVP at h
 cases ho : fldO l k s tag with
 | none => rw [ho] at h; cases h
 | some r =>
  obtain ⟨X, f, x⟩ := r
  obtain ⟨t, p, hr, hf, rfl⟩ := fld_rec ho
  have h2 := hr.field tag
  unfold fieldVP at h2
  rw [h2, hf] at h
  injection h with h
  have h' : textF X f (atP p.1 p.2 tag) = v := h
  subst h'
  obtain ⟨y, y1, y2⟩ := hr.kid hf
  obtain ⟨hg, h8, hva⟩ := hr.good
  have htm := refT_mem hr.hrt
  obtain ⟨hfm, hft⟩ := fieldM_mem hf
  have h69 : t.sort ≠ 69 := by rw [hr.h82]; decide
  refine ⟨X, t, f, hr.hof, hr.hrt, hr.h82, hf, ?_, ?_⟩
  ·have hkk : kindS l f.kind = some X := by
    unfold kindS
    rw [hr.hof]
    exact if_pos ⟨((hg t htm).2.2.2.2 f hfm).2.2.2.2.2.1 h69, valid_core hva htm h69 hfm⟩
   unfold valP
   rw [hkk]
   simp only
   rw [y1]; rfl
  ·rw [hr.set hf y1, y2, setG_self hr.hup]
   exact hr.self
theorem law_set {l k s val x0 : Bs} {tag : Int} (h : setP l k s tag val = some x0) : fieldVP l k x0 tag = some val ∧ setP l k x0 tag ((fieldVP l k s tag).getD []) = some s ∧ ∀ u, u ≠ tag → fieldVP l k x0 u = fieldVP l k s u := by
 obtain ⟨X, t, p, f, y, hr, hf, hy, hr2⟩ := set_rec h
 refine ⟨?_, ?_, ?_⟩
 ·rw [hr2.field tag, hf, setG_at hr.hup, if_pos rfl]
  show some (textF X f (tellF X f y)) = some val
  rw [text_tell, (whole_more hy).1]
 ·obtain ⟨y0, z1, z2⟩ := hr.kid hf
  rw [hr.field tag, hf]
  show setP l k x0 tag (textF X f (atP p.1 p.2 tag)) = some s
  rw [hr2.set hf z1, z2, setG_twice hr.hup, setG_self hr.hup]
  exact hr.self
 ·intro u hu
  rw [hr2.field u, hr.field u, setG_at hr.hup, if_neg hu]
theorem law_order {l k s val x other y z w : Bs} {tag u : Int} (hu : u ≠ tag) (h1 : setP l k s tag val = some x) (h2 : setP l k x u other = some y) (h3 : setP l k s u other = some z) (h4 : setP l k z tag val = some w) : y = w := by
 obtain ⟨X, t, p, f, a, hr, hf, ha, hx⟩ := set_rec h1
 obtain ⟨X', t', p', f', b, hr', hf', hb, hz⟩ := set_rec h3
 have eX : X' = X := by have := hr'.hks.symm.trans hr.hks; injection this
 subst eX
 have et : t' = t := by have := hr'.hrt.symm.trans hr.hrt; injection this
 subst et
 have ep : p' = p := by
  have := hr'.hw.symm.trans hr.hw
  injection this with this
  injection this with e1 e2 e3 e4
  exact Prod.ext e3 e4
 subst ep
 rw [hx.set hf' hb] at h2
 rw [hz.set hf ha, setG_comm hr.hup (fun e => hu e.symm)] at h4
 have := h2.symm.trans h4
 injection this
end Go.Proofs.YtcjooeklehggaaaGreatDoor
