/- Lemmas of this seat. -/
import Derived.Test.YtcjooeklehggaaaGreatDoorYPs
import Derived.Test.YtcjooeklehggaaaGreatDoorYVs
set_option linter.unusedVariables false
set_option linter.unusedSimpArgs false
set_option maxRecDepth 100000
namespace Go.Proofs.YtcjooeklehggaaaGreatDoor
open Go.ChangeShapes Go.WideShapes Go.ChangeAt Go.RowKit M
def fitP (x : V) : Option Bs := if (outV x).length ≤ 400 ∧ deepV x ≤ 12 then some (outV x) else none
theorem fit_yes {x : V} (h1 : (outV x).length ≤ 400) (h2 : deepV x ≤ 12) : fitP x = some (outV x) := if_pos ⟨h1, h2⟩
theorem fit_long {x : V} (h1 : ¬ (outV x).length ≤ 400) : fitP x = none := if_neg (fun h => h1 h.1)
theorem fit_deep {x : V} (h1 : ¬ deepV x ≤ 12) : fitP x = none := if_neg (fun h => h1 h.2)
def RetSP (w : World) (o : Option Bs) (e : Ending) (w' : World) : Prop := e = .returned (.tuple #[.string (S (o.getD [])), .bool o.isSome]) ∧ Below w.heap.size w w'
theorem RetSP.no {w w' : World} {o : Option Bs} (h : o = none) (hb : Below w.heap.size w w') : RetSP w o (.returned (.tuple #[.string { data := #[] }, .bool false])) w' := ⟨by rw [h]; rfl, hb⟩
theorem RetSP.yes {w w' : World} {o : Option Bs} {s : Bs} (h : o = some s) (hb : Below w.heap.size w w') : RetSP w o (.returned (.tuple #[.string (S s), .bool true])) w' := ⟨by rw [h]; rfl, hb⟩
theorem i_fitText (x : V) (T : TypeId) (yv : Value) (N : Nat → Prop) (w : World) (hp : PAt w N x (.iface T yv)) (hT : Tab w) (hl : (outV x).length ≤ 1000000) :
  Calls Tryz.prog 56 #[.iface T yv] w (RetSP w (fitP x)) := by
 obtain ⟨T', yv', g', hu, hI⟩ := hp.isT
 have eT : T = T' ∧ yv = yv' := by injection hu with h1 h2; exact ⟨h1, h2⟩
 obtain ⟨rfl, rfl⟩ := eT
 have HTX := Lib.hid (texts x T yv g' N w hI hp hT hl)
 have HD := Lib.hid (fun W (hbw : Below w.heap.size w W) => i_deepOf x (.iface T yv) N W (hp.belowed hbw) hl)
 have hmm := fun w => hI.method yv w
 have hcc := fun args w => hI.enters args w
 have HY := Lib.hid (fun h1 h2 => fit_yes (x := x) h1 h2)
 have HL := Lib.hid (fun h1 => fit_long (x := x) h1)
 have HDD := Lib.hid (fun h1 => fit_deep (x := x) h1)
 obtain ⟨o, ho⟩ : ∃ o, fitP x = o := ⟨_, rfl⟩
 obtain ⟨s, hs⟩ : ∃ s, outV x = s := ⟨_, rfl⟩
 obtain ⟨d, hd⟩ : ∃ d, deepV x = d := ⟨_, rfl⟩
 rw [hs] at HTX HY HL hl
 rw [hd] at HD HY HDD
 rw [ho] at HY HL HDD ⊢
 clear ho hs hd hp hT hu hI
 go_enter Tryz.func56, Tryz.ntmps56
 go_wp2_with fail
 refine HTX.out.mono ?_
 rintro e w1 ⟨rfl, hb1⟩
 clear hmm hcc HTX
 by_cases h4 : s.length ≤ 400
 ·have h4' : ¬ (400 < (s.length : Int)) := by omega
  go_wp2_with fail
  refine (HD.out _ hb1).mono ?_
  rintro e w2 ⟨rfl, hb2⟩
  by_cases h12 : d ≤ 12
  ·have HN := Lib.hid (HY.out h4 h12)
   have h12' : ¬ (12 < (d : Int)) := by omega
   clear HY HL HDD HD
   go_wp2_with fail
   go_ret2
   exact RetSP.yes HN.out (below_trans hb1 hb2)
  ·have HN := Lib.hid (HDD.out h12)
   have h12' : (12 : Int) < (d : Int) := by omega
   clear HY HL HDD HD h12
   go_wp2_with fail
   go_ret2
   exact RetSP.no HN.out (below_trans hb1 hb2)
 ·have HN := Lib.hid (HL.out h4)
  have h4' : (400 : Int) < (s.length : Int) := by omega
  clear HY HL HDD HD h4
  go_wp2_with fail
  go_ret2
  exact RetSP.no HN.out hb1
theorem fv_of {w : World} {N : Nat → Prop} (gs : List Int) (lv : List V) (us : List Value) (hg : gs.length = lv.length) (hm : PMany w N lv us) (hb : ∀ g ∈ gs, 0 ≤ g ∧ g ≤ 200) :
  ∃ d : List FvS, d.map (·.tag) = gs ∧ d.map (·.tree) = lv ∧ d.map (·.u) = us ∧ flatFV gs us = d.flatMap encFv ∧ ∀ x ∈ d, PAt w N x.tree x.u := by
 induction gs generalizing lv us with
 | nil =>
  cases lv with
  | nil =>
   cases us with
   | nil => exact ⟨[], rfl, rfl, rfl, rfl, by simp⟩
   | cons _ _ => have := hm.1; simp at this
  | cons _ _ => simp at hg
 | cons g gs ih =>
  cases lv with
  | nil => simp at hg
  | cons x lv =>
   cases us with
   | nil => have := hm.1; simp at this
   | cons u us =>
    have h0 := hm.2 0 (by simp) (by simp)
    simp only [List.getElem_cons_zero] at h0
    obtain ⟨T, y, g', rfl, -⟩ := h0.isT
    obtain ⟨d, e1, e2, e3, e4, e5⟩ := ih lv us (by simpa using hg) ⟨by have := hm.1; simpa using this, fun i h1 h2 => by
     have := hm.2 (i + 1) (by simpa using h1) (by simpa using h2)
     simpa using this⟩ (fun a ha => hb a (by simp [ha]))
    have hbg := hb g (by simp)
    refine ⟨⟨g, x, T, y, hbg.1, hbg.2⟩ :: d, by simp [e1], by simp [e2], by rw [List.map_cons, e3]; rfl, ?_, ?_⟩
    ·rw [flatFV, e4, List.flatMap_cons]; rfl
    ·intro z hz
     rcases List.mem_cons.1 hz with rfl | hz
     ·exact h0
     ·exact e5 z hz
theorem fv_flat (d : List FvS) : flatFV (d.map (·.tag)) (d.map (·.u)) = d.flatMap encFv := by
 induction d with
 | nil => rfl
 | cons x d ih => rw [List.map_cons, List.map_cons, flatFV, ih, List.flatMap_cons]; rfl
theorem fl_wo (tag : Int) (d : List FvS) : (fl tag d).map (·.tag) = (woP tag (d.map (·.tag)) (d.map (·.tree))).1 ∧ (fl tag d).map (·.tree) = (woP tag (d.map (·.tag)) (d.map (·.tree))).2 := by
 induction d with
 | nil => exact ⟨rfl, rfl⟩
 | cons x d ih =>
  unfold fl at ih ⊢
  rw [List.filter_cons, List.map_cons, List.map_cons, woP]
  by_cases h : x.tag = tag
  ·rw [if_neg (by simp [h]), if_pos h]; exact ih
  ·rw [if_pos (by simp [h]), if_neg h]
   exact ⟨by rw [List.map_cons, ih.1], by rw [List.map_cons, ih.2]⟩
theorem zip_pairs (d : List FvS) : (d.map (·.tag)).zip (d.map (·.tree)) = d.map fun x => (x.tag, x.tree) := by
 induction d with
 | nil => rfl
 | cons x d ih => simp only [List.map_cons, List.zip_cons_cons, ih]
theorem sorted_put (tag : Int) (y : V) (d d' : List FvS) (new : FvS) (hn1 : new.tag = tag) (hn2 : new.tree = y) (ha : (d.map (·.tag)).Pairwise (· < ·)) (hp : d'.Perm (fl tag d ++ [new])) (hs : d'.Pairwise fun a b => a.tag ≤ b.tag) :
  d'.map (·.tag) = (putP tag y (woP tag (d.map (·.tag)) (d.map (·.tree))).1 (woP tag (d.map (·.tag)) (d.map (·.tree))).2).1 ∧ d'.map (·.tree) = (putP tag y (woP tag (d.map (·.tag)) (d.map (·.tree))).1 (woP tag (d.map (·.tag)) (d.map (·.tree))).2).2 := by
 obtain ⟨f1, f2⟩ := fl_wo tag d
 have hlen : (woP tag (d.map (·.tag)) (d.map (·.tree))).1.length = (woP tag (d.map (·.tag)) (d.map (·.tree))).2.length := (wo_len tag _ _ (by simp)).1
 have hasc := wo_asc tag (d.map (·.tag)) (d.map (·.tree)) ha
 have hne := wo_mem tag (d.map (·.tag)) (d.map (·.tree))
 obtain ⟨A, hA⟩ : ∃ A, woP tag (d.map (·.tag)) (d.map (·.tree)) = A := ⟨_, rfl⟩
 rw [hA] at f1 f2 hlen hasc hne ⊢
 obtain ⟨p1, p2⟩ := put_len tag y A.1 A.2 hlen
 have hpa := put_asc tag y A.1 A.2 hasc (fun g hg => (hne g hg).2)
 have hnod : (d'.map (·.tag)).Nodup := by
  have h1 : (d'.map (·.tag)).Perm (A.1 ++ [tag]) := by
   have := hp.map (·.tag)
   rw [List.map_append, f1, List.map_singleton, hn1] at this
   exact this
  refine h1.nodup_iff.2 ?_
  rw [List.nodup_append]
  refine ⟨asc_nodup A.1 hasc, by simp, ?_⟩
  intro a ha b hb
  simp at hb; subst hb
  exact (hne a ha).2
 have hz : d'.map (fun x => (x.tag, x.tree)) = (putP tag y A.1 A.2).1.zip (putP tag y A.1 A.2).2 := by
  refine asc_perm_eq (fun p => p.1) _ _ ?_ (zip_asc _ _ hpa) ?_
  ·rw [List.pairwise_map]
   exact asc_of_le (fun x => x.tag) d' hs hnod
  ·refine .trans ?_ (put_zip tag y A.1 A.2 hlen).symm
   have := hp.map (fun x => (x.tag, x.tree))
   rw [List.map_append, ← zip_pairs (fl tag d), f1, f2, List.map_singleton, hn1, hn2] at this
   exact this
 constructor
 ·have := congrArg (List.map Prod.fst) hz
  rw [List.map_map, List.map_fst_zip (by omega)] at this
  exact this
 ·have := congrArg (List.map Prod.snd) hz
  rw [List.map_map, List.map_snd_zip (by omega)] at this
  exact this
def withP (X : List Ty) (f : Fl) (y : V) (k : Bs) (gs : List Int) (l : List V) : V :=
 if outV y = standM X f then .mk k [82] (woP f.tag gs l).1 (woP f.tag gs l).2 else .mk k [82] (putP f.tag y (woP f.tag gs l).1 (woP f.tag gs l).2).1 (putP f.tag y (woP f.tag gs l).1 (woP f.tag gs l).2).2
def setP (l k s : Bs) (tag : Int) (val : Bs) : Option Bs := match fldO l k s tag with
 | none => none
 | some y => match wholeP y.1 y.2.1.kind val with
  | none => none
  | some z => fitP (withP y.1 y.2.1 z y.2.2.kind y.2.2.tags y.2.2.kids)
theorem setP_no {l k s : Bs} {tag : Int} {val : Bs} (h : fldO l k s tag = none) : setP l k s tag val = none := by unfold setP; rw [h]
theorem setP_bad {l k s : Bs} {tag : Int} {val : Bs} {X : List Ty} {f : Fl} {x : V} (h : fldO l k s tag = some (X, f, x)) (h2 : wholeP X f.kind val = none) : setP l k s tag val = none := by unfold setP; rw [h]; simp only; rw [h2]
theorem setP_on {l k s : Bs} {tag : Int} {val : Bs} {X : List Ty} {f : Fl} {x y : V} (h : fldO l k s tag = some (X, f, x)) (h2 : wholeP X f.kind val = some y) : setP l k s tag val = fitP (withP X f y x.kind x.tags x.kids) := by unfold setP; rw [h]; simp only; rw [h2]
theorem told_len (gs : List Int) (l : List V) (hg : gs.length = l.length) (hb : ∀ g ∈ gs, 0 ≤ g ∧ g ≤ 200) (hl : ∀ x ∈ l, (outV x).length ≤ 400) : (joinC (toldL gs (l.map outV))).length ≤ l.length * 410 := by
 induction l generalizing gs with
 | nil => cases gs <;> simp [toldL, joinC]
 | cons x l ih =>
  cases gs with
  | nil => simp at hg
  | cons g gs =>
   have h1 := hl x (by simp)
   have h2 := ih gs (by simpa using hg) (fun a ha => hb a (by simp [ha])) (fun a ha => hl a (by simp [ha]))
   have h3 : (dec g).length ≤ 3 := by
    have := hb g (by simp)
    unfold dec; exact decN_len3 _ (by omega)
   cases l with
   | nil =>
    have : gs = [] := by simpa using hg
    subst this
    simp [toldL, joinC]; omega
   | cons y l =>
    obtain ⟨g2, gs, rfl⟩ : ∃ a b, gs = a :: b := by
     cases gs with
     | nil => simp at hg
     | cons a b => exact ⟨a, b, rfl⟩
    simp only [List.map_cons, toldL, joinC, List.length_append, List.length_cons] at h2 ⊢
    omega
theorem kindS_k {l k : Bs} {X : List Ty} (h : kindS l k = some X) : kOk k = true := by
 unfold kindS at h
 cases ho : ofS l with
 | none => rw [ho] at h; cases h
 | some Y =>
  rw [ho] at h
  simp only at h
  split at h
  ·rename_i hc; exact hc.1
  ·cases h
theorem nodup_le {α : Type} [DecidableEq α] (l m : List α) (hn : l.Nodup) (hs : ∀ a ∈ l, a ∈ m) : l.length ≤ m.length := by
 induction l generalizing m with
 | nil => simp
 | cons a l ih =>
  rw [List.nodup_cons] at hn
  have ha := hs a (by simp)
  have h1 := ih (m.erase a) hn.2 (fun b hb => (List.mem_erase_of_ne (by intro e; subst e; exact hn.1 hb)).2 (hs b (by simp [hb])))
  rw [List.length_erase_of_mem ha] at h1
  have := List.length_pos_of_mem ha
  simp; omega
theorem tv_asc {X : List Ty} {k : Bs} {gs : List Int} {l : List V} (h : M.Tv X (.mk k [82] gs l)) : gs.Pairwise (· < ·) := by
 cases h with
 | num h => exact List.Pairwise.nil
 | text h => exact List.Pairwise.nil
 | record hk h hr hs hl ha hf hx => exact ha
theorem tv_eight {X : List Ty} (hg : ∀ t ∈ X, GoodT t) {k : Bs} {gs : List Int} {l : List V} (h : M.Tv X (.mk k [82] gs l)) : l.length ≤ 8 := by
 cases h with
 | num h => simp
 | text h => simp
 | @record _ t _ _ hk h hr hs hl ha hf hx =>
  have h1 := (hg t (refT_mem hr)).2.2.1
  have h2 := nodup_le gs (t.fields.map (·.tag)) (asc_nodup gs ha) (by
   intro a ha'
   obtain ⟨i, hi, rfl⟩ := List.getElem_of_mem ha'
   obtain ⟨f, f1, -⟩ := hf i hi (by omega)
   obtain ⟨m1, m2⟩ := fieldM_mem f1
   exact List.mem_map.2 ⟨f, m1, m2⟩)
  simp at h2; omega
def ReadW (w1 : World) (o : Option V) (u : Value) (wx : World) : Prop := Below w1.heap.size w1 wx ∧ (o = none → u = .nilIface) ∧ ∀ x, o = some x → PAt wx (fun b => w1.heap.size ≤ b) x u
theorem ReadW.of {w1 W wx : World} {o : Option V} {u : Value} (h1 : Below w1.heap.size w1 W) (hn : o = none → u = .nilIface) (hb : Below W.heap.size W wx) (hx : ∀ x, o = some x → PAt wx (fun b => W.heap.size ≤ b) x u) : ReadW w1 o u wx :=
 ⟨below_trans h1 hb, hn, fun x h => (hx x h).imp (by intro b _ h2; have := h1.size; omega)⟩
set_option maxHeartbeats 4000000 in
theorem i_ValueSet (l k s : Bs) (tag : Int) (val : Bs) (w : World) (hl : l.length ≤ 2000000) (hk : k.length ≤ 2000000) (hs : s.length ≤ 2000000) (hvl : val.length ≤ 2000000) (hT : Tab w) :
  Calls Tryz.prog 26 #[.string (S l), .string (S k), .string (S s), .int .i64 tag, .string (S val)] w (RetSP w (setP l k s tag val)) := by
 have HC := Lib.hid (i_findField l k s tag w hl hk hs hT)
 have HT := Lib.hid hT
 obtain ⟨O, hO⟩ : ∃ O, setP l k s tag val = O := ⟨_, rfl⟩
 rw [hO]
 have HO := Lib.hid hO
 clear hT hO hl hk hs
 go_enter Tryz.func26, Tryz.ntmps26
 go_wp2_with fail
 refine HC.out.mono ?_
 rintro ee w1 ⟨hb1, ⟨hn, v, q, rfl⟩ | ⟨es, x, gs, lv, us, v, e, f, g, n, cap, i, hfo, hrec, hxe, hgl, hgb, hsd, hG, he, hrt, h82, hw, hrow, hm, hv, hf, htag, rfl⟩⟩
 ·have HN := Lib.hid (show O = none by rw [← HO.out]; exact setP_no hn)
  clear hn
  go_wp2_with fail
  go_ret2
  exact RetSP.no HN.out hb1
 ·have hko : kOk k = true := by
   cases hks : kindS l k with
   | none => unfold fldO at hfo; rw [hks] at hfo; cases hfo
   | some X => exact kindS_k hks
  have htv := whole_tv hsd.goodT hko hw
  have htr := htv.1
  rw [hxe] at htr
  have h8 := tv_eight hsd.goodT htr
  have hasc := tv_asc htr
  have h64 : at_ x.kind 0 = 64 := by
   have hr := hrec
   unfold isRec at hr
   simp at hr; exact hr.2
  have hkl : ∀ y ∈ lv, (outV y).length ≤ 400 := by
   intro y hy
   obtain ⟨j, hj, rfl⟩ := List.getElem_of_mem hy
   have h1 := record_len (t := [82]) h64 (by decide) (by decide) hgl j hj
   rw [← hxe] at h1
   have := htv.2.2
   omega
  obtain ⟨d, e1, e2, e3, e4, e5⟩ := fv_of gs lv us hgl hm hgb
  have hdl : d.length = lv.length := by rw [← e2]; simp
  rw [e4, ← hdl] at hrow
  rw [← hdl] at h8
  obtain ⟨q, ⟨z0, z1, z2, z3, z4⟩, hne, -, hne2, hgz⟩ := hG.fieldAt hsd he hv hf
  obtain ⟨hq, hkof, hrff⟩ := hne (hne2 (by omega))
  have hft : 0 ≤ f.tag ∧ f.tag ≤ 200 := by
   have hfm := List.mem_of_getElem? hf
   have := (hsd.goodT e.t (refT_mem hrt)).2.2.2.2 f hfm
   exact ⟨by have := this.1; omega, by have := this.2.1; omega⟩
  have HRW := Lib.hid (fun W (hbw : Below w1.heap.size w1 W) => i_readWhole hsd w.heap.size f.kind val W (hG.below hbw) (HT.out.below (below_trans hb1 hbw)) hkof hrff hvl)
  rw [← hq] at HRW
  obtain ⟨o, ho⟩ : ∃ o, wholeP (tys es) f.kind val = o := ⟨_, rfl⟩
  rw [ho] at HRW
  have HWO := Lib.hid ho
  have HFO := Lib.hid hfo
  have HXE := Lib.hid hxe
  have HW := Lib.hid (fun W (hbw : Below w1.heap.size w1 W) (y : V) (T : TypeId) (yv : Value) (hp : PAt W (fun b => w.heap.size ≤ b) y (.iface T yv)) (hyl : (outV y).length ≤ 1000000) =>
   i_with hsd w.heap.size W (hG.below hbw) (HT.out.below (below_trans hb1 hbw)) d (hrow.belowed hbw) h8 y T yv hp hyl e he (by omega) g n cap i f hv hf hft.1 hft.2)
  have HPA := Lib.hid e5
  have HE := Lib.hid (⟨e1, e2, hasc, h64, hkl, hgl, hgb⟩ : d.map (·.tag) = gs ∧ d.map (·.tree) = lv ∧ gs.Pairwise (· < ·) ∧ at_ x.kind 0 = 64 ∧ (∀ y ∈ lv, (outV y).length ≤ 400) ∧ gs.length = lv.length ∧ ∀ g ∈ gs, 0 ≤ g ∧ g ≤ 200)
  have HYL := Lib.hid (fun y (h : wholeP (tys es) f.kind val = some y) => (whole_tv hsd.goodT hkof h).2.2)
  have HFT := Lib.hid hft
  have H8 := Lib.hid h8
  obtain ⟨ao, co, rfl, -, -, -⟩ := hrow.form
  have hgz' : g < w1.heap.size := hgz
  clear hko htv htr hasc h64 hkl e1 e2 e3 e4 e5 hfo hrec hxe hgl hgb hsd hG he hrt h82 hw hrow hm hv hf htag hne hne2 hq hkof hrff ho h8 hdl hgz z0 z1 z3 HC
  go_upto_region 4 with fail
  go_cut [14, 15] (fun z u wx => z = .bool o.isSome ∧ ReadW w1 o u wx)
  case first =>
   clear HW HPA HE HYL HFT HWO HFO HXE HO HT H8 hvl hb1
   go_region_held3 (fun w' => w'.cell? ⟨g, i * 5 + 2, none⟩ = some (.string (S f.kind)) ∧ w'.cell? ⟨g, i * 5 + 4, none⟩ = some (.pointer q) ∧ Below w1.heap.size w1 w')
    (first | (exact ⟨z2, z4, below_drew (Below.refl _ _)⟩) | (go_split_ands; refine ⟨?_, ?_, ?_⟩; (exact cell_later hb (by assumption)); (exact cell_later hb (by assumption)); (exact below_trans (by assumption) hb)))
    (first | (go_at_call 55; go_split_ands; (with_reducible refine (HRW.out _ (by assumption)).mono ?_); rintro ee w' ⟨u, rfl, hu, hb, hx⟩))
   all_goals
    go_split_ands
    go_wp2_with fail
    go_meet
    exact ⟨rfl, ReadW.of (by assumption) hu hb hx⟩
  case rest =>
   obtain ⟨rfl, hb2, hu, hx⟩ := hcut
   clear HRW z2 z4
   have hbw2 := below_trans hb1 hb2
   cases o with
   | none =>
    have HN := Lib.hid (show O = none by rw [← HO.out]; exact setP_bad HFO.out HWO.out)
    clear hu hx HW HPA HE HYL HFT
    go_wp2_with fail
    go_ret2
    exact RetSP.no HN.out hbw2
   | some y =>
    have hPy := hx y rfl
    obtain ⟨T, yv, g', rfl, -⟩ := hPy.isT
    have hyl := HYL.out y HWO.out
    have HW2 := Lib.hid (HW.out wc hb2 y T yv (hPy.imp (by intro b _ h; have h2 : w1.heap.size ≤ b := h; have := hb1.size; omega)) (by omega))
    have HPY := Lib.hid hPy
    have HB2 := Lib.hid hb2
    have HSet := Lib.hid (show O = fitP (withP (tys es) f y x.kind x.tags x.kids) by rw [← HO.out]; exact setP_on HFO.out HWO.out)
    obtain ⟨bq, hbq⟩ : ∃ b, (outV y == standM (tys es) f) = b := ⟨_, rfl⟩
    rw [hbq] at HW2
    have HBQ := Lib.hid hbq
    have HYY := Lib.hid hyl
    clear hu hx HW HYL hPy hb2 hbq hyl HO HFO HWO
    go_wp2_with fail
    refine HW2.out.mono ?_
    rintro ee w3 ⟨v', d', rfl, hb3, hrow3, hst, hput⟩
    have hbw3 := below_trans hbw2 hb3
    obtain ⟨h1, h2, hasc, h64, hkl, hgl, hgb⟩ := HE.out
    -- what is in the record now
    have hin : ∀ z ∈ d', z ∈ d ∨ (z.tree = y ∧ z.u = .iface T yv) := by
     intro z hz
     cases bq with
     | true => rw [hst rfl] at hz; exact .inl (List.mem_filter.1 hz).1
     | false =>
      rcases List.mem_append.1 ((hput rfl).1.mem_iff.1 hz) with h | h
      ·exact .inl (List.mem_filter.1 h).1
      ·rw [List.mem_singleton.1 h]; exact .inr ⟨rfl, rfl⟩
    have hPd : ∀ z ∈ d', PAt w3 (fun b => w.heap.size ≤ b) z.tree z.u := by
     intro z hz
     rcases hin z hz with h | ⟨ha, hb⟩
     ·exact ((HPA.out z h).belowed (below_trans HB2.out hb3))
     ·rw [ha, hb]
      exact (HPY.out.belowed hb3).imp (by intro b _ h; have h2 : w1.heap.size ≤ b := h; have := hb1.size; omega)
    have h8 := H8.out
    have hlen9 : d'.length ≤ 9 := by
     cases bq with
     | true => rw [hst rfl]; have := fl_len f.tag d; omega
     | false =>
      have := (hput rfl).1.length_eq
      have := fl_len f.tag d
      simp at *; omega
    have hshort : ∀ z ∈ d'.map (·.tree), (outV z).length ≤ 400 := by
     intro z hz
     obtain ⟨a, ha, rfl⟩ := List.mem_map.1 hz
     rcases hin a ha with h | ⟨h, -⟩
     ·exact hkl _ (by rw [← h2]; exact List.mem_map_of_mem h)
     ·rw [h]; exact HYY.out
    have htags : ∀ g ∈ d'.map (·.tag), 0 ≤ g ∧ g ≤ 200 := by
     intro z hz
     obtain ⟨a, -, rfl⟩ := List.mem_map.1 hz
     exact ⟨a.h0, a.h1⟩
    have hP3 : PAt w3 (fun b => w.heap.size ≤ b) (.mk x.kind [82] (d'.map (·.tag)) (d'.map (·.tree))) (.iface 85 v') := by
     refine .rcd x.kind h64 (d'.map (·.u)) (by simp) htags ?_ (by simp) ?_
     ·rw [fv_flat, List.length_map]
      exact hrow3.imp (by intro b _ h; have := hbw2.size; omega)
     ·intro j j1 j2
      have := hPd _ (List.getElem_mem (show j < d'.length by simpa using j1))
      simpa using this
    have hlen3 : (outV (.mk x.kind [82] (d'.map (·.tag)) (d'.map (·.tree)))).length ≤ 1000000 := by
     rw [out_record h64 (by decide) (by decide)]
     have := told_len (d'.map (·.tag)) (d'.map (·.tree)) (by simp) htags hshort
     simp at this ⊢; omega
    have HF := Lib.hid (i_fitText _ _ _ _ w3 hP3 (HT.out.below hbw3) hlen3)
    have hTree : V.mk x.kind [82] (d'.map (·.tag)) (d'.map (·.tree)) = withP (tys es) f y x.kind x.tags x.kids := by
     have ex1 : x.tags = gs := by rw [HXE.out]; rfl
     have ex2 : x.kids = lv := by rw [HXE.out]; rfl
     rw [ex1, ex2]
     unfold withP
     cases bq with
     | true =>
      rw [if_pos (eq_of_beq HBQ.out), hst rfl, (fl_wo f.tag d).1, (fl_wo f.tag d).2, h1, h2]
     | false =>
      have hs := sorted_put f.tag y d d' _ rfl rfl (by rw [h1]; exact hasc) (hput rfl).1 (hput rfl).2
      rw [if_neg (beq_eq_false_iff_ne.1 HBQ.out), hs.1, hs.2, h1, h2]
    rw [hTree, ← HSet.out] at HF
    obtain ⟨a9, c9, rfl, -, -, -⟩ := hrow3.form
    have HB3 := Lib.hid hbw3
    clear hTree hlen3 hP3 htags hshort hlen9 hPd hin h1 h2 hasc h64 hkl hgl hgb hst hput hrow3 hb3 hbw3 HPA HE HSet HBQ HYY HPY HW2
    go_wp2_with fail
    refine HF.out.mono ?_
    rintro ee w4 ⟨rfl, hb4⟩
    go_wp2_with fail
    go_ret2
    exact ⟨rfl, below_trans HB3.out hb4⟩
end Go.Proofs.YtcjooeklehggaaaGreatDoor
