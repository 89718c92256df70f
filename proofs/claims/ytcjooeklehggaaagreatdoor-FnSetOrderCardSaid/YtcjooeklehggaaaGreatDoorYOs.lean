/- Lemmas of this seat. -/
import Derived.Test.YtcjooeklehggaaaGreatDoorYIs
import Derived.Test.YtcjooeklehggaaaGreatDoorYLs
set_option linter.unusedVariables false
set_option linter.unusedSimpArgs false
set_option maxRecDepth 100000
namespace Go.Proofs.YtcjooeklehggaaaGreatDoor
open Go.ChangeShapes Go.WideShapes Go.ChangeAt Go.RowKit M
theorem PAt.rec_or {w : World} {N : Nat → Prop} {x : V} {T : TypeId} {v : Value} (h : PAt w N x (.iface T v)) : (¬ T = 85 ∧ isRec x = false) ∨
  (T = 85 ∧ isRec x = true ∧ ∃ gs l us, x = .mk x.kind [82] gs l ∧ gs.length = l.length ∧ (∀ g ∈ gs, 0 ≤ g ∧ g ≤ 200) ∧ RowN w N 137 2 v l.length (flatFV gs us) ∧ PMany w N l us) := by
 cases h with
 | num n h0 h1 => exact .inl ⟨by decide, by unfold isRec; simp [V.text, V.kind, show at_ [110] 0 = 110 from rfl]⟩
 | txt x h => exact .inl ⟨by decide, by unfold isRec; simp [V.text, V.kind, show at_ [116] 0 = 116 from rfl]⟩
 | flg b => exact .inl ⟨by decide, by unfold isRec; simp [V.text, V.kind, show at_ [102] 0 = 102 from rfl]⟩
 | non k h => exact .inl ⟨by decide, rfl⟩
 | som k h hx => exact .inl ⟨by decide, rfl⟩
 | lst k h us hr hl hh => exact .inl ⟨by decide, rfl⟩
 | enm k h g h0 h1 => exact .inl ⟨by decide, rfl⟩
 | uni k h g h0 h1 hx => exact .inl ⟨by decide, rfl⟩
 | rcd k h us hg hgb hr hl hh => exact .inr ⟨rfl, by unfold isRec; simp [V.text, V.kind, h], _, _, us, rfl, hg, hgb, hr, hl, hh⟩
def recP (l k s : Bs) : Option V := match valP l k s with | none => none | some x => if isRec x = true then some x else none
def RetRc (w : World) (l k s : Bs) (e : Ending) (w' : World) : Prop := Below w.heap.size w w' ∧
  ((recP l k s = none ∧ ∃ v q, e = .returned (.tuple #[v, .pointer q, .bool false])) ∨
   ∃ es x gs lv us v, ofS l = some (tys es) ∧ kindS l k = some (tys es) ∧ wholeP (tys es) k s = some x ∧ isRec x = true ∧ x = .mk x.kind [82] gs lv ∧ gs.length = lv.length ∧ (∀ g ∈ gs, 0 ≤ g ∧ g ≤ 200) ∧ Sound es ∧ Graph w' w.heap.size es ∧
     RowN w' (fun b => w.heap.size ≤ b) 137 2 v lv.length (flatFV gs us) ∧ PMany w' (fun b => w.heap.size ≤ b) lv us ∧ kOk k = true ∧ (∀ m ∈ kRefs k, (findE es m).isSome = true) ∧
     e = .returned (.tuple #[v, ptrE (leadE es k), .bool true]))
theorem i_findRecord (l k s : Bs) (w : World) (hl : l.length ≤ 2000000) (hk : k.length ≤ 2000000) (hs : s.length ≤ 2000000) (hT : Tab w) :
  Calls Tryz.prog 78 #[.string (S l), .string (S k), .string (S s)] w (RetRc w l k s) := by
 have HC := Lib.hid (i_findValue l k s w hl hk hs hT)
 clear hT
 go_enter Tryz.func78, Tryz.ntmps78
 go_wp2_with fail
 refine HC.out.mono ?_
 rintro ee w1 ⟨hb1, ⟨hn, q, rfl⟩ | ⟨es, x, u, hof, hks, hw, hsd, hG, hx, hko, hrf, rfl⟩⟩
 ·have HN := Lib.hid (show recP l k s = none by unfold recP; rw [hn])
  clear hn
  go_wp2_with fail
  go_ret3
  exact ⟨hb1, .inl ⟨HN.out, _, q, rfl⟩⟩
 ·have HV := Lib.hid (show valP l k s = some x by rw [valP_on hks, hw])
  obtain ⟨qa, hqa⟩ : ∃ qa, ptrE (leadE es k) = .pointer qa := ⟨_, rfl⟩
  rw [hqa]
  have HQA := Lib.hid hqa
  obtain ⟨T, v, g', rfl, -⟩ := hx.isT
  rcases hx.rec_or with ⟨hne, hr⟩ | ⟨rfl, hr, gs, lv, us, hxe, hgl, hgb, hrow, hm⟩
  ·have HN := Lib.hid (show recP l k s = none by unfold recP; rw [HV.out]; simp only; rw [hr]; rfl)
   clear hof hks hw hsd hG hx hko hrf hr hqa
   go_wp2_with fail
   go_ret3
   exact ⟨hb1, .inl ⟨HN.out, _, qa, rfl⟩⟩
  ·have HH := Lib.hid (⟨hof, hks, hw, hr, hxe, hgl, hgb, hsd, hG, hrow, hm, hko, hrf⟩ : ofS l = some (tys es) ∧ kindS l k = some (tys es) ∧ wholeP (tys es) k s = some x ∧ isRec x = true ∧ x = .mk x.kind [82] gs lv ∧ gs.length = lv.length ∧ (∀ g ∈ gs, 0 ≤ g ∧ g ≤ 200) ∧ Sound es ∧ Graph w1 w.heap.size es ∧
    RowN w1 (fun b => w.heap.size ≤ b) 137 2 v lv.length (flatFV gs us) ∧ PMany w1 (fun b => w.heap.size ≤ b) lv us ∧ kOk k = true ∧ (∀ m ∈ kRefs k, (findE es m).isSome = true))
   clear hof hks hw hsd hG hx hko hrf hr hqa hxe hgl hgb hrow hm
   go_wp2_with fail
   go_ret3
   obtain ⟨a1, a2, a3, a4, a5, a6, a7, a8, a9, b1, b2, b3, b4⟩ := HH.out
   exact ⟨hb1, .inr ⟨es, x, gs, lv, us, v, a1, a2, a3, a4, a5, a6, a7, a8, a9, b1, b2, b3, b4, by rw [HQA.out]; rfl⟩⟩
def fldO (l k s : Bs) (tag : Int) : Option (List Ty × Fl × V) := match kindS l k with
 | none => none
 | some X => match recP l k s with
  | none => none
  | some x => match refT X k with
   | none => none
   | some t => (fieldM t tag).map fun f => (X, f, x)
def RetFF (w : World) (l k s : Bs) (tag : Int) (r : Ending) (w' : World) : Prop := Below w.heap.size w w' ∧
  ((fldO l k s tag = none ∧ ∃ v q, r = .returned (.tuple #[v, .pointer q, .bool false])) ∨
   ∃ es x gs lv us v e f g n cap i, fldO l k s tag = some (tys es, f, x) ∧ isRec x = true ∧ x = .mk x.kind [82] gs lv ∧ gs.length = lv.length ∧ (∀ g ∈ gs, 0 ≤ g ∧ g ≤ 200) ∧ Sound es ∧ Graph w' w.heap.size es ∧ e ∈ es ∧ refT (tys es) k = some e.t ∧ e.t.sort = 82 ∧ wholeP (tys es) k s = some x ∧
     RowN w' (fun b => w.heap.size ≤ b) 137 2 v lv.length (flatFV gs us) ∧ PMany w' (fun b => w.heap.size ≤ b) lv us ∧
     e.v = .slice (some ⟨g, 0, none⟩) n cap ∧ e.t.fields[i]? = some f ∧ f.tag = tag ∧
     r = .returned (.tuple #[v, .pointer (some ⟨g, i * 5, none⟩), .bool true]))
theorem i_findField (l k s : Bs) (tag : Int) (w : World) (hl : l.length ≤ 2000000) (hk : k.length ≤ 2000000) (hs : s.length ≤ 2000000) (hT : Tab w) :
  Calls Tryz.prog 50 #[.string (S l), .string (S k), .string (S s), .int .i64 tag] w (RetFF w l k s tag) := by
 have HC := Lib.hid (i_findRecord l k s w hl hk hs hT)
 clear hT
 go_enter Tryz.func50, Tryz.ntmps50
 go_wp2_with fail
 refine HC.out.mono ?_
 rintro ee w1 ⟨hb1, ⟨hn, v, q, rfl⟩ | ⟨es, x, gs, lv, us, v, hof, hks, hw, hr, hxe, hgl, hgb, hsd, hG, hrow, hm, hko, hrf, rfl⟩⟩
 ·have HN := Lib.hid (show fldO l k s tag = none by unfold fldO; rw [hn]; cases kindS l k <;> rfl)
  clear hn
  go_wp2_with fail
  go_ret3
  exact ⟨hb1, .inl ⟨HN.out, _, _, rfl⟩⟩
 ·have hrp : recP l k s = some x := by unfold recP; rw [valP_on hks, hw]; exact if_pos hr
  have htv : M.Tv (tys es) x ∧ x.kind = k := by
   unfold wholeP at hw
   split at hw
   ·split at hw
    ·cases hw
    ·rename_i y hy
     split at hw
     ·injection hw with hw; subst hw; exact readF_tv hsd.goodT 12 s k y hko hy
     ·cases hw
   ·cases hw
  obtain ⟨t, hrt⟩ : ∃ t, refT (tys es) k = some t := by
   cases hrt : refT (tys es) k with
   | none => rw [rec_none htv.1 (by rw [htv.2]; exact hrt)] at hr; cases hr
   | some t => exact ⟨t, rfl⟩
  have hs82 := (rec_sort htv.1 (by rw [htv.2]; exact hrt)).1 hr
  obtain ⟨e, hle, rfl⟩ : ∃ e, leadE es k = some e ∧ e.t = t := by
   have := refT_lead es k
   rw [hrt] at this
   split at this
   ·cases hle : leadE es k with
    | none => rw [hle] at this; cases this
    | some e => rw [hle] at this; injection this with this; exact ⟨e, rfl, this.symm⟩
   ·cases this
  have hmem : e ∈ es := by
   unfold leadE at hle
   split at hle
   ·cases hle
   ·exact (findE_mem hle).1
  have HF := Lib.hid (i_field hsd.good w.heap.size e hmem tag w1 hG)
  have HFO := Lib.hid (show fldO l k s tag = (fieldM e.t tag).map fun f => (tys es, f, x) by unfold fldO; rw [hks]; simp only; rw [hrp]; simp only; rw [hrt])
  rw [hle, show ptrE (some e) = .pointer (some ⟨e.b, 0, none⟩) from rfl]
  have HRC := Lib.hid hr
  have HH := Lib.hid (⟨hxe, hgl, hgb, hsd, hG, hmem, hrt, hs82, hw, hrow, hm⟩ : x = .mk x.kind [82] gs lv ∧ gs.length = lv.length ∧ (∀ g ∈ gs, 0 ≤ g ∧ g ≤ 200) ∧ Sound es ∧ Graph w1 w.heap.size es ∧ e ∈ es ∧ refT (tys es) k = some e.t ∧ e.t.sort = 82 ∧ wholeP (tys es) k s = some x ∧
   RowN w1 (fun b => w.heap.size ≤ b) 137 2 v lv.length (flatFV gs us) ∧ PMany w1 (fun b => w.heap.size ≤ b) lv us)
  obtain ⟨ao, co, rfl, -, -, -⟩ := hrow.form
  clear hof hks hw hr hxe hgl hgb hsd hG hrow hm hko hrf hrp htv hrt hs82 hle hmem
  go_wp2_with fail
  refine HF.out.mono ?_
  rintro ee w2 ⟨rfl, ⟨hn, rfl⟩ | ⟨g, n, cap, i, f, hv, hf, hn, rfl⟩⟩
  ·have HN := Lib.hid (show fldO l k s tag = none by rw [HFO.out, show fieldM e.t tag = none from hn]; rfl)
   clear hn
   go_wp2_with fail
   go_ret3
   exact ⟨hb1, .inl ⟨HN.out, _, _, rfl⟩⟩
  ·have HY := Lib.hid (show fldO l k s tag = some (tys es, f, x) by rw [HFO.out, show fieldM e.t tag = some f from hn]; rfl)
   have htag : f.tag = tag := (fieldM_mem (show fieldM e.t tag = some f from hn)).2
   have HV := Lib.hid hv; have HF2 := Lib.hid hf; have HTG := Lib.hid htag
   clear hn hv hf htag
   go_wp2_with fail
   go_ret3
   obtain ⟨a1, a2, a3, a4, a5, a6, a7, a8, a9, b1, b2⟩ := HH.out
   exact ⟨hb1, .inr ⟨es, x, gs, lv, us, _, e, f, g, n, cap, i, HY.out, HRC.out, a1, a2, a3, a4, a5, a6, a7, a8, a9, b1, b2, HV.out, HF2.out, HTG.out, rfl⟩⟩
def fldT (X : List Ty) (gs : List Int) (l : List V) (f : Fl) : Bs := match atP gs l f.tag with | some y => outV y | none => standM X f
theorem fldT_some {X : List Ty} {gs : List Int} {l : List V} {f : Fl} {y : V} (h : atP gs l f.tag = some y) : fldT X gs l f = outV y := by unfold fldT; rw [h]
theorem fldT_none {X : List Ty} {gs : List Int} {l : List V} {f : Fl} (h : atP gs l f.tag = none) : fldT X gs l f = standM X f := by unfold fldT; rw [h]
set_option maxHeartbeats 1000000 in
theorem i_fieldText {es : List Ent} (hs : Sound es) (B : Nat) (w : World) (hG : Graph w B es) (hT : Tab w) {gs : List Int} {lv : List V} {us : List Value} {v : Value} {N : Nat → Prop} (hgl : gs.length = lv.length) (hr : RowN w N 137 2 v lv.length (flatFV gs us)) (hm : PMany w N lv us)
  (hkl : ∀ x ∈ lv, (outV x).length ≤ 1000000) (hll : lv.length ≤ 1000000) (e : Ent) (he : e ∈ es) (h69 : e.t.sort ≠ 69) (g n cap i : Nat) (f : Fl) (hv : e.v = .slice (some ⟨g, 0, none⟩) n cap) (hf : e.t.fields[i]? = some f) :
  Calls Tryz.prog 51 #[v, .pointer (some ⟨g, i * 5, none⟩)] w (TextOf w (fldT (tys es) gs lv f)) := by
 obtain ⟨ao, co, rfl, hcap, hxl, hh⟩ := hr.form
 obtain ⟨O, hO⟩ : ∃ O, fldT (tys es) gs lv f = O := ⟨_, rfl⟩
 rw [hO]
 have HFA := Lib.hid (fun w' (hbw : Below w.heap.size w w') => (hG.below hbw).fieldAt hs he hv hf)
 have HST := Lib.hid (fun W' (hbw : Below w.heap.size w W') => (by
  obtain ⟨q', hf', hq', -, hne, -⟩ := HFA.out W' hbw
  have := i_standField hs B g (i * 5) f W' (hG.below hbw) (hT.below hbw) ⟨.pointer q', hf', hq'⟩
  rw [if_neg (hne h69)] at this; exact this : Calls Tryz.prog 35 #[.pointer (some ⟨g, i * 5, none⟩)] W' fun e w' => e = .returned (.string (S (standM (tys es) f))) ∧ Below W'.heap.size W' w'))
 have hgw : g < w.heap.size := by obtain ⟨-, -, -, -, -, h⟩ := HFA.out w (Below.refl _ _); exact h
 have HS := Lib.hid (fun y (h : atP gs lv f.tag = some y) => (by rw [← hO]; exact fldT_some h : O = outV y))
 have HNN := Lib.hid (fun (h : atP gs lv f.tag = none) => (by rw [← hO]; exact fldT_none h : O = standM (tys es) f))
 have HR := Lib.hid hr; have HM := Lib.hid hm; have HT := Lib.hid hT; have HKL := Lib.hid hkl
 obtain ⟨m, hmn⟩ : ∃ m, lv.length = m := ⟨_, rfl⟩
 rw [hmn] at hcap hxl hh hll HR ⊢
 have HN := Lib.hid hmn; have HGL := Lib.hid hgl; have HH := Lib.hid hh
 clear hO hr hm hT hkl hG hs hgl hmn hh hv hf he h69
 go_enter Tryz.func51, Tryz.ntmps51
 go_wp2_with fail
 go_loopw [9] (fun k wr => ∃ j : Nat, j ≤ m ∧ k = .int .i64 j ∧ Hid (atP gs lv f.tag = atP (gs.drop j) (lv.drop j) f.tag) ∧ Hid (Below w.heap.size w wr)) (fun k _ => m - (intOf k).toNat)
 case atStart => exact ⟨0, by omega, rfl, rfl, Below.refl _ _⟩
 case round =>
  obtain ⟨j, hj, rfl, hI, hb⟩ := hrel
  by_cases hjn : j < m
  ·obtain ⟨g2, rfl⟩ : ∃ g, ao = some ⟨g, 0, none⟩ := by
    rcases HH.out with ⟨_, h0⟩ | ⟨g, h0, -⟩
    ·omega
    ·exact ⟨g, h0⟩
   have hjl : j < lv.length := by rw [HN.out]; exact hjn
   have hju : j < us.length := by rw [HM.out.1]; exact hjl
   have hjg : j < gs.length := by rw [HGL.out]; exact hjl
   obtain ⟨f0, f1⟩ := flatFV_get gs us j hjg hju
   have x0 := (HR.out.belowed hb.out).cell (j * 2) (by omega)
   have x1 := (HR.out.belowed hb.out).cell (j * 2 + 1) (by omega)
   rw [f0] at x0
   rw [f1] at x1
   have hx := (HM.out.belowed hb.out).2 j hjl hju
   obtain ⟨T, y, g', hu, hI'⟩ := hx.isT
   rw [hu] at x1 hx
   obtain ⟨q, ⟨z0, -, -, -, -⟩, -, -, -, -⟩ := HFA.out wr hb.out
   have HX := Lib.hid hx; have HIT := Lib.hid hI'
   have HJY := Lib.hid (fun (h : gs[j] = f.tag) => (by rw [hI.out, atP_yes gs lv f.tag j hjg hjl h] : atP gs lv f.tag = some lv[j]))
   have HJN := Lib.hid (fun (h : ¬ gs[j] = f.tag) => (by rw [hI.out, atP_no gs lv f.tag j hjg hjl h] : atP gs lv f.tag = atP (gs.drop (j + 1)) (lv.drop (j + 1)) f.tag))
   obtain ⟨t, ht⟩ : ∃ t, gs[j] = t := ⟨_, rfl⟩
   rw [ht] at x0 HJY HJN
   have hz := hb.out.size
   have hgr : g < wr.heap.size := by omega
   have hgr2 : ¬ wr.heap.size = g := by omega
   clear hx hu hI' f0 f1 ht
   go_upto_region 4 with fail
   obtain ⟨bq, hbq⟩ : ∃ b, decide (t = f.tag) = b := ⟨_, rfl⟩
   go_cut [19] (fun z wx => z = .bool bq ∧ ∃ nq, wx = (wr.alloc (.cells #[.int .i64 t, .iface T y] 137)).drewN nq)
   case first =>
    clear HFA HST HS HNN HR HM HT HKL HN HGL HH hI HX HIT HJY HJN hb
    go_quiet (fail)
    go_wp2_with fail
    go_meet
    exact ⟨by rw [← hbq]; first | rfl | (congr 1; simp), _, rfl⟩
   case rest =>
    obtain ⟨rfl, nq, hwc⟩ := hcut
    have hbc : Below wr.heap.size wr wc := by rw [hwc]; exact below_draws (below_alloc (Below.refl _ _) _) _
    have k1 : wc.cell? ⟨wr.heap.size, 1, none⟩ = some (.iface T y) := by
     rw [hwc]
     exact ((Blk.new wr 137 #[.int .i64 t, .iface T y]).keep (below_draws (Below.refl _ _) nq)).cell 1
    have hbw : Below w.heap.size w wc := below_trans hb.out hbc
    by_cases htf : t = f.tag
    ·have hY := HJY.out htf
     have HOO := Lib.hid (HS.out _ hY)
     have HC := Lib.hid (by
      have := texts lv[j] T y g' N wc HIT.out (HX.out.belowed hbc) (HT.out.below hbw) (HKL.out _ (List.getElem_mem hjl))
      rw [← HOO.out] at this; exact this : Calls Tryz.prog g' #[y] wc (TextOf wc O))
     have hmm := fun w => HIT.out.method y w
     have hcc := fun args w => HIT.out.enters args w
     have HBW := Lib.hid hbw
     obtain rfl : bq = true := by rw [← hbq]; exact decide_eq_true htf
     clear hbq HJY HJN hY hwc hbc hbw htf x0 x1 z0 HFA HST HS HNN HR HM HT HKL HN HGL HH hI HX HIT hb
     go_wp2_with fail
     refine HC.out.mono ?_
     rintro ee w2 ⟨rfl, hb2⟩
     go_wp2_with fail
     go_ret
     exact ⟨rfl, below_trans HBW.out hb2⟩
    ·have HJ2 := Lib.hid (HJN.out htf)
     have HBW := Lib.hid hbw
     obtain rfl : bq = false := by rw [← hbq]; exact decide_eq_false htf
     clear hbq HJY HJN hwc hbc hbw htf x0 x1 z0 hI HX HIT hb k1
     go_wp2_with fail
     go_roundw
     case rel => exact ⟨j + 1, by omega, by go_num, HJ2.out, HBW.out⟩
     case measure => simp [intOf]; omega
  ·obtain rfl : m = j := by omega
   have hN := HNN.out (by rw [hI.out]; exact atP_end gs lv f.tag m (by rw [HGL.out, HN.out]; exact Nat.le_refl _))
   have HC := Lib.hid (by
    have := HST.out wr hb.out
    rw [← hN] at this; exact this : Calls Tryz.prog 35 #[.pointer (some ⟨g, i * 5, none⟩)] wr fun e w' => e = .returned (.string (S O)) ∧ Below wr.heap.size wr w')
   clear hN HFA HST HS HNN
   go_wp2_with fail
   refine HC.out.mono ?_
   rintro ee w2 ⟨rfl, hb2⟩
   go_wp2_with fail
   go_ret
   exact ⟨rfl, below_trans hb.out hb2⟩
def fieldVP (l k s : Bs) (tag : Int) : Option Bs := (fldO l k s tag).map fun y => fldT y.1 y.2.2.tags y.2.2.kids y.2.1
theorem i_ValueField (l k s : Bs) (tag : Int) (w : World) (hl : l.length ≤ 2000000) (hk : k.length ≤ 2000000) (hs : s.length ≤ 2000000) (hT : Tab w) :
  Calls Tryz.prog 24 #[.string (S l), .string (S k), .string (S s), .int .i64 tag] w fun e w' => e = .returned (.tuple #[.string (S ((fieldVP l k s tag).getD [])), .bool (fieldVP l k s tag).isSome]) ∧ Below w.heap.size w w' := by
 have HC := Lib.hid (i_findField l k s tag w hl hk hs hT)
 have HT := Lib.hid hT
 obtain ⟨O, hO⟩ : ∃ O, fieldVP l k s tag = O := ⟨_, rfl⟩
 rw [hO]
 have HO := Lib.hid hO
 clear hT hO
 go_enter Tryz.func24, Tryz.ntmps24
 go_wp2_with fail
 refine HC.out.mono ?_
 rintro ee w1 ⟨hb1, ⟨hn, v, q, rfl⟩ | ⟨es, x, gs, lv, us, v, e, f, g, n, cap, i, hfo, hrec, hxe, hgl, hgb, hsd, hG, he, hrt, h82, hw, hrow, hm, hv, hf, htag, rfl⟩⟩
 ·have HN := Lib.hid (show O = none by rw [← HO.out]; unfold fieldVP; rw [hn]; rfl)
  clear hn
  go_wp2_with fail
  go_ret2
  exact ⟨ret_sb (by rw [HN.out]; rfl) (by rw [HN.out]; rfl), hb1⟩
 ·have HY := Lib.hid (show O = some (fldT (tys es) gs lv f) by rw [← HO.out]; unfold fieldVP; rw [hfo, hxe]; rfl)
  have hlen : (outV x).length ≤ 400 := by
   unfold wholeP at hw
   split at hw
   ·split at hw
    ·cases hw
    ·rename_i y hy
     split at hw
     ·injection hw with hw; subst hw; have := readF_len hy; omega
     ·cases hw
   ·cases hw
  have h64 : at_ x.kind 0 = 64 := by
   have hr := hrec
   unfold isRec at hr
   simp at hr; exact hr.2
  have hkl : lv.length ≤ (outV x).length ∧ ∀ y ∈ lv, (outV y).length ≤ (outV x).length := by
   rw [hxe]
   refine ⟨record_cnt h64 (by decide) (by decide) hgl, ?_⟩
   intro y hy
   obtain ⟨j, hj, rfl⟩ := List.getElem_of_mem hy
   exact record_len h64 (by decide) (by decide) hgl j hj
  have HC2 := Lib.hid (i_fieldText hsd w.heap.size w1 hG (HT.out.below hb1) hgl hrow hm (fun y hy => by have := hkl.2 y hy; omega) (by omega) e he (by omega) g n cap i f hv hf)
  obtain ⟨ao, co, rfl, -, -, -⟩ := hrow.form
  obtain ⟨R, hR⟩ : ∃ R, fldT (tys es) gs lv f = R := ⟨_, rfl⟩
  rw [hR] at HC2 HY
  clear h64 hrec hfo hxe hgl hgb hsd hG he hrt h82 hw hrow hm hv hf htag hlen hkl hR
  go_wp2_with fail
  refine HC2.out.mono ?_
  rintro ee w2 ⟨rfl, hb2⟩
  go_wp2_with fail
  go_ret2
  exact ⟨ret_sb (by rw [HY.out]; rfl) (by rw [HY.out]; rfl), below_trans hb1 hb2⟩
end Go.Proofs.YtcjooeklehggaaaGreatDoor
