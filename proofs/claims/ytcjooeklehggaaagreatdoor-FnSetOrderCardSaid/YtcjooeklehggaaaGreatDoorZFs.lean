/- Lemmas of this seat. -/
import Derived.Test.YtcjooeklehggaaaGreatDoorZAs
import Derived.Test.YtcjooeklehggaaaGreatDoorZBs
import Derived.Test.YtcjooeklehggaaaGreatDoorZCs
import Derived.Test.YtcjooeklehggaaaGreatDoorZEs
set_option linter.unusedVariables false
set_option linter.unusedSimpArgs false
set_option maxRecDepth 100000
namespace Go.Proofs.YtcjooeklehggaaaGreatDoor
open Go.ChangeShapes Go.WideShapes Go.ChangeAt Go.RowKit M
theorem k_l3ReadType (l : Bs) (w : World) (hs : l.length ≤ 1000000) :
  Calls Tryz.prog 94 #[.string (S l)] w (RetT w w.heap.size (readType l)) := by
 by_cases h : 1 ≤ eqAt l ∧ eqAt l < l.length
 ·by_cases h2 : isName ((l.drop 1).take (eqAt l - 1)) = true ∧ isSort (at_ l 0) = true
  ·by_cases h3 : l.drop (eqAt l + 1) = []
   ·exact k_type3 l w _ hs h h2 h3
   ·exact k_type4 l w _ hs (Nat.le_refl _) h h2 h3
  ·exact k_type2 l w _ hs h h2
 ·exact k_type1 l w _ hs h
def RetX (w : World) (o : Option (List Ty)) (e : Ending) (w' : World) : Prop := ∃ (v : Value) (ps : List (Ty × Value)), e = .returned (.tuple #[v, .bool o.isSome]) ∧ Tys w' w.heap.size v ps ∧ (∀ X, o = some X → ps.map (·.1) = X) ∧ ps.length ≤ 8 ∧ Below w.heap.size w w'
theorem readTypes_no {L : List Bs} {k : Nat} {X : List Ty} (h : k < L.length) (hf : readType L[k] = none) : readTypes (L.drop k) X = none := by
 rw [List.drop_eq_getElem_cons h, readTypes, hf]
theorem readTypes_in {L : List Bs} {k : Nat} {X : List Ty} {t : Ty} (h : k < L.length) (hf : readType L[k] = some t) : readTypes (L.drop k) X = readTypes (L.drop (k + 1)) (X ++ [t]) := by
 rw [List.drop_eq_getElem_cons h, readTypes, hf]
theorem readTypes_end {L : List Bs} {k : Nat} {X : List Ty} (h : L.length ≤ k) : readTypes (L.drop k) X = some X := by
 rw [List.drop_of_length_le h, readTypes]
theorem app_ty {w : World} {ops : Array Oper} {rest : List Oper} {o : Oper} {a : Act} {Q : Exit → Act → World → Prop} (hgd : o.guard = none) (s x : Operand)
  (ho : o.op = .call { callee := .builtin .append, args := #[s, x], argTypes := #[58, 58] })
  (B : Nat) (v : Value) (ps : List (Ty × Value)) (hs : a.eval s = v) (hown : Tys w B v ps) (b : Nat) (t : Ty) (fv : Value) (hfv : Flds w B fv t.fields) (hx : a.eval x = .slice (some ⟨b, 0, none⟩) 1 1) (hc : Blk w b 61 #[.int .u8 t.sort, .string (S t.name), fv])
  (hn : ps.length ≤ 3000000) (hB : B ≤ w.heap.size)
  (h : ∀ v' w', Tys w' B v' (ps ++ [(t, fv)]) → Below B w w' → w.grownBy w' v.ownBlock → wpList Tryz.prog ops Q rest (a.put o.dst v') w') : wpList Tryz.prog ops Q (o :: rest) a w := by
 obtain ⟨ao, c, hfe, -, -⟩ := hfv.form
 refine app_gen hgd s x 58 ho B 61 _ 3 48 Tryz.underlying58 info_type rfl (by omega) (by omega) v ps.length (ps.flatMap tyCells) hs hown.1 ⟨b, 0, none⟩ 1 1 (tyCells (t, fv)) hx rfl ?_ ?_ (by omega) hB (fun v' w' h1 h2 h3 => h v' w' ⟨?_, ?_⟩ h2 h3)
 ·intro j u hj
  match j, hj with
  | 0, hj => simp [tyCells] at hj; subst hj; exact hc.cell 0
  | 1, hj => simp [tyCells] at hj; subst hj; exact hc.cell 1
  | 2, hj => simp [tyCells] at hj; subst hj; exact hc.cell 2
 ·intro u hu
  simp [tyCells] at hu
  rcases hu with rfl | rfl | rfl
  ·rfl
  ·rfl
  ·rw [hfe]; rfl
 ·rw [List.length_append, List.flatMap_append]; simpa using h1
 ·intro p hp
  have hpf : Flds w B p.2 p.1.fields := by
   rcases List.mem_append.1 hp with hp | hp
   ·exact hown.2 p hp
   ·simp at hp; subst hp; exact hfv
  exact World.ownsRow.kept hpf h3 (own_own hpf hown.1 (by decide))
theorem ofS_no {s : Bs} (h : ¬ (s.length ≤ 400 ∧ (cutL 10 s).length ≤ 9 ∧ lastL (cutL 10 s) = [])) : ofS s = none := by unfold ofS; rw [if_neg h]
theorem ofS_bad {s : Bs} (h : s.length ≤ 400 ∧ (cutL 10 s).length ≤ 9 ∧ lastL (cutL 10 s) = []) (h2 : readTypes ((cutL 10 s).take ((cutL 10 s).length - 1)) [] = none) : ofS s = none := by unfold ofS; rw [if_pos h, h2]
theorem ofS_on {s : Bs} {X : List Ty} (h : s.length ≤ 400 ∧ (cutL 10 s).length ≤ 9 ∧ lastL (cutL 10 s) = []) (h2 : readTypes ((cutL 10 s).take ((cutL 10 s).length - 1)) [] = some X) : ofS s = if validB X = true then some X else none := by unfold ofS; rw [if_pos h, h2]
theorem RetX.no {w w' : World} {o : Option (List Ty)} (h : o = none) (hb : Below w.heap.size w w') : RetX w o (.returned (.tuple #[.slice none 0 0, .bool false])) w' := ⟨_, [], by rw [h]; rfl, Tys.nil_ _ _, (by rw [h]; intro X hX; cases hX), by simp, hb⟩
theorem RetX.of {w w' : World} {X : List Ty} {b : Bool} (v : Value) (ps : List (Ty × Value)) (hb : b = validB X) (h : Tys w' w.heap.size v ps) (hp : ps.map (·.1) = X) (hl : ps.length ≤ 8) (hbe : Below w.heap.size w w') : RetX w (if validB X = true then some X else none) (.returned (.tuple #[v, .bool b])) w' := by
 refine ⟨v, ps, ?_, h, ?_, hl, hbe⟩
 ·rw [hb]; cases validB X <;> rfl
 ·intro Y hY; split at hY
  ·injection hY with hY; rw [hp, hY]
  ·cases hY
set_option maxHeartbeats 4000000 in
theorem k_l3Of_long (l : Bs) (w : World) (hs : l.length ≤ 2000000) (h : ¬ (l.length ≤ 400 ∧ (cutL 10 l).length ≤ 9 ∧ lastL (cutL 10 l) = [])) :
  Calls Tryz.prog 66 #[.string (S l)] w (RetX w (ofS l)) := by
 rw [ofS_no h]
 have hne := cutL_ne 10 l
 have HC := Lib.hid (fun w => k_l3Cut l 10 w (by omega) (by omega) (by omega))
 generalize cutL 10 l = L at *
 obtain ⟨m, hm⟩ : ∃ m, L.length = m := ⟨_, rfl⟩
 have hm1 : 1 ≤ m := by cases L with | nil => exact absurd rfl hne | cons a b => simp at hm; omega
 rw [hm] at h
 have HM := Lib.hid hm; clear hm
 have HNE := Lib.hid hne; clear hne
 have H := Lib.hid h; clear h
 go_enter Tryz.func66, Tryz.ntmps66
 go_wp2_with fail
 refine (HC.out _).mono ?_
 rintro e w1 ⟨v, rfl, hS, hb⟩
 obtain ⟨g, cap, rfl, hcap, hg1, hg2⟩ := hS.some HNE.out
 by_cases h1 : l.length ≤ 400
 ·by_cases h2 : m ≤ 9
  ·have hx := hS.cell (m - 1) (by rw [HM.out]; omega)
   have hlast : (L.getD (m - 1) [] == []) = false := by
    rw [beq_eq_false_iff_ne]; intro e; apply H.out
    exact ⟨h1, h2, by unfold lastL; rw [HM.out]; exact e⟩
   generalize L.getD (m - 1) [] = y at *
   rw [HM.out] at hcap ⊢
   have e1 : ((m : Int) - 1).toNat = m - 1 := by omega
   have hyn : (y != []) = true := by rw [bne, hlast]; rfl
   clear hS
   go_wp2_with fail
   go_ret2
   exact RetX.no rfl hb
  ·rw [HM.out] at hcap ⊢
   clear hS
   go_wp2_with fail
   go_ret2
   exact RetX.no rfl hb
 ·rw [HM.out] at hcap ⊢
  clear hS
  go_wp2_with fail
  go_ret2
  exact RetX.no rfl hb
set_option maxHeartbeats 4000000 in
theorem k_l3Of_in (l : Bs) (w : World) (h1 : l.length ≤ 400) (h2 : (cutL 10 l).length ≤ 9) (h3 : lastL (cutL 10 l) = []) :
  Calls Tryz.prog 66 #[.string (S l)] w (RetX w (ofS l)) := by
 have hne := cutL_ne 10 l
 have hgl := cutL_get 10 l
 have HC := Lib.hid (fun w => k_l3Cut l 10 w (by omega) (by omega) (by omega))
 have HG := Lib.hid (fun X (hr : readTypes ((cutL 10 l).take ((cutL 10 l).length - 1)) [] = some X) => And.intro (ofS_on ⟨h1, h2, h3⟩ hr) (readTypes_good (P := []) (by simp) hr))
 have HB := Lib.hid (fun (hr : readTypes ((cutL 10 l).take ((cutL 10 l).length - 1)) [] = none) => ofS_bad ⟨h1, h2, h3⟩ hr)
 obtain ⟨o, ho⟩ : ∃ o, ofS l = o := ⟨_, rfl⟩
 rw [ho] at HG HB ⊢
 clear ho
 generalize cutL 10 l = L at *
 obtain ⟨m, hm⟩ : ∃ m, L.length = m := ⟨_, rfl⟩
 have hm1 : 1 ≤ m := by cases L with | nil => exact absurd rfl hne | cons a b => simp at hm; omega
 have hlast : (L.getD (m - 1) [] == []) = true := by unfold lastL at h3; rw [hm] at h3; rw [h3]; rfl
 rw [hm] at HG HB h2
 have HM := Lib.hid hm; clear hm
 have HNE := Lib.hid hne; clear hne h3
 have HGL := Lib.hid hgl; clear hgl
 obtain ⟨R, hR⟩ : ∃ R, L.take (m - 1) = R := ⟨_, rfl⟩
 have hRl : R.length = m - 1 := by rw [← hR, List.length_take, HM.out]; omega
 have hRk : ∀ k (hk : k < R.length), R[k] = L.getD k [] := by
  intro k hk
  have hkL : k < L.length := by rw [HM.out]; omega
  subst hR
  rw [List.getElem_take, List.getD_eq_getElem?_getD, List.getElem?_eq_getElem hkL]; rfl
 rw [hR] at HG HB
 clear hR
 have HRL := Lib.hid hRl; clear hRl
 have HRK := Lib.hid hRk; clear hRk
 go_enter Tryz.func66, Tryz.ntmps66
 go_wp2_with fail
 refine (HC.out _).mono ?_
 rintro e w1 ⟨v, rfl, hS, hb⟩
 obtain ⟨g, cap, rfl, hcap, hg1, hg2⟩ := hS.some HNE.out
 rw [HM.out] at hcap ⊢
 have hx := hS.cell (m - 1) (by rw [HM.out]; omega)
 rw [show L.getD (m - 1) [] = [] by simpa using hlast] at hx
 have e1 : ((m : Int) - 1).toNat = m - 1 := by omega
 rw [HM.out] at hS
 have HS := Lib.hid hS; clear hS hlast HC
 go_wp2_with fail
 go_loopw [5, 6] (fun x i wr => ∃ (k : Nat) (ps : List (Ty × Value)), k + 1 ≤ m ∧ ps.length = k ∧ i = .int .i64 k ∧ Hid (Tys wr w.heap.size x ps) ∧ Hid (Strs wr w.heap.size (.slice (some ⟨g, 0, none⟩) m cap) L) ∧ Hid (readTypes R [] = readTypes (R.drop k) (ps.map (·.1))) ∧ Below w.heap.size w wr ∧ g < wr.heap.size) (fun _ i _ => m - (intOf i).toNat)
 case atStart =>
  refine ⟨0, [], by omega, rfl, rfl, ?_, HS.out.below (by (repeat (first | with_reducible exact Below.refl _ _ | with_reducible apply below_drew | with_reducible apply below_draws | with_reducible apply below_alloc | with_reducible apply below_set | (with_reducible refine below_trans ?_ (by assumption)) | (with_reducible refine Below.trans ?_ (by assumption)) | exact Nat.le_refl _ | omega | (simp <;> omega)))), (rfl : readTypes R [] = readTypes R []), by (repeat (first | with_reducible exact Below.refl _ _ | with_reducible apply below_drew | with_reducible apply below_draws | with_reducible apply below_alloc | with_reducible apply below_set | (with_reducible refine below_trans ?_ (by assumption)) | (with_reducible refine Below.trans ?_ (by assumption)) | exact Nat.le_refl _ | omega | (simp <;> omega))), by simp; omega⟩
  exact ⟨World.ownsRow_lit w1 #[] 0 (by have := hb.size; omega) (by unfold maxLen; omega) rfl, by simp⟩
 case round =>
  obtain ⟨k, ps, hk, hpl, rfl, hT, hS, hR, hbw, hgw⟩ := hrel
  have HPL := Lib.hid hpl; clear hpl
  obtain ⟨ax, cx, rfl, -, -⟩ := hT.out.form
  rw [HPL.out]
  by_cases hkm : k + 1 < m
  ·have x0 := hS.out.cell k (by rw [HM.out]; omega)
   have hpl := HGL.out k
   have hRk := HRK.out k (by rw [HRL.out]; omega)
   obtain ⟨p, hp⟩ : ∃ p, L.getD k [] = p := ⟨_, rfl⟩
   rw [hp] at x0 hpl hRk
   have HRP := Lib.hid hRk; clear hRk hp
   go_wp2_with fail
   refine (k_l3ReadType p _ (by omega)).mono ?_
   rintro e w2 ⟨t, fv, rfl, ht, hft, hb2⟩
   obtain ⟨af, cf, rfl, -, -⟩ := hft.form
   have HFT := Lib.hid (hft.mono (show w.heap.size ≤ _ by have := hbw.size; omega)); clear hft
   have hT2 := Lib.hid (hT.out.below hb2)
   rw [HPL.out] at hT2
   have hS2 := Lib.hid (hS.out.below hb2)
   have hbw2 : Below w.heap.size w w2 := by (repeat (first | with_reducible exact Below.refl _ _ | with_reducible apply below_drew | with_reducible apply below_draws | with_reducible apply below_alloc | with_reducible apply below_set | (with_reducible refine below_trans ?_ (by assumption)) | (with_reducible refine Below.trans ?_ (by assumption)) | exact Nat.le_refl _ | omega | (simp <;> omega)))
   have hgw2 : g < w2.heap.size := by have := hb2.size; omega
   clear hT hS hb2 x0
   unfold tv
   cases hy : readType p with
   | none =>
    have HO := Lib.hid (HB.out (hR.out.trans (readTypes_no (by rw [HRL.out]; omega) (by rw [HRP.out]; exact hy))))
    clear hy ht
    go_wp2_with fail
    go_ret2
    exact RetX.no HO.out (by (repeat (first | with_reducible exact Below.refl _ _ | with_reducible apply below_drew | with_reducible apply below_draws | with_reducible apply below_alloc | with_reducible apply below_set | (with_reducible refine below_trans ?_ (by assumption)) | (with_reducible refine Below.trans ?_ (by assumption)) | exact Nat.le_refl _ | omega | (simp <;> omega))))
   | some t' =>
    obtain rfl : t = t' := ht _ hy
    have HR2 := Lib.hid (hR.out.trans (readTypes_in (by rw [HRL.out]; omega) (by rw [HRP.out]; exact hy)))
    clear hy ht
    have hbk := Blk.new (w2.alloc (.cells #[.int .u8 t.sort, .string (S t.name), .slice af t.fields.length cf] 61)) 61 #[.int .u8 t.sort, .string (S t.name), .slice af t.fields.length cf]
    rw [World.size_alloc] at hbk
    have HBK := Lib.hid hbk; clear hbk
    have hpl9 : ps.length ≤ 3000000 := by rw [HPL.out]; omega
    have hbz : w.heap.size ≤ w2.heap.size + 1 + 1 := by have := hbw2.size; omega
    go_wp2_with (first | (at_builtin; refine app_ty rfl _ _ rfl w.heap.size _ ps rfl ((hT2.out.below (below_alloc (Below.refl _ _) _)).below (below_alloc (Below.refl _ _) _)) _ t _ ((HFT.out.below (below_alloc (Below.refl _ _) _)).below (below_alloc (Below.refl _ _) _)) rfl HBK.out hpl9 (by simp; exact hbz) ?_))
    intro v' w' hT' hb' hg'
    have ET := Lib.hid hT'; clear hT'
    have DT := (hT2.out.below (below_alloc (Below.refl _ _) (.cells #[.int .u8 t.sort, .string (S t.name), .slice af t.fields.length cf] 61))).below (below_alloc (Below.refl _ _) (.cells #[.int .u8 t.sort, .string (S t.name), .slice af t.fields.length cf] 61))
    have DS := (hS2.out.below (below_alloc (Below.refl _ _) (.cells #[.int .u8 t.sort, .string (S t.name), .slice af t.fields.length cf] 61))).below (below_alloc (Below.refl _ _) (.cells #[.int .u8 t.sort, .string (S t.name), .slice af t.fields.length cf] 61))
    have ES := Lib.hid (show Strs w' w.heap.size (.slice (some ⟨g, 0, none⟩) m cap) L from World.ownsRow.kept DS hg' (own_own DS DT.1 (by decide)))
    have hbe : Below w.heap.size w w' := (below_alloc (below_alloc hbw2 _) _).trans hb'
    have hge : g < w'.heap.size := by have := hg'.size; simp at this; omega
    clear DT DS hg' hb'
    obtain ⟨a', c', rfl, -, -⟩ := ET.out.form
    go_wp2_with fail
    go_roundw
    case rel => exact ⟨k + 1, ps ++ [(t, _)], by omega, by rw [List.length_append, HPL.out]; rfl, by go_num, ET.out, ES.out, (by have := HR2.out; rw [List.map_append]; exact this), hbe, hge⟩
    case measure => simp [intOf]; omega
  ·have hkm1 : m = k + 1 := by omega
   have HX := HG.out _ (hR.out.trans (readTypes_end (by rw [HRL.out]; omega)))
   have HO := Lib.hid HX.1
   have HGX := Lib.hid HX.2; clear HX hkm1
   have HV := Lib.hid (k_valid _ ps w.heap.size wr hT.out (by rw [HPL.out]; omega) hbw.size HGX.out)
   rw [HPL.out] at HV
   have hT9 := Lib.hid hT.out
   rw [HPL.out] at hT9
   obtain ⟨b, hbb⟩ : ∃ b, validB (ps.map (·.1)) = b := ⟨_, rfl⟩
   rw [hbb] at HV
   have HBB := Lib.hid hbb; clear hbb
   clear hT
   go_wp2_with fail
   refine HV.out.mono ?_
   rintro e w3 ⟨rfl, hb3⟩
   go_wp2_with fail
   go_ret2
   rw [HO.out]
   exact RetX.of _ ps HBB.out.symm (hT9.out.below hb3) rfl (by rw [HPL.out]; omega) (by (repeat (first | with_reducible exact Below.refl _ _ | with_reducible apply below_drew | with_reducible apply below_draws | with_reducible apply below_alloc | with_reducible apply below_set | (with_reducible refine below_trans ?_ (by assumption)) | (with_reducible refine Below.trans ?_ (by assumption)) | exact Nat.le_refl _ | omega | (simp <;> omega))))
theorem k_l3Of (l : Bs) (w : World) (hs : l.length ≤ 2000000) : Calls Tryz.prog 66 #[.string (S l)] w (RetX w (ofS l)) := by
 by_cases h : l.length ≤ 400 ∧ (cutL 10 l).length ≤ 9 ∧ lastL (cutL 10 l) = []
 ·exact k_l3Of_in l w h.1 h.2.1 h.2.2
 ·exact k_l3Of_long l w hs h
theorem k_SchemaOk (l : Bs) (w : World) (hs : l.length ≤ 2000000) :
  Calls Tryz.prog 64 #[.string (S l)] w fun e w' => e = .returned (.bool (ofS l).isSome) ∧ Below w.heap.size w w' := by
 have HC := Lib.hid (fun w => k_l3Of l w hs)
 generalize ofS l = o at *
 go_enter Tryz.func64, Tryz.ntmps64
 go_wp2_with fail
 refine (HC.out _).mono ?_
 rintro e w1 ⟨v, ps, rfl, hT, hX, hl, hb⟩
 go_wp2_with fail
 go_ret
 exact ⟨rfl, hb⟩
def findS (l n : Bs) : Option Ty := (ofS l).bind fun X => find X n
def RetXT (w : World) (l n : Bs) (e : Ending) (w' : World) : Prop := ∃ (v : Value) (ps : List (Ty × Value)) (t : Ty) (u : Value), e = .returned (.tuple #[v, tv t u, .bool (findS l n).isSome]) ∧ Tys w' w.heap.size v ps ∧ Flds w' w.heap.size u t.fields ∧
 (∀ x, findS l n = some x → t = x ∧ ofS l = some (ps.map (·.1))) ∧ ps.length ≤ 8 ∧ Below w.heap.size w w'
theorem k_l3Find (l n : Bs) (w : World) (hs : l.length ≤ 2000000) :
  Calls Tryz.prog 36 #[.string (S l), .string (S n)] w (RetXT w l n) := by
 have HC := Lib.hid (fun w => k_l3Of l w hs)
 go_enter Tryz.func36, Tryz.ntmps36
 go_wp2_with fail
 refine (HC.out _).mono ?_
 rintro e w1 ⟨v, ps, rfl, hT, hX, hl, hb⟩
 have hz := hb.size
 simp at hz
 obtain ⟨a, c, rfl, -, -⟩ := hT.form
 have K := (Blk.new w 61 #[.int .u8 0, .string { data := #[] }, .slice none 0 0]).keep hb
 have HNB := Lib.hid (show (Value.slice a ps.length c).ownBlock ≠ some w.heap.size from fun e => by have := hT.1.lt _ e; simp at this; omega)
 have HT := Lib.hid (hT.mono (show w.heap.size ≤ _ by simp)); clear hT
 cases ho : ofS l with
 | none =>
  have k0 := K.cell 0
  have k1 := K.cell 1
  have k2 := K.cell 2
  have f0 := K.frozen 0
  have f1 := K.frozen 1
  have f2 := K.frozen 2
  simp at k0 k1 k2
  have HK := Lib.hid K; clear K
  have HF := Lib.hid (show findS l n = none by unfold findS; rw [ho]; rfl)
  clear ho hX
  have hlt : w.heap.size < w1.heap.size := by omega
  go_wp2_with fail
  refine bodyPost_ret (v := .tuple #[.slice none 0 0, tv ⟨0, [], []⟩ (.slice none 0 0), .bool false]) ?_ rfl ?_
  ·simp [results, Tryz.results36, go_sem, tv, k0, k1, k2, f0, f1, f2, hlt]; rfl
  ·exact ⟨_, [], _, _, by rw [HF.out]; rfl, Tys.nil_ _ _, Flds.nil_ _ _, (by rw [HF.out]; intro x hx; cases hx), by simp, by (repeat (first | with_reducible exact Below.refl _ _ | with_reducible apply below_drew | with_reducible apply below_draws | with_reducible apply below_alloc | with_reducible apply below_set | (with_reducible refine below_trans ?_ (by assumption)) | (with_reducible refine Below.trans ?_ (by assumption)) | exact Nat.le_refl _ | omega | (simp <;> omega)))⟩
 | some X =>
  obtain rfl := hX X ho
  have HO := Lib.hid ho; clear ho hX
  have HK := Lib.hid K; clear K
  have hbw : Below w.heap.size w w1 := by (repeat (first | with_reducible exact Below.refl _ _ | with_reducible apply below_drew | with_reducible apply below_draws | with_reducible apply below_alloc | with_reducible apply below_set | (with_reducible refine below_trans ?_ (by assumption)) | (with_reducible refine Below.trans ?_ (by assumption)) | exact Nat.le_refl _ | omega | (simp <;> omega)))
  have HCF := Lib.hid (k_find _ ps w.heap.size n w1 HT.out (by omega) hbw.size)
  have HF := Lib.hid (show findS l n = find (ps.map (·.1)) n by unfold findS; rw [HO.out]; rfl)
  obtain ⟨y, hy⟩ : ∃ y, find (ps.map (·.1)) n = y := ⟨_, rfl⟩
  rw [hy] at HCF HF
  clear hy hb
  go_wp2_with fail
  refine HCF.out.mono ?_
  rintro e w2 ⟨t, u, rfl, ht, hft, hb2⟩
  obtain ⟨au, cu, rfl, -, -⟩ := hft.form
  have K2 := HK.out.keep hb2
  have k0 := K2.cell 0
  have k1 := K2.cell 1
  have k2 := K2.cell 2
  have f0 := K2.frozen 0
  have f1 := K2.frozen 1
  have f2 := K2.frozen 2
  simp at k0 k1 k2
  have HK2 := Lib.hid K2; clear K2
  have HFT := Lib.hid hft; clear hft
  have HTY := Lib.hid ht; clear ht
  have hT2 := Lib.hid (HT.out.below hb2)
  have hb3 : Below w.heap.size w w2 := below_trans hbw hb2
  have hlt : w.heap.size < w2.heap.size := by have := hb2.size; omega
  clear hb2
  unfold tv
  go_wp2_with fail
  go_region
  all_goals
   go_wp2_with fail
   refine bodyPost_ret (v := .tuple #[.slice a ps.length c, tv t (.slice au t.fields.length cu), .bool y.isSome]) ?_ rfl ?_
   ·simp [results, Tryz.results36, go_sem, tv, k0, k1, k2, f0, f1, f2, hlt]
   ·refine ⟨_, ps, t, _, by rw [HF.out], ?_, ?_, ?_, hl, below_drew (below_alloc (below_set (below_set (below_set hb3 (Nat.le_refl _) _) (Nat.le_refl _) _) (Nat.le_refl _) _) _)⟩
    ·exact (hT2.out.far HNB.out HK2.out (by decide) (grown_set (grown_set (grown_set (grown_self _ _))))).below (below_drew (below_alloc (Below.refl _ _) _))
    ·exact (HFT.out.grown HK2.out (by decide) (grown_set (grown_set (grown_set (grown_self _ _))))).below (below_drew (below_alloc (Below.refl _ _) _))
    ·rw [HF.out]; exact fun x hx => ⟨HTY.out x hx, HO.out⟩
theorem findS_good {l n : Bs} {t : Ty} (h : findS l n = some t) : GoodT t ∧ ∃ X, ofS l = some X ∧ t ∈ X := by
 unfold findS at h
 cases ho : ofS l with
 | none => rw [ho] at h; cases h
 | some X =>
  rw [ho] at h
  have hm := (find_mem (show find X n = some t from h)).1
  refine ⟨?_, X, rfl, hm⟩
  exact (ofS_some ho).1 t hm
def fieldT (t : Ty) (tag : Int) : Option Fl := t.fields.find? fun f => f.tag == tag
theorem k_field (t : Ty) (a : Option Addr) (c : Nat) (B : Nat) (tag : Int) (w : World) (h : Flds w B (.slice a t.fields.length c) t.fields) (hl : t.fields.length ≤ 1000000) :
  Calls Tryz.prog 37 #[tv t (.slice a t.fields.length c), .int .i64 tag] w (RetF w (fieldT t tag)) := by
 obtain ⟨o, ho⟩ : ∃ o, fieldT t tag = o := ⟨_, rfl⟩
 rw [ho]
 have HO := Lib.hid ho; clear ho
 have HF := Lib.hid h; clear h
 unfold tv
 go_enter Tryz.func37, Tryz.ntmps37
 go_wp2_with fail
 go_loop [6] (fun i => ∃ k : Nat, k ≤ t.fields.length ∧ i = .int .i64 k ∧ Hid (o = (t.fields.drop k).find? fun f => f.tag == tag)) (fun i => t.fields.length - (intOf i).toNat)
 case atStart => exact ⟨0, by omega, rfl, HO.out.symm⟩
 case round =>
  obtain ⟨k, hk, rfl, hh⟩ := hrel
  by_cases hkm : k < t.fields.length
  ·obtain ⟨g, rfl, hg1, hg2⟩ : ∃ g, a = some ⟨g, 0, none⟩ ∧ B ≤ g ∧ g < w.heap.size := by
    obtain ⟨ao, c', hv, -, hh⟩ := HF.out.form
    injection hv with hv
    rcases hh with ⟨_, h0⟩ | ⟨g, hh, h1, h2⟩
    ·rw [h0] at hkm; simp at hkm
    ·exact ⟨g, hv.trans hh, h1, h2⟩
   obtain ⟨x0, x1, x2, x3⟩ := HF.out.cells4 k hkm
   have HH := Lib.hid (hh.out.trans (by rw [List.drop_eq_getElem_cons hkm, List.find?_cons]; cases (t.fields[k].tag == tag) <;> rfl : _ = if (t.fields[k].tag == tag) = true then some t.fields[k] else (t.fields.drop (k + 1)).find? fun f => f.tag == tag))
   obtain ⟨f, hf⟩ : ∃ f, t.fields[k] = f := ⟨_, rfl⟩
   rw [hf] at x0 x1 x2 x3 HH
   clear hf
   cases ht : (f.tag == tag) with
   | true =>
    have HR := Lib.hid (HH.out.trans (if_pos ht))
    clear HH
    go_wp2_with fail
    refine bodyPost_ret (v := .tuple #[fv f, .bool true]) ?_ rfl ?_
    ·simp [results, Tryz.results37, go_sem, fv]
    ·exact RetF.yes f HR.out (by (repeat (first | with_reducible exact Below.refl _ _ | with_reducible apply below_drew | with_reducible apply below_draws | with_reducible apply below_alloc | with_reducible apply below_set | (with_reducible refine below_trans ?_ (by assumption)) | (with_reducible refine Below.trans ?_ (by assumption)) | exact Nat.le_refl _ | omega | (simp <;> omega))))
   | false =>
    have HR := Lib.hid (HH.out.trans (if_neg (by rw [ht]; decide)))
    clear HH
    go_wp2_with fail
    go_round
    case rel => exact ⟨k + 1, by omega, by go_num, HR.out⟩
    case measure => simp [intOf]; omega
  ·have HR := Lib.hid (hh.out.trans (by rw [List.drop_of_length_le (by omega)]; rfl : _ = none))
   go_wp2_with fail
   refine bodyPost_ret (v := .tuple #[fv ⟨0, [], [], []⟩, .bool false]) ?_ rfl ?_
   ·simp [results, Tryz.results37, go_sem, fv]; rfl
   ·exact RetF.no _ HR.out (by (repeat (first | with_reducible exact Below.refl _ _ | with_reducible apply below_drew | with_reducible apply below_draws | with_reducible apply below_alloc | with_reducible apply below_set | (with_reducible refine below_trans ?_ (by assumption)) | (with_reducible refine Below.trans ?_ (by assumption)) | exact Nat.le_refl _ | omega | (simp <;> omega))))
end Go.Proofs.YtcjooeklehggaaaGreatDoor
