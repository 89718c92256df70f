/- Lemmas of this seat. -/
import Derived.Test.YtcjooeklehggaaaGreatDoorZAs
import Derived.Test.YtcjooeklehggaaaGreatDoorZFs
set_option linter.unusedVariables false
set_option linter.unusedSimpArgs false
set_option maxRecDepth 100000
namespace Go.Proofs.YtcjooeklehggaaaGreatDoor
open Go.ChangeShapes Go.WideShapes Go.ChangeAt Go.RowKit M
def coreB (X : List Ty) : Option Bs → Bool | none => true | some n => (find X n).isSome
theorem kindS_yes {l k : Bs} {X : List Ty} (h : ofS l = some X) (hk : kOk k = true) (hc : coreOk X k = true) : kindS l k = some X := by unfold kindS; rw [h]; exact if_pos ⟨hk, hc⟩
theorem kindS_no {l k : Bs} {X : List Ty} (h : ofS l = some X) (hk : ¬ (kOk k = true ∧ coreOk X k = true)) : kindS l k = none := by unfold kindS; rw [h]; exact if_neg hk
theorem k_l3Kind (l k : Bs) (w : World) (hs : l.length ≤ 2000000) (hk : k.length ≤ 2000000) :
  Calls Tryz.prog 43 #[.string (S l), .string (S k)] w (RetX w (kindS l k)) := by
 have HC := Lib.hid (fun w => k_l3Of l w hs)
 go_enter Tryz.func43, Tryz.ntmps43
 go_wp2_with fail
 refine (HC.out _).mono ?_
 rintro e w1 ⟨v, ps, rfl, hT, hX, hl, hb⟩
 obtain ⟨a, c, rfl, -, -⟩ := hT.form
 have HT := Lib.hid hT; clear hT
 cases ho : ofS l with
 | none =>
  have HF := Lib.hid (show kindS l k = none by unfold kindS; rw [ho])
  clear ho hX
  go_wp2_with fail
  go_ret2
  exact RetX.no HF.out hb
 | some X =>
  obtain rfl := hX X ho
  have HO := Lib.hid ho; clear ho hX
  cases hko : kOk k with
  | false =>
   have HF := Lib.hid (kindS_no HO.out (k := k) (by rw [hko]; simp))
   have HC2 := Lib.hid (fun w => k_KindOk k w (by omega))
   rw [show (kindR k).isSome = false from hko] at HC2
   clear hko
   go_wp2_with (go_at_call 71; refine (HC2.out _).mono ?_; rintro e w' ⟨rfl, rfl⟩)
   go_ret2
   exact RetX.no HF.out hb
  | true =>
   have HC2 := Lib.hid (fun w => k_KindOk k w (by omega))
   rw [show (kindR k).isSome = true from hko] at HC2
   obtain ⟨d, hd1, hd2, hd3, hd4, hd5, hd6⟩ := core_ways hko
   have HKO := Lib.hid hko; clear hko
   have HD3 := Lib.hid hd3; clear hd3
   have HD6 := Lib.hid hd6; clear hd6
   have HD4 := Lib.hid hd4; clear hd4
   have HD5 := Lib.hid hd5; clear hd5
   obtain ⟨o, hoo⟩ : ∃ o, coreName k = o := ⟨_, rfl⟩
   have HRF := Lib.hid (fun w => k_coreRef k d HD6.out hd1 w)
   rw [hoo] at HRF
   have HO2 := Lib.hid (show coreOk (ps.map (·.1)) k = coreB (ps.map (·.1)) o by rw [← hoo]; rfl)
   clear hoo HD6
   have HCF := Lib.hid (k_find _ ps w.heap.size (o.getD []) w1 HT.out (by omega) hb.size)
   go_wp2_with (first | (go_at_call 71; refine (HC2.out _).mono ?_; rintro e w' ⟨rfl, rfl⟩) | (go_at_call 73; refine (k_l2Core _ d _ hd1 hd2 HD3.out HD4.out HD5.out).mono ?_; rintro e w' ⟨rfl, rfl⟩) | (go_at_call 72; refine (HRF.out _).mono ?_; rintro e w' ⟨rfl, rfl⟩))
   refine HCF.out.mono ?_
   rintro e w2 ⟨u, fv, rfl, -, hfu, hb2⟩
   obtain ⟨au, cu, rfl, -, -⟩ := hfu.form
   clear hfu
   unfold tv
   have HT2 := Lib.hid (HT.out.below hb2)
   have hb3 : Below w.heap.size w w2 := below_trans hb hb2
   clear hb2 hb HCF
   cases o with
   | none =>
    have HF := Lib.hid (kindS_yes HO.out HKO.out HO2.out)
    go_wp2_with fail
    go_ret2
    exact ⟨_, ps, by rw [HF.out]; rfl, HT2.out.below (below_alloc (Below.refl _ _) _), (by rw [HF.out]; intro X hX; injection hX), hl, below_alloc hb3 _⟩
   | some n =>
    simp only [Option.getD_some]
    cases hf : (find (ps.map (·.1)) n) with
    | none =>
     have HF := Lib.hid (kindS_no HO.out (k := k) (by rw [HO2.out]; show ¬ (_ ∧ (find (ps.map (·.1)) n).isSome = true); rw [hf]; simp))
     clear hf
     go_wp2_with fail
     go_ret2
     exact ⟨_, ps, by rw [HF.out]; rfl, HT2.out.below (below_alloc (Below.refl _ _) _), (by rw [HF.out]; intro X hX; cases hX), hl, below_alloc hb3 _⟩
    | some y =>
     have HF := Lib.hid (kindS_yes HO.out HKO.out (by rw [HO2.out]; show (find (ps.map (·.1)) n).isSome = true; rw [hf]; rfl))
     clear hf
     go_wp2_with fail
     go_ret2
     exact ⟨_, ps, by rw [HF.out]; rfl, HT2.out.below (below_alloc (Below.refl _ _) _), (by rw [HF.out]; intro X hX; injection hX), hl, below_alloc hb3 _⟩
theorem standsF_91 {X : List Ty} {n : Nat} {k s : Bs} (h : standsF X (n + 1) k = some s) (hk : at_ k 0 = 91) : s = [91, 93] := by rw [standsF, if_pos hk] at h; injection h with h; exact h.symm
theorem standsF_63 {X : List Ty} {n : Nat} {k s : Bs} (h : standsF X (n + 1) k = some s) (hk : at_ k 0 = 63) : s = [45] := by rw [standsF, if_neg (by omega), if_pos hk] at h; injection h with h; exact h.symm
theorem standsF_plain {X : List Ty} {n : Nat} {k s : Bs} (h : standsF X (n + 1) k = some s) (h1 : at_ k 0 ≠ 91) (h2 : at_ k 0 ≠ 63) (hr : refT X k = none) : s = plainV k := by rw [standsF, if_neg h1, if_neg h2, hr] at h; injection h with h; exact h.symm
theorem standsF_R {X : List Ty} {n : Nat} {k s : Bs} {t : Ty} (h : standsF X (n + 1) k = some s) (h1 : at_ k 0 ≠ 91) (h2 : at_ k 0 ≠ 63) (hr : refT X k = some t) (hs : t.sort = 82) : s = [123, 125] := by
 rw [standsF, if_neg h1, if_neg h2, hr] at h; simp only at h; rw [if_pos hs] at h; injection h with h; exact h.symm
theorem standsF_E {X : List Ty} {n : Nat} {k s : Bs} {t : Ty} (h : standsF X (n + 1) k = some s) (h1 : at_ k 0 ≠ 91) (h2 : at_ k 0 ≠ 63) (hr : refT X k = some t) (hs : t.sort = 69) : s = 35 :: dec (tag0 t) := by
 rw [standsF, if_neg h1, if_neg h2, hr] at h; simp only at h; rw [if_neg (by omega), if_pos hs] at h; injection h with h; exact h.symm
theorem standsF_U {X : List Ty} {n : Nat} {k s : Bs} {t : Ty} (h : standsF X (n + 1) k = some s) (h1 : at_ k 0 ≠ 91) (h2 : at_ k 0 ≠ 63) (hr : refT X k = some t) (h82 : t.sort ≠ 82) (h69 : t.sort ≠ 69) : ∃ q, standsF X n (kind0 t) = some q ∧ s = 60 :: (dec (tag0 t) ++ 61 :: (q ++ [62])) := by
 rw [standsF, if_neg h1, if_neg h2, hr] at h; simp only at h; rw [if_neg h82, if_neg h69] at h
 cases hq : standsF X n (kind0 t) with
 | none => rw [hq] at h; cases h
 | some q => rw [hq] at h; injection h with h; exact ⟨q, rfl, h.symm⟩
set_option maxHeartbeats 8000000 in
theorem k_stands (v : Value) (ps : List (Ty × Value)) (B : Nat) (hl : ps.length ≤ 1000000) (hg : ∀ t ∈ ps.map (·.1), GoodT t) (n : Nat) (hn : n ≤ 100) : ∀ (k s : Bs) (w : World), standsF (ps.map (·.1)) n k = some s → kOk k = true → Tys w B v ps → B ≤ w.heap.size →
  Calls Tryz.prog 44 #[v, .string (S k)] w fun e w' => e = .returned (.string (S s)) ∧ Below w.heap.size w w' := by
 induction n with
 | zero => intro k s w h; cases h
 | succ n ih =>
  intro k s w h hk hT hB
  have hkl := kOk_len hk
  obtain ⟨hk12, hk0⟩ := hkl
  have hk12' : k.length ≤ 2000000 := by omega
  by_cases h91 : at_ k 0 = 91
  ·obtain rfl := standsF_91 h h91
   clear ih h hT hk
   go_enter Tryz.func44, Tryz.ntmps44
   go_wp2_with fail
   go_ret
   exact ⟨rfl, by (repeat (first | with_reducible exact Below.refl _ _ | with_reducible apply below_drew | with_reducible apply below_draws | with_reducible apply below_alloc | with_reducible apply below_set | (with_reducible refine below_trans ?_ (by assumption)) | (with_reducible refine Below.trans ?_ (by assumption)) | exact Nat.le_refl _ | omega | (simp <;> omega)))⟩
  ·have b91 : (at_ k 0 == 91) = false := by simp [h91]
   by_cases h63 : at_ k 0 = 63
   ·obtain rfl := standsF_63 h h63
    clear ih h hT hk h91
    go_enter Tryz.func44, Tryz.ntmps44
    go_wp2_with fail
    go_ret
    exact ⟨rfl, by (repeat (first | with_reducible exact Below.refl _ _ | with_reducible apply below_drew | with_reducible apply below_draws | with_reducible apply below_alloc | with_reducible apply below_set | (with_reducible refine below_trans ?_ (by assumption)) | (with_reducible refine Below.trans ?_ (by assumption)) | exact Nat.le_refl _ | omega | (simp <;> omega)))⟩
   ·have b63 : (at_ k 0 == 63) = false := by simp [h63]
    have HR := Lib.hid (k_ref v ps B k w hT hl hB hk)
    have HT := Lib.hid hT; clear hT
    have IH := Lib.hid (ih (by omega)); clear ih
    have HG := Lib.hid hg
    cases hr : refT (ps.map (·.1)) k with
    | none =>
     have HS := Lib.hid (standsF_plain h h91 h63 hr)
     rw [hr] at HR
     clear h hr hk IH h91 h63
     have HP := Lib.hid (fun w => k_l3Plain k w)
     generalize plainV k = pk at *
     go_enter Tryz.func44, Tryz.ntmps44
     go_wp2_with fail
     refine HR.out.mono ?_
     rintro e w1 ⟨t, u, rfl, -, hF, hb⟩
     obtain ⟨a, c, rfl, -, -⟩ := hF.form
     clear hF
     unfold tv
     go_wp2_with (go_at_call 75; refine (HP.out _).mono ?_; rintro e w' ⟨rfl, rfl⟩)
     go_ret
     exact ⟨ret_s (by rw [HS.out]), by (repeat (first | with_reducible exact Below.refl _ _ | with_reducible apply below_drew | with_reducible apply below_draws | with_reducible apply below_alloc | with_reducible apply below_set | (with_reducible refine below_trans ?_ (by assumption)) | (with_reducible refine Below.trans ?_ (by assumption)) | exact Nat.le_refl _ | omega | (simp <;> omega)))⟩
    | some t =>
     have hgt := hg t (refT_mem hr)
     rw [hr] at HR
     by_cases h82 : t.sort = 82
     ·have HS := Lib.hid (standsF_R h h91 h63 hr h82)
      clear h hr hk IH h91 h63 hgt
      have b82 : (t.sort == 82) = true := by simp [h82]
      clear h82
      go_enter Tryz.func44, Tryz.ntmps44
      go_wp2_with fail
      refine HR.out.mono ?_
      rintro e w1 ⟨t', u, rfl, ht, hF, hb⟩
      obtain rfl : t' = t := ht _ rfl
      obtain ⟨a, c, rfl, -, -⟩ := hF.form
      clear hF
      unfold tv
      go_wp2_with fail
      go_ret
      exact ⟨ret_s (by rw [HS.out]; rfl), by (repeat (first | with_reducible exact Below.refl _ _ | with_reducible apply below_drew | with_reducible apply below_draws | with_reducible apply below_alloc | with_reducible apply below_set | (with_reducible refine below_trans ?_ (by assumption)) | (with_reducible refine Below.trans ?_ (by assumption)) | exact Nat.le_refl _ | omega | (simp <;> omega)))⟩
     ·have b82 : (t.sort == 82) = false := by simp [h82]
      have hne : t.fields ≠ [] := hgt.2.2.2.1 h82
      have hpos : 0 < t.fields.length := List.length_pos_iff.2 hne
      have htb := tag0_bd hgt h82
      have ht0 : t.fields[0].tag = tag0 t := by unfold tag0; rw [List.getD_eq_getElem?_getD, List.getElem?_eq_getElem hpos]; rfl
      have hk0' : t.fields[0].kind = kind0 t := by unfold kind0; rw [List.getD_eq_getElem?_getD, List.getElem?_eq_getElem hpos]; rfl
      have HTK := Lib.hid (And.intro ht0 hk0'); clear ht0 hk0'
      have HD := Lib.hid (fun w => k_l6Dec 1000 (tag0 t) w (by omega) (by omega) (by omega))
      have hdl := dec_len (tag0 t)
      by_cases h69 : t.sort = 69
      ·have HS := Lib.hid (standsF_E h h91 h63 hr h69)
       have b69 : (t.sort == 69) = true := by simp [h69]
       clear h hr hk IH h91 h63 h82 h69 hgt
       obtain ⟨tg, htg⟩ : ∃ tg, tag0 t = tg := ⟨_, rfl⟩
       rw [htg] at HD HS HTK htb hdl
       clear htg
       generalize dec tg = D at *
       have hcat := cat_run [35] D (by simp; omega)
       go_enter Tryz.func44, Tryz.ntmps44
       go_wp2_with fail
       refine HR.out.mono ?_
       rintro e w1 ⟨t', u, rfl, ht, hF, hb⟩
       obtain rfl : t' = t := ht _ rfl
       obtain ⟨a, c, rfl, -, hfo⟩ := hF.form
       obtain ⟨g, rfl, -, hgw⟩ : ∃ g, a = some ⟨g, 0, none⟩ ∧ B ≤ g ∧ g < w1.heap.size := by
        rcases hfo with ⟨_, h0⟩ | h0
        ·exact absurd h0 hne
        ·exact h0
       obtain ⟨x0, -, -, -⟩ := hF.cells4 0 hpos
       rw [HTK.out.1] at x0
       rw [Nat.zero_mul] at x0
       clear hF hfo ht hne
       unfold tv
       go_wp2_with fail
       refine (HD.out _).mono ?_
       rintro e w2 ⟨rfl, hb2⟩
       go_wp2_with fail
       go_ret
       exact ⟨ret_s (by rw [HS.out]), by (repeat (first | with_reducible exact Below.refl _ _ | with_reducible apply below_drew | with_reducible apply below_draws | with_reducible apply below_alloc | with_reducible apply below_set | (with_reducible refine below_trans ?_ (by assumption)) | (with_reducible refine Below.trans ?_ (by assumption)) | exact Nat.le_refl _ | omega | (simp <;> omega)))⟩
      ·have b69 : (t.sort == 69) = false := by simp [h69]
       obtain ⟨q, hq, hs⟩ := standsF_U h h91 h63 hr h82 h69
       have hko := kind0_ok hgt h82 h69
       have hql := standsF_len _ hg n _ _ hq
       have HIH := Lib.hid (fun w (hT : Tys w B v ps) hB => IH.out (kind0 t) q w hq hko hT hB)
       have HS := Lib.hid hs; clear hs hq hko IH
       clear h hr hk h91 h63 h82 h69 hgt
       obtain ⟨tg, htg⟩ : ∃ tg, tag0 t = tg := ⟨_, rfl⟩
       obtain ⟨kd, hkd⟩ : ∃ kd, kind0 t = kd := ⟨_, rfl⟩
       rw [htg] at HD HS HTK htb hdl
       rw [hkd] at HIH HTK
       clear htg hkd
       generalize dec tg = D at *
       have t1 := cat_run [60] D (by simp; omega)
       have t2 := cat_run (60 :: D) [61] (by simp; omega)
       have t3 := cat_run (60 :: (D ++ [61])) q (by simp; omega)
       have t4 := cat_run (60 :: (D ++ 61 :: q)) [62] (by simp; omega)
       obtain ⟨av, cv2, rfl, -, -⟩ := HT.out.form
       go_enter Tryz.func44, Tryz.ntmps44
       go_wp2_with fail
       refine HR.out.mono ?_
       rintro e w1 ⟨t', u, rfl, ht, hF, hb⟩
       obtain rfl : t' = t := ht _ rfl
       obtain ⟨a, c, rfl, -, hfo⟩ := hF.form
       obtain ⟨g, rfl, -, hgw⟩ : ∃ g, a = some ⟨g, 0, none⟩ ∧ B ≤ g ∧ g < w1.heap.size := by
        rcases hfo with ⟨_, h0⟩ | h0
        ·exact absurd h0 hne
        ·exact h0
       obtain ⟨x0, -, x2, -⟩ := hF.cells4 0 hpos
       rw [HTK.out.1] at x0
       rw [HTK.out.2] at x2
       rw [Nat.zero_mul] at x0 x2
       rw [Nat.zero_add] at x2
       have HT1 := Lib.hid (HT.out.below hb)
       have hB1 : B ≤ w1.heap.size := by have := hb.size; omega
       clear hF hfo ht hne HT HTK HR
       unfold tv
       have hD3 : D.length ≤ 300 := by omega
       have hq7 : q.length ≤ 700 := by omega
       clear hdl hql
       have HIH2 := Lib.hid (fun W (hbw : Below w1.heap.size w1 W) => HIH.out W (HT1.out.below hbw) (by have := hbw.size; omega))
       clear HIH
       go_upto_region 13 with fail
       clear hk0 hk12 hk12' b91 b63 b82 b69 htb hl hg HG hn hB
       go_region_with (first | (go_at_call 76; ((with_reducible refine (HD.out _).mono ?_); rintro e w' ⟨rfl, hbd⟩; obtain ⟨hce, hfr⟩ := bcell hbd; have hq := hbd.size; (try simp at hq))) | (go_at_call 44; ((with_reducible refine (HIH2.out _ (by repeat (first | with_reducible exact Below.refl _ _ | with_reducible apply below_drew | with_reducible apply below_alloc | with_reducible refine below_trans ?_ (by assumption)))).mono ?_); rintro e w' ⟨rfl, hbs⟩; obtain ⟨hce2, hfr2⟩ := bcell hbs; have hq2 := hbs.size; (try simp at hq2))))
       all_goals
        clear t1 t2 t3 t4 HD HIH2
        go_wp2_with fail
        go_ret
        exact ⟨ret_s (by rw [HS.out] <;> first | rfl | simp), by repeat (first | with_reducible exact Below.refl _ _ | with_reducible apply below_drew | with_reducible apply below_draws | with_reducible apply below_alloc | with_reducible refine below_trans ?_ (by assumption))⟩
theorem results_tmp4 {fn : Func} {t u v x : Tmp} (h : fn.results = #[.tmp t, .tmp u, .tmp v, .tmp x]) (tmps : Array Value) (P : Program) (w : World) :
  (results fn tmps).run P w = .ok (.tuple #[tmps.getD t undef, tmps.getD u undef, tmps.getD v undef, tmps.getD x undef]) w := by simp [results, h]
theorem ret_sssb {a b c a' b' c' : ByteArray} {d d' : Bool} (h1 : a = a') (h2 : b = b') (h3 : c = c') (h4 : d = d') : Ending.returned (.tuple #[.string a, .string b, .string c, .bool d]) = .returned (.tuple #[.string a', .string b', .string c', .bool d']) := by rw [h1, h2, h3, h4]
def standV (X : List Ty) (f : Fl) : Bs := if f.stand = [] then standsV X f.kind else f.stand
theorem k_stand (v : Value) (ps : List (Ty × Value)) (B : Nat) (hl : ps.length ≤ 8) (hg : ∀ t ∈ ps.map (·.1), GoodT t) (hv : validB (ps.map (·.1)) = true) (f : Fl) (hk : kOk f.kind = true) (w : World) (hT : Tys w B v ps) (hB : B ≤ w.heap.size) :
  Calls Tryz.prog 38 #[v, fv f] w fun e w' => e = .returned (.string (S (standV (ps.map (·.1)) f))) ∧ Below w.heap.size w w' := by
 have HC := Lib.hid (fun w hT hB => k_stands v ps B (by omega) hg ((ps.map (·.1)).length + 3) (by simp; omega) f.kind _ w (standsV_ok hv hg f.kind) hk hT hB)
 have HT := Lib.hid hT; clear hT
 unfold fv
 by_cases h : f.stand = []
 ·have HF := Lib.hid (show standV (ps.map (·.1)) f = standsV (ps.map (·.1)) f.kind by unfold standV; rw [if_pos h])
  have hb : f.stand.isEmpty = true := by rw [h]; rfl
  clear h hg hv hk
  generalize standsV (ps.map (·.1)) f.kind = sv at *
  go_enter Tryz.func38, Tryz.ntmps38
  go_wp2_with fail
  refine (HC.out _ (HT.out.below (below_alloc (Below.refl _ _) _)) (by simp; omega)).mono ?_
  rintro e w2 ⟨rfl, hb2⟩
  go_wp2_with fail
  go_ret
  exact ⟨ret_s (by rw [HF.out]), by (repeat (first | with_reducible exact Below.refl _ _ | with_reducible apply below_drew | with_reducible apply below_draws | with_reducible apply below_alloc | with_reducible apply below_set | (with_reducible refine below_trans ?_ (by assumption)) | (with_reducible refine Below.trans ?_ (by assumption)) | exact Nat.le_refl _ | omega | (simp <;> omega)))⟩
 ·have HF := Lib.hid (show standV (ps.map (·.1)) f = f.stand by unfold standV; rw [if_neg h])
  have hb : f.stand.isEmpty = false := by cases hx : f.stand with | nil => exact absurd hx h | cons _ _ => rfl
  clear h hg hv hk
  go_enter Tryz.func38, Tryz.ntmps38
  go_wp2_with fail
  go_ret
  exact ⟨ret_s (by rw [HF.out]), by (repeat (first | with_reducible exact Below.refl _ _ | with_reducible apply below_drew | with_reducible apply below_draws | with_reducible apply below_alloc | with_reducible apply below_set | (with_reducible refine below_trans ?_ (by assumption)) | (with_reducible refine Below.trans ?_ (by assumption)) | exact Nat.le_refl _ | omega | (simp <;> omega)))⟩
theorem kindS_some {l k : Bs} {X : List Ty} (h : kindS l k = some X) : ofS l = some X ∧ kOk k = true ∧ coreOk X k = true := by
 unfold kindS at h
 cases ho : ofS l with
 | none => rw [ho] at h; cases h
 | some Y =>
  rw [ho] at h
  simp only at h
  split at h
  ·rename_i hc; injection h with h; subst h; exact ⟨rfl, hc.1, hc.2⟩
  ·cases h
def fldS (l n : Bs) (tag : Int) : Option (Bs × Bs × Bs) := match ofS l with
 | none => none
 | some X => match find X n with
  | none => none
  | some t => match fieldT t tag with
   | none => none
   | some f => if t.sort = 69 then some (f.name, [], []) else some (f.name, f.kind, standV X f)
def f1 (o : Option (Bs × Bs × Bs)) : Bs := match o with | some x => x.1 | none => []
def f2 (o : Option (Bs × Bs × Bs)) : Bs := match o with | some x => x.2.1 | none => []
def f3 (o : Option (Bs × Bs × Bs)) : Bs := match o with | some x => x.2.2 | none => []
theorem fldS_no {l n : Bs} {tag : Int} (h : findS l n = none) : fldS l n tag = none := by
 unfold fldS; unfold findS at h
 cases ho : ofS l with
 | none => rfl
 | some X =>
  rw [ho] at h
  have h' : find X n = none := h
  simp only [h']
theorem fldS_on {l n : Bs} {tag : Int} {X : List Ty} {t : Ty} (ho : ofS l = some X) (h : findS l n = some t) : fldS l n tag = match fieldT t tag with
      | none => none
      | some f => if t.sort = 69 then some (f.name, [], []) else some (f.name, f.kind, standV X f) := by
  unfold fldS; unfold findS at h
  rw [ho] at h
  have h' : find X n = some t := h
  rw [ho]
  simp only [h']
theorem fieldT_mem {t : Ty} {tag : Int} {f : Fl} (h : fieldT t tag = some f) : f ∈ t.fields := List.mem_of_find?_eq_some h
set_option maxHeartbeats 2000000 in
theorem k_SchemaField (l n : Bs) (tag : Int) (w : World) (hs : l.length ≤ 2000000) :
  Calls Tryz.prog 12 #[.string (S l), .string (S n), .int .i64 tag] w fun e w' => e = .returned (.tuple #[.string (S (f1 (fldS l n tag))), .string (S (f2 (fldS l n tag))), .string (S (f3 (fldS l n tag))), .bool (fldS l n tag).isSome]) ∧ Below w.heap.size w w' := by
 have HC := Lib.hid (fun w => k_l3Find l n w hs)
 go_enter Tryz.func12, Tryz.ntmps12
 go_wp2_with fail
 refine (HC.out _).mono ?_
 rintro e w1 ⟨v, ps, t, u, rfl, hT, hF, hX, hl, hb⟩
 obtain ⟨au, cu, rfl, -, -⟩ := hF.form
 obtain ⟨av, cv2, rfl, -, -⟩ := hT.form
 have HF := Lib.hid hF; clear hF
 have HT := Lib.hid hT; clear hT
 unfold tv
 cases ho : findS l n with
 | none =>
  have HO := Lib.hid (fldS_no (tag := tag) ho)
  clear hX ho
  go_wp2_with fail
  refine bodyPost_ret (results_tmp4 rfl _ _ _) rfl ?_
  exact ⟨ret_sssb (by rw [HO.out]; rfl) (by rw [HO.out]; rfl) (by rw [HO.out]; rfl) (by rw [HO.out]; rfl), by (repeat (first | with_reducible exact Below.refl _ _ | with_reducible apply below_drew | with_reducible apply below_draws | with_reducible apply below_alloc | with_reducible apply below_set | (with_reducible refine below_trans ?_ (by assumption)) | (with_reducible refine Below.trans ?_ (by assumption)) | exact Nat.le_refl _ | omega | (simp <;> omega)))⟩
 | some x =>
  obtain ⟨rfl, hoS⟩ := hX _ ho
  have hgt := (findS_good ho).1
  have HO := Lib.hid (fldS_on (tag := tag) hoS ho)
  obtain ⟨hg, -, hv⟩ := ofS_some hoS
  clear hX ho
  have HFT := Lib.hid (k_field t au cu w.heap.size tag (w1.alloc (.cells #[.int .u8 t.sort, .string (S t.name), .slice au t.fields.length cu] 61)) (HF.out.below (below_alloc (Below.refl _ _) _)) (by have := hgt.2.2.1; omega))
  unfold tv at HFT
  have HGT := Lib.hid hgt; clear hgt hoS
  have HG := Lib.hid hg; clear hg
  have HV := Lib.hid hv; clear hv
  obtain ⟨y, hy⟩ : ∃ y, fieldT t tag = y := ⟨_, rfl⟩
  rw [hy] at HFT HO
  have HY := Lib.hid hy; clear hy
  go_wp2_with fail
  refine HFT.out.mono ?_
  rintro e w2 ⟨f, rfl, hf, hb2⟩
  unfold fv
  have K := (Blk.new w1 61 #[.int .u8 t.sort, .string (S t.name), .slice au t.fields.length cu]).keep hb2
  have k0 := K.cell 0
  simp at k0
  have hz2 := hb2.size
  simp at hz2
  have hlt : w1.heap.size < w2.heap.size := by omega
  have hne : ¬ w2.heap.size = w1.heap.size := by omega
  have HT2 := Lib.hid ((HT.out.below (below_alloc (Below.refl _ _) _)).below hb2)
  have hb3 : Below w.heap.size w w2 := below_trans (below_alloc hb _) hb2
  clear K hb2 HFT HC HT HF
  cases y with
  | none =>
   clear hf
   go_wp2_with fail
   refine bodyPost_ret (results_tmp4 rfl _ _ _) rfl ?_
   exact ⟨ret_sssb (by rw [HO.out]; rfl) (by rw [HO.out]; rfl) (by rw [HO.out]; rfl) (by rw [HO.out]; rfl), by (repeat (first | with_reducible exact Below.refl _ _ | with_reducible apply below_drew | with_reducible apply below_draws | with_reducible apply below_alloc | with_reducible apply below_set | (with_reducible refine below_trans ?_ (by assumption)) | (with_reducible refine Below.trans ?_ (by assumption)) | exact Nat.le_refl _ | omega | (simp <;> omega)))⟩
  | some f' =>
   obtain rfl : f = f' := hf _ rfl
   clear hf
   by_cases h69 : t.sort = 69
   ·have HO2 := Lib.hid (HO.out.trans (if_pos h69))
    have b69 : (t.sort == 69) = true := by simp [h69]
    clear h69
    go_wp2_with fail
    refine bodyPost_ret (results_tmp4 rfl _ _ _) rfl ?_
    exact ⟨ret_sssb (by rw [HO2.out]; rfl) (by rw [HO2.out]; rfl) (by rw [HO2.out]; rfl) (by rw [HO2.out]; rfl), by (repeat (first | with_reducible exact Below.refl _ _ | with_reducible apply below_drew | with_reducible apply below_draws | with_reducible apply below_alloc | with_reducible apply below_set | (with_reducible refine below_trans ?_ (by assumption)) | (with_reducible refine Below.trans ?_ (by assumption)) | exact Nat.le_refl _ | omega | (simp <;> omega)))⟩
   ·have HO2 := Lib.hid (HO.out.trans (if_neg h69))
    have b69 : (t.sort == 69) = false := by simp [h69]
    have hko : kOk f.kind = true := (HGT.out.2.2.2.2 f (fieldT_mem HY.out)).2.2.2.2.2.1 h69
    have HCS := Lib.hid (fun W (hbw : Below w2.heap.size w2 W) => k_stand _ ps w.heap.size hl HG.out HV.out f hko W (HT2.out.below hbw) (by have := hbw.size; have := hb3.size; omega))
    unfold fv at HCS
    clear h69 hko HGT HY HO HT2
    generalize standV (ps.map (·.1)) f = sv at *
    go_upto_region 9 with fail
    clear k0 hz2 hlt hne b69 HG HV hl hs
    go_region_with (go_at_call 38; ((with_reducible refine (HCS.out _ (by repeat (first | with_reducible exact Below.refl _ _ | with_reducible apply below_drew | with_reducible apply below_alloc | with_reducible refine below_trans ?_ (by assumption)))).mono ?_); rintro e w' ⟨rfl, hbs⟩; obtain ⟨hce2, hfr2⟩ := bcell hbs; have hq2 := hbs.size; (try simp at hq2)))
    all_goals
     clear HCS
     go_wp2_with fail
     refine bodyPost_ret (results_tmp4 rfl _ _ _) rfl ?_
     exact ⟨ret_sssb (by rw [HO2.out] <;> rfl) (by rw [HO2.out] <;> rfl) (by rw [HO2.out] <;> rfl) (by rw [HO2.out] <;> rfl), below_trans hb3 (by repeat (first | with_reducible exact Below.refl _ _ | with_reducible apply below_drew | with_reducible apply below_draws | with_reducible apply below_alloc | with_reducible refine below_trans ?_ (by assumption)))⟩
end Go.Proofs.YtcjooeklehggaaaGreatDoor
