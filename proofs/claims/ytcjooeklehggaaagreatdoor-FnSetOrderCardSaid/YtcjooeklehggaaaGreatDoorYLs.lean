/- Lemmas of this seat. -/
import Derived.Test.YtcjooeklehggaaaGreatDoorYIs
import Derived.Test.YtcjooeklehggaaaGreatDoorYKs
set_option linter.unusedVariables false
set_option linter.unusedSimpArgs false
set_option maxRecDepth 100000
namespace Go.Proofs.YtcjooeklehggaaaGreatDoor
open Go.ChangeShapes Go.WideShapes Go.ChangeAt Go.RowKit M
theorem stand_len {es : List Ent} (hs : Sound es) (f : Fl) (h : f.stand.length ≤ 14) : (standM (tys es) f).length ≤ 100 := by
 have hl := hs.good.len
 unfold standM
 split
 ·have := standsF_len (tys es) hs.goodT _ _ _ (standsV_ok hs.valid hs.goodT f.kind)
  simp at this; omega
 ·omega
theorem step_none {rd : Bs → Bs → Option (V × Bs)} {X : List Ty} {t : Ty} {a : List Int × List V} {s : Bs} (h : toldR rd t s = none) : stepR rd X t a s = none := by unfold stepR; rw [h]
theorem step_low {rd : Bs → Bs → Option (V × Bs)} {X : List Ty} {t : Ty} {a : List Int × List V} {s : Bs} {y : Fl × V × Bs} (h : toldR rd t s = some y) (hl : y.1.tag ≤ lastT a.1) : stepR rd X t a s = none := by
 unfold stepR; rw [h]; exact if_neg (fun h => by have := h.1; unfold lastT at hl; omega)
theorem step_same {rd : Bs → Bs → Option (V × Bs)} {X : List Ty} {t : Ty} {a : List Int × List V} {s : Bs} {y : Fl × V × Bs} (h : toldR rd t s = some y) (hl : outV y.2.1 = standM X y.1) : stepR rd X t a s = none := by
 unfold stepR; rw [h]; exact if_neg (fun h => h.2 hl)
theorem step_yes {rd : Bs → Bs → Option (V × Bs)} {X : List Ty} {t : Ty} {a : List Int × List V} {s : Bs} {y : Fl × V × Bs} (h : toldR rd t s = some y) (hl : ¬ y.1.tag ≤ lastT a.1) (h2 : outV y.2.1 ≠ standM X y.1) :
  stepR rd X t a s = some ((a.1 ++ [y.1.tag], a.2 ++ [y.2.1]), y.2.2) := by
 unfold stepR; rw [h]; exact if_pos ⟨by unfold lastT at hl; omega, h2⟩
set_option maxHeartbeats 4000000 in
theorem i_rec1 {es : List Ent} (hs : Sound es) (B n : Nat) (hn : n ≤ 1000000) (IH : IRd es B n) (e : Ent) (he : e ∈ es) (h82 : e.t.sort = 82) (w : World) (hG : Graph w B es) (hT : Tab w) (a : List Int × List V) (s : Bs) (W : World) (hj : JR w e a W) (hl : s.length ≤ n) :
  Calls Tryz.prog 156 #[.string (S s), .pointer (some ⟨w.heap.size, 0, none⟩), .pointer (some ⟨w.heap.size + 2, 0, none⟩), .pointer (some ⟨w.heap.size + 1, 0, none⟩)] W (RetRow (JR w e) (FL w) (stepR (fun s k => readF (tys es) n s k) (tys es) e.t a s)) := by
 have HFL := Lib.hid hj.fl
 obtain ⟨gs, l⟩ := a
 obtain ⟨hgl, hgb, hcnt, hlast, hk0, hkl, ⟨us, ao, co, hp⟩, hb⟩ := hj
 simp only at hgl hgb hcnt hlast hk0 hkl hp
 obtain ⟨rd, hrd⟩ : ∃ rd, (fun s k => readF (tys es) n s k) = rd := ⟨_, rfl⟩
 have HT0 := Lib.hid (i_readTold hs B n hn IH e he (by omega) s W (hG.below hb) (hT.below hb) hl)
 have hout : ∀ s k x, rd s k = some x → s = outV x.1 ++ x.2 := fun s k x h => by subst hrd; exact readF_out _ _ _ _ _ h
 rw [hrd] at HT0 ⊢
 obtain ⟨o, ho⟩ : ∃ o, toldR rd e.t s = o := ⟨_, rfl⟩
 obtain ⟨O, hO⟩ : ∃ O, stepR rd (tys es) e.t (gs, l) s = O := ⟨_, rfl⟩
 rw [ho] at HT0
 rw [hO]
 have HO := Lib.hid hO
 have HOT := Lib.hid ho
 have HTX := Lib.hid (fun y (h : o = some y) => (by rw [h] at ho; exact told_text hout ho : s = (dec y.1.tag ++ (61 :: outV y.2.1)) ++ y.2.2 ∧ y.1 ∈ e.t.fields))
 have HCMP := Lib.hid (fun y st (h : o = some y) => (by rw [h] at ho; exact told_cmp hout ho : (s.take (s.length - y.2.2.length) = dec y.1.tag ++ (61 :: st)) ↔ outV y.2.1 = st))
 have HGF := Lib.hid (fun (f : Fl) (h : f ∈ e.t.fields) => (hs.good.good e he).2.2.2.2 f h)
 have HFA := Lib.hid (fun w' (hbw : Below w.heap.size w w') {g n cap i : Nat} {f : Fl} (hv : e.v = .slice (some ⟨g, 0, none⟩) n cap) (hf : e.t.fields[i]? = some f) => (hG.below hbw).fieldAt hs he hv hf)
 have HG := Lib.hid hG; have HT := Lib.hid hT; have HP := Lib.hid hp; have HK0 := Lib.hid hk0; have HKL := Lib.hid hkl; have HB := Lib.hid hb
 have HHS := Lib.hid hs
 have HRL := Lib.hid hp.row.lt_
 have HSL := Lib.hid (fun f h => stand_len hs f h)
 obtain ⟨lt0, hlt0⟩ : ∃ t, lastT gs = t := ⟨_, rfl⟩
 rw [hlt0] at hcnt hlast HKL
 have HLT0 := Lib.hid hlt0
 have HGL := Lib.hid hgl; have HGB := Lib.hid hgb
 have k0 := hk0.cell 0
 have hzq := hp.blk.lt
 have hz2 := hkl.lt
 have hzb := hb.size
 simp at k0
 have HLL := Lib.hid (show s.length ≤ 1000000 by omega)
 clear hO ho hG hT hp hk0 hkl hb hs hout hrd IH hgl hgb hlt0 hl hn
 go_enter Tryz.func156, Tryz.ntmps156
 go_wp2_with fail
 refine HT0.out.mono ?_
 rintro ee w2 ⟨pf, u, t, rfl, hu, ht, hb2, hy⟩
 have HFL2 := Lib.hid (HFL.out.below hb2 (by omega))
 have hl0 := (HKL.out.keep hb2).cell 0
 simp at hl0
 cases o with
 | none =>
  have HN := Lib.hid (show O = none by rw [← HO.out, step_none HOT.out])
  clear hy
  go_wp2_with fail
  go_quiet (fail)
  go_wp2_with fail
  go_ret2
  exact RetRow.no HN.out (by simp) (HFL2.out.below (by first | exact below_draws (Below.refl _ _) _ | exact Below.refl _ _) (by have := hb2.size; omega))
 | some y =>
  obtain ⟨f, x, t'⟩ := y
  obtain ⟨rfl, hx, g, n', cap, i, hv, hf, rfl⟩ := hy _ rfl
  simp only at hx hf
  have hFA := HFA.out w2 (below_trans HB.out hb2) hv hf
  obtain ⟨q, ⟨x0, x1, x2, x3, x4⟩, hq, -, hne, hgl2⟩ := hFA
  by_cases hle : f.tag ≤ lt0
  ·have HN := Lib.hid (show O = none by rw [← HO.out, step_low HOT.out (by show f.tag ≤ lastT gs; rw [HLT0.out]; exact hle)])
   clear hy hq hne x1 x2 x3 x4 hx hv hf
   go_wp2_with fail
   go_quiet (fail)
   go_wp2_with fail
   go_ret2
   exact RetRow.no HN.out (by simp) (HFL2.out.below (by first | exact below_draws (Below.refl _ _) _ | exact Below.refl _ _) (by have := hb2.size; omega))
  ·have hmem := (HTX.out _ rfl).2
   have htx := (HTX.out _ rfl).1
   simp only at hmem htx
   have hgf := HGF.out f hmem
   have hbd : 1 ≤ f.tag ∧ f.tag ≤ 200 := ⟨hgf.1, hgf.2.1⟩
   have hkind : f.kind ≠ [] := hne (by omega)
   have hgw : g < w.heap.size := by obtain ⟨-, -, -, -, -, h⟩ := HFA.out w (Below.refl _ _) hv hf; exact h
   have hsl := HSL.out f hgf.2.2.2.1
   have hcmp := HCMP.out _ (standM (tys es) f) rfl
   have HYES := Lib.hid (fun (h : outV x ≠ standM (tys es) f) => (by rw [← HO.out, step_yes HOT.out (by show ¬ f.tag ≤ lastT gs; rw [HLT0.out]; exact hle) h] : O = some ((gs ++ [f.tag], l ++ [x]), t)))
   have HSAME := Lib.hid (fun (h : outV x = standM (tys es) f) => (by rw [← HO.out, step_same HOT.out h] : O = none))
   have HST := Lib.hid (fun W' (hbw : Below w2.heap.size w2 W') => (by
    obtain ⟨q', hf', hq', -, -, -⟩ := HFA.out W' (below_trans (below_trans HB.out hb2) hbw) hv hf
    have := i_standField HHS.out B g (i * 5) f W' (HG.out.below (below_trans (below_trans HB.out hb2) hbw)) (HT.out.below (below_trans (below_trans HB.out hb2) hbw)) ⟨.pointer q', hf', hq'⟩
    rw [if_neg hkind] at this; exact this : Calls Tryz.prog 35 #[.pointer (some ⟨g, i * 5, none⟩)] W' fun e w' => e = .returned (.string (S (standM (tys es) f))) ∧ Below W'.heap.size W' w'))
   obtain ⟨st, hst⟩ : ∃ st, standM (tys es) f = st := ⟨_, rfl⟩
   rw [hst] at hsl hcmp HYES HSAME HST
   have HTT := Lib.hid (fun W' (hbw : Below w2.heap.size w2 W') => i_toldText f.tag st (by omega) (by omega) (by omega) W' (HT.out.below (below_trans (below_trans HB.out hb2) hbw)))
   have htl : t.length ≤ s.length := by rw [htx]; simp; omega
   obtain ⟨m, hm⟩ : ∃ m, s.length - t.length = m := ⟨_, rfl⟩
   have hml : m ≤ s.length := by omega
   have e1 : IntKind.i64.wrap ((s.length : Int) - (t.length : Int)) = (m : Int) := by rw [show (s.length : Int) - (t.length : Int) = m by omega]; exact IntWalk.i64_in _ (by have := HLL.out; omega)
   obtain ⟨R, hR⟩ : ∃ R, dec f.tag ++ (61 :: st) = R := ⟨_, rfl⟩
   simp only at hcmp
   rw [hm, hR] at hcmp
   rw [hR] at HTT
   obtain ⟨p, hpp⟩ : ∃ p, s.take m = p := ⟨_, rfl⟩
   rw [hpp] at hcmp
   obtain ⟨eqB, heq⟩ : ∃ b, (p == R) = b := ⟨_, rfl⟩
   have HEQ := Lib.hid (show eqB = true ↔ outV x = st by rw [← heq, beq_iff_eq]; exact hcmp)
   obtain ⟨T, v, g', rfl, -⟩ := hx.isT
   have HX := Lib.hid hx
   have HPP := Lib.hid hpp
   clear hy hq hne x1 x2 x3 x4 hx hv hf hmem htx hgf hkind HFA HGF HSL HCMP HTX HOT HO hst hm hR hcmp hpp HHS
   have HLE := Lib.hid hle
   go_upto_region 2 with fail
   go_cut [28] (fun z wx => z = .bool false ∧ ∃ nq, wx = w2.drewN nq)
   case first =>
    clear HYES HSAME HST HTT HX HEQ HG HT HP HK0 HKL HB HFL HFL2 HGL HGB HT0 heq e1 hsl htl hml HLL
    go_quiet (fail)
    go_wp2_with fail
    go_meet
    exact ⟨by rw [decide_eq_false (by have := HLE.out; omega)], _, rfl⟩
   case rest =>
    obtain ⟨rfl, nq, hwc⟩ := hcut
    have hbc : Below w2.heap.size w2 wc := by rw [hwc]; exact below_draws (Below.refl _ _) _
    have y0 := (hbc.cell (p := ⟨g, i * 5, none⟩) hgl2).trans x0
    have hszc := hbc.size
    have HBC := Lib.hid hbc
    clear hwc x0 hl0 hbc hle
    go_upto_region 4 with fail
    go_cut [43] (fun z wx => z = .bool eqB ∧ Below wc.heap.size wc wx)
    case first =>
     clear HYES HSAME HX HEQ HG HT HP HK0 HKL HB HFL HFL2 HGL HGB HT0 k0
     cases eqB with
     | true =>
      obtain rfl : p = R := by simpa using heq
      clear heq
      go_region_held3 (fun w' => w'.cell? ⟨g, i * 5, none⟩ = some (.int .i64 f.tag) ∧ Below wc.heap.size wc w')
       (first | (exact ⟨y0, below_drew (Below.refl _ _)⟩) | (go_split_ands; refine ⟨?_, ?_⟩; (exact cell_later hb3 (by assumption)); (exact below_trans (by assumption) hb3)))
       (first | (go_at_call 35; go_split_ands; (with_reducible refine (HST.out _ (below_trans HBC.out (by assumption))).mono ?_); rintro e w' ⟨rfl, hb3⟩) | (go_at_call 158; go_split_ands; (with_reducible refine (HTT.out _ (below_trans HBC.out (by assumption))).mono ?_); rintro e w' ⟨rfl, hb3⟩))
      all_goals
       go_split_ands
       go_wp2_with fail
       go_meet
       exact ⟨by rw [HPP.out]; simp, by first | assumption | exact below_trans (by assumption) (by assumption)⟩
     | false =>
      have n1 : ¬ p = R := by simpa using heq
      have n2 : ¬ S p = S R := by intro e; apply n1; have := congrArg (fun b : ByteArray => b.data.toList) e; simpa [S] using this
      go_region_held3 (fun w' => w'.cell? ⟨g, i * 5, none⟩ = some (.int .i64 f.tag) ∧ Below wc.heap.size wc w')
       (first | (exact ⟨y0, below_drew (Below.refl _ _)⟩) | (go_split_ands; refine ⟨?_, ?_⟩; (exact cell_later hb3 (by assumption)); (exact below_trans (by assumption) hb3)))
       (first | (go_at_call 35; go_split_ands; (with_reducible refine (HST.out _ (below_trans HBC.out (by assumption))).mono ?_); rintro e w' ⟨rfl, hb3⟩) | (go_at_call 158; go_split_ands; (with_reducible refine (HTT.out _ (below_trans HBC.out (by assumption))).mono ?_); rintro e w' ⟨rfl, hb3⟩))
      all_goals
       go_split_ands
       go_wp2_with fail
       go_meet
       exact ⟨by rw [HPP.out]; simp [n1], by first | assumption | exact below_trans (by assumption) (by assumption)⟩
    case rest =>
     obtain ⟨rfl, hb4⟩ := hcut
     have hbx : Below W.heap.size W wc := below_trans (below_trans hb2 HBC.out) hb4
     have hbw : Below w.heap.size w wc := below_trans HB.out hbx
     have HFL3 := Lib.hid (HFL.out.below hbx (by omega))
     have hzx := hbx.size
     clear HST HTT heq e1 HPP hsl htl hml HLL
     cases eqB with
     | true =>
      have HN := Lib.hid (HSAME.out (HEQ.out.1 rfl))
      go_wp2_with fail
      go_ret2
      exact RetRow.no HN.out (by simp) HFL3.out
     | false =>
      have HY := Lib.hid (HYES.out (fun h => by have := HEQ.out.2 h; cases this))
      have x0 := (hb4.cell (p := ⟨g, i * 5, none⟩) (by show g < _; omega)).trans y0
      have KL := HKL.out.keep hbx
      have l0 := KL.cell 0
      have lf := KL.frozen 0
      have hllt := KL.lt
      simp at l0
      have HK04 := Lib.hid (HK0.out.keep hbx)
      have HX4 := Lib.hid (HX.out.belowed (below_trans HBC.out hb4))
      have HP4 := Lib.hid (HP.out.belowed hbx)
      have HKL4 := Lib.hid KL
      have HBW := Lib.hid hbw
      have hgne : ¬ w.heap.size + 2 = g := by omega
      clear HYES HSAME HEQ y0 k0 HFL HFL2 HX HP HK0 HKL HG HT hb4 hbx hbw KL
      go_upto_region 7 with fail
      obtain ⟨W3, hW3⟩ : ∃ W3, wc.setCell ⟨w.heap.size + 2, 0, none⟩ (.int .i64 f.tag) = W3 := ⟨_, rfl⟩
      have z0 : W3.cell? ⟨g, i * 5, none⟩ = some (.int .i64 f.tag) := by rw [← hW3]; exact far_set hgne x0
      have HP5 := Lib.hid (show RP W3 (w.heap.size + 3) (w.heap.size + 1) 85 137 2 (flatFV gs us) l us ao co by rw [← hW3]; exact HP4.out.other (by omega) (by omega) _ _)
      have HX5 := Lib.hid (show PAt W3 (fun b => W.heap.size ≤ b) x (.iface T v) by rw [← hW3]; exact HX4.out.rowed (set_self1 _ _ _ _) (by intro r e; injection e with e; omega))
      have HK5 := Lib.hid (show Blk W3 w.heap.size 48 #[.pointer (some ⟨e.b, 0, none⟩)] by rw [← hW3]; exact HK04.out.far (by simp) _)
      have HL5 := Lib.hid (show Blk W3 (w.heap.size + 2) 3 #[.int .i64 f.tag] by
       rw [← hW3]
       have := HKL4.out.set_ 0 (.int .i64 f.tag)
       simpa using this)
      have HB5 := Lib.hid (show Below w.heap.size w W3 by rw [← hW3]; exact below_set HBW.out (by simp) _)
      have hz3 : W3.heap.size = wc.heap.size := by rw [← hW3]; simp
      rw [hW3]
      have HPf := Lib.hid (fun W' (hbw : Below W3.heap.size W3 W') => HP5.out.belowed hbw)
      have HXf := Lib.hid (fun W' (hbw : Below W3.heap.size W3 W') => HX5.out.belowed hbw)
      have HKf := Lib.hid (fun W' (hbw : Below W3.heap.size W3 W') => And.intro (HK5.out.keep hbw) (And.intro (HL5.out.keep hbw) (below_trans HB5.out hbw)))
      have c0 := HP5.out.blk.cell 0
      have cf := HP5.out.blk.frozen 0
      simp at c0
      have hln : l.length ≤ 3000000 := by omega
      have hq3 : w.heap.size + 1 < W3.heap.size := by omega
      have hq4 : ¬ W3.heap.size = w.heap.size + 1 := by omega
      have hg3 : g < W3.heap.size := by omega
      have hg4 : ¬ W3.heap.size = g := by omega
      have HTL := Lib.hid ht
      have HZ3 := Lib.hid hz3
      clear hz3 hW3 x0 l0 lf hllt HK04 HX4 HP4 HKL4 HBW HP5 HX5 HK5 HL5 HB5 HLT0 HBC HB HFL3 ht
      go_region_law (refine step_app_fv rfl (.tmp 48) (.tmp 55) rfl (fun b => w.heap.size + 3 ≤ b) _ l.length (flatFV gs us) (by simp [Act.eval, Act.put]) (HPf.out _ (by repeat (with_reducible first | exact Below.refl _ _ | apply below_drew | apply below_alloc))).row W3.heap.size f.tag (.iface T v) rfl (by simp [Act.eval, Act.put]) (by simp [go_sem]) (by simp [go_sem]) hln (W3.heap.size + 1) (by simp) ?_; intro g2 cap w' hk' hg' hgg hlt'; obtain ⟨kq, fq, lq⟩ := RP.after (HPf.out _ (by repeat (with_reducible first | exact Below.refl _ _ | apply below_drew | apply below_alloc))) hg')
      all_goals
       go_wp2_with fail
       go_ret2
       have HM := (HPf.out _ (by repeat (with_reducible first | exact Below.refl _ _ | apply below_drew | apply below_alloc))).more (x := x) (H := W3.heap.size + 1) (Fr1.of_lt (L := W.heap.size) (HXf.out _ (by repeat (with_reducible first | exact Below.refl _ _ | apply below_drew | apply below_alloc))) (by omega) HRL.out) (by simp) hk' hg' hgg (by omega)
       have hwb : Below w.heap.size w (w'.setCell ⟨w.heap.size + 1, 0, none⟩ (.slice (some ⟨g2, 0, none⟩) (l.length + 1) cap)) := below_set ((HKf.out _ (by repeat (with_reducible first | exact Below.refl _ _ | apply below_drew | apply below_alloc))).2.2.trans ((HPf.out _ (by repeat (with_reducible first | exact Below.refl _ _ | apply below_drew | apply below_alloc))).below hg' (by simp; omega) (by omega))) (by simp) _
       refine RetRow.yes HY.out HTL.out ⟨hwb, _, _, _, World.cell?_setCell_same _ _ _ kq⟩ ⟨by simp [HGL.out], ?_, ?_, ?_, ?_, ?_, ⟨us ++ [.iface T v], some ⟨g2, 0, none⟩, cap, ?_⟩, hwb⟩
       ·intro g9 h9
        rcases List.mem_append.1 h9 with h9 | h9
        ·exact HGB.out g9 h9
        ·simp at h9; subst h9; exact hbd
       ·rw [lastT_snoc]; have := HLE.out; simp; omega
       ·rw [lastT_snoc]; exact hbd.2
       ·exact ((HPf.out _ (by repeat (with_reducible first | exact Below.refl _ _ | apply below_drew | apply below_alloc))).beside hg' (HKf.out _ (by repeat (with_reducible first | exact Below.refl _ _ | apply below_drew | apply below_alloc))).1 (by omega)).far (by simp) _
       ·rw [lastT_snoc]; exact ((HPf.out _ (by repeat (with_reducible first | exact Below.refl _ _ | apply below_drew | apply below_alloc))).beside hg' (HKf.out _ (by repeat (with_reducible first | exact Below.refl _ _ | apply below_drew | apply below_alloc))).2.1 (by omega)).far (by simp) _
       ·rw [flatFV_snoc _ _ _ _ (by rw [HGL.out]; exact (HPf.out _ (Below.refl _ _)).mny.1.symm)]; exact HM
theorem stepR_len {rd : Bs → Bs → Option (V × Bs)} (hr : ∀ s k x, rd s k = some x → s = outV x.1 ++ x.2) (X : List Ty) (t : Ty) (a : List Int × List V) (s : Bs) (y : (List Int × List V) × Bs) (h : stepR rd X t a s = some y) : y.2.length ≤ s.length := by
 unfold stepR at h
 split at h
 ·cases h
 ·rename_i z hz
  split at h
  ·injection h with h; subst h
   have := congrArg List.length (told_text hr hz).1
   simp at this ⊢; omega
  ·cases h
theorem rec1_enters (args : Array Value) (W : World) : (callFunc 156 args).run Tryz.prog W = .ok (.enter 156 args) W := by kernel_rfl
theorem i_readRecord {es : List Ent} (hs : Sound es) (B n : Nat) (hn : n ≤ 1000000) (IH : IRd es B n) (e : Ent) (he : e ∈ es) (h82 : e.t.sort = 82) (k s : Bs) (hk : at_ k 0 = 64) (w : World) (hG : Graph w B es) (hT : Tab w) (hl : s.length ≤ n) :
  Calls Tryz.prog 129 #[.pointer (some ⟨e.b, 0, none⟩), .string (S s)] w (RetP w ((rowR (stepR (fun s k => readF (tys es) n s k) (tys es) e.t) 123 125 ([], []) s).map fun y => (.mk k [82] y.1.1 y.1.2, y.2))) := by
 obtain ⟨W0, hW0⟩ : ∃ W0, ((w.alloc (.cells #[.pointer (some ⟨e.b, 0, none⟩)] 48)).alloc (.cells #[.slice none 0 0] 85)).alloc (.cells #[.int .i64 0] 3) = W0 := ⟨_, rfl⟩
 have hb0 : Below w.heap.size w W0 := by rw [← hW0]; exact below_alloc (below_alloc (below_alloc (Below.refl _ _) _) _) _
 have HJ0 : JR w e ([], []) W0 := by
  refine ⟨rfl, by simp, by simp [lastT], by simp [lastT], ?_, ?_, ⟨[], none, 0, RP.start _ _ _ (by omega) ?_⟩, hb0⟩
  ·rw [← hW0]; exact ((Blk.new w _ _).alloc _).alloc _
  ·rw [← hW0]
   have := Blk.new ((w.alloc (.cells #[.pointer (some ⟨e.b, 0, none⟩)] 48)).alloc (.cells #[.slice none 0 0] 85)) 3 #[.int .i64 0]
   rw [World.size_alloc, World.size_alloc] at this; exact this
  ·rw [← hW0]
   have := (Blk.new (w.alloc (.cells #[.pointer (some ⟨e.b, 0, none⟩)] 48)) 85 #[.slice none 0 0]).alloc (.cells #[.int .i64 0] 3)
   rw [World.size_alloc] at this; exact this
 have HR := Lib.hid (i_readRow (stepR (fun s k => readF (tys es) n s k) (tys es) e.t) 123 125 (by decide) (by decide) 156 [.pointer (some ⟨w.heap.size, 0, none⟩), .pointer (some ⟨w.heap.size + 2, 0, none⟩), .pointer (some ⟨w.heap.size + 1, 0, none⟩)] rec1_enters (JR w e) (FL w) (fun x W h => h.fl) ([], []) s W0 (by omega) HJ0
  (fun a s' W hj hl' => i_rec1 hs B n hn IH e he h82 w hG hT a s' W hj (by omega)) (stepR_len (fun s k x h => readF_out _ _ _ _ _ h) _ _))
 rw [show ((123 : UInt8).toNat : Int) = 123 from rfl, show ((125 : UInt8).toNat : Int) = 125 from rfl] at HR
 obtain ⟨o, ho⟩ : ∃ o, rowR (stepR (fun s k => readF (tys es) n s k) (tys es) e.t) 123 125 ([], []) s = o := ⟨_, rfl⟩
 rw [ho] at HR ⊢
 have HW := Lib.hid hW0
 clear ho HJ0 hG hT IH hs hb0 hW0
 go_enter Tryz.func129, Tryz.ntmps129
 go_wp2_with fail
 rw [HW.out]
 refine HR.out.mono ?_
 rintro ee w1 ⟨r, rfl, hr, ⟨hb1, a, n', c, x0⟩, hy⟩
 cases o with
 | none =>
  clear hy
  go_wp2_with fail
  go_ret3
  exact RetP.no rfl rfl hr hb1
 | some y =>
  obtain ⟨⟨gs, l⟩, r'⟩ := y
  obtain ⟨rfl, hgl, hgb, -, -, -, -, ⟨us, a2, c2, hp⟩, -⟩ := hy _ rfl
  simp only at hgl hgb hp
  have HP := Lib.hid hp
  have y0 := hp.blk.cell 0
  simp at y0
  have HGL := Lib.hid hgl; have HGB := Lib.hid hgb
  clear x0 hp hy hgl hgb
  go_wp2_with fail
  go_ret3
  exact RetP.yes rfl hr hb1 (HP.out.record hk HGL.out (fun g hg => by have := HGB.out g hg; omega) (by omega))
theorem i_typeValue {es : List Ent} (hs : Sound es) (B n : Nat) (hn : n ≤ 1000000) (IH : IRd es B n) (e : Ent) (he : e ∈ es) (k s : Bs) (hk : at_ k 0 = 64) (hr : refT (tys es) k = some e.t) (w : World) (hG : Graph w B es) (hT : Tab w) (hl : s.length ≤ n) :
  Calls Tryz.prog 104 #[.pointer (some ⟨e.b, 0, none⟩), .string (S s)] w (RetP w (readF (tys es) (n + 1) s k)) := by
 obtain ⟨⟨c, hc, hkb⟩, -, -⟩ := hG e he
 have y0 := hkb.cell 0
 simp at y0
 have hsort := (hs.good.good e he).1
 have htg : ∀ f ∈ e.t.fields, 1 ≤ f.tag := fun f hf => ((hs.good.good e he).2.2.2.2 f hf).1
 have h3 : e.t.sort = 82 ∨ e.t.sort = 85 ∨ e.t.sort = 69 := by
  unfold isSort at hsort; simp at hsort; omega
 rcases h3 with h82 | h85 | h69
 ·obtain rfl : c = 82 := UInt8.toNat_inj.1 (by show _ = 82; omega)
  have HC := Lib.hid (i_readRecord hs B n hn IH e he h82 k s hk w hG hT hl)
  rw [← readF_R (tys es) n s k e.t hk hr h82 htg] at HC
  obtain ⟨o, ho⟩ : ∃ o, readF (tys es) (n + 1) s k = o := ⟨_, rfl⟩
  rw [ho] at HC ⊢
  clear ho hG hT IH hs hkb hc hsort htg hr
  go_enter Tryz.func104, Tryz.ntmps104
  go_wp2_with (go_at_call 129; refine HC.out.mono ?_; rintro ee w1 ⟨u, r, rfl, hu, hr, hb, hx⟩)
  go_ret3
  exact ⟨u, r, rfl, hu, hr, hb, hx⟩
 ·obtain rfl : c = 85 := UInt8.toNat_inj.1 (by show _ = 85; omega)
  have HC := Lib.hid (show Calls Tryz.prog 130 #[.pointer (some ⟨e.b, 0, none⟩), .string (S s)] w (RetP w (readF (tys es) (n + 1) s k)) by
   rw [readF_U (tys es) n s k e.t hk hr h85]; exact i_readUnion hs B n hn IH e he h85 k s hk w hG hT hl)
  obtain ⟨o, ho⟩ : ∃ o, readF (tys es) (n + 1) s k = o := ⟨_, rfl⟩
  rw [ho] at HC ⊢
  clear ho hG hT IH hs hkb hc hsort htg hr
  go_enter Tryz.func104, Tryz.ntmps104
  go_wp2_with (go_at_call 130; refine HC.out.mono ?_; rintro ee w1 ⟨u, r, rfl, hu, hr, hb, hx⟩)
  go_ret3
  exact ⟨u, r, rfl, hu, hr, hb, hx⟩
 ·obtain rfl : c = 69 := UInt8.toNat_inj.1 (by show _ = 69; omega)
  have HC := Lib.hid (i_readEnum hs.good B e he k s hk w hG (by omega))
  rw [← readF_E (tys es) n s k e.t hk hr h69] at HC
  obtain ⟨o, ho⟩ : ∃ o, readF (tys es) (n + 1) s k = o := ⟨_, rfl⟩
  rw [ho] at HC ⊢
  clear ho hG hT IH hs hkb hc hsort htg hr
  go_enter Tryz.func104, Tryz.ntmps104
  go_wp2_with (go_at_call 131; refine HC.out.mono ?_; rintro ee w1 ⟨u, r, rfl, hu, hr, hb, hx⟩)
  go_ret3
  exact ⟨u, r, rfl, hu, hr, hb, hx⟩
theorem i_readOne {es : List Ent} (hs : Sound es) (B n : Nat) (hn : n < 1000000) (IH : IRd es B n) : IRd es B (n + 1) := by
 intro k s w hG hT hko hrf hl
 obtain ⟨hk12, hk0⟩ := kOk_len hko
 obtain ⟨o, ho⟩ : ∃ o, readF (tys es) (n + 1) s k = o := ⟨_, rfl⟩
 rcases kind_first hko with ⟨h0, hko', hrf'⟩ | ⟨h64, hkd, nm, hnm⟩ | rfl | rfl | rfl
 ·have hlead : leadE es k = leadE es (k.drop 1) := by unfold leadE; rw [hrf']
  obtain ⟨qa, hqa⟩ : ∃ qa, ptrE (leadE es k) = .pointer qa := ⟨_, rfl⟩
  have hIH := fun (s' : Bs) (W : World) (hb : Below w.heap.size w W) (hl' : s'.length < n) => (by
   have := IH (k.drop 1) s' W (hG.below hb) (hT.below hb) hko' (by rw [hrf']; exact hrf) hl'
   rw [← hlead, hqa] at this; exact this : Calls Tryz.prog 80 #[.string (S (k.drop 1)), .pointer qa, .string (S s')] W (RetP W (readF (tys es) n s' (k.drop 1))))
  have hk1 : (1 : Int) ≤ (k.length : Int) := by omega
  rcases h0 with h91 | h63
  ·have HC := Lib.hid (i_readList (fun s => readF (tys es) n s (k.drop 1)) (fun s y h => by have := readF_len h; omega) k (k.drop 1) s qa h91 w (by omega) (fun s' W hb hl' => hIH s' W hb (by omega)))
   rw [← readF_list (tys es) n s k h91, ho, List.drop_one] at HC
   rw [ho, hqa]
   clear hG hT IH hs ho hIH hqa hlead hrf hrf' hko hko'
   go_enter Tryz.func80, Tryz.ntmps80
   go_wp2_with (go_at_call 102; refine HC.out.mono ?_; rintro ee w1 ⟨u, r, rfl, hu, hr, hb, hx⟩)
   go_ret3
   exact ⟨u, r, rfl, hu, hr, hb, hx⟩
  ·have HC := Lib.hid (i_readPossible (.pointer qa) (fun s => readF (tys es) n s (k.drop 1)) k (k.drop 1) s h63 w (by omega) (fun W hb h43 => hIH (s.drop 1) W hb (by
    rw [List.length_drop]
    cases s with
    | nil => cases h43
    | cons _ _ => simp at hl ⊢; omega)))
   rw [← readF_may (tys es) n s k h63, ho, List.drop_one] at HC
   rw [ho, hqa]
   clear hG hT IH hs ho hIH hqa hlead hrf hrf' hko hko'
   go_enter Tryz.func80, Tryz.ntmps80
   go_wp2_with (go_at_call 103; refine HC.out.mono ?_; rintro ee w1 ⟨u, r, rfl, hu, hr, hb, hx⟩)
   go_ret3
   exact ⟨u, r, rfl, hu, hr, hb, hx⟩
 ·have hf := hrf nm (by rw [hnm]; simp)
  obtain ⟨e, hfe⟩ := Option.isSome_iff_exists.1 hf
  have hle : leadE es k = some e := by unfold leadE; rw [hnm]; exact hfe
  have hrt : refT (tys es) k = some e.t := by
   have := refT_lead es k
   rw [if_pos hkd, hle] at this; exact this
  have HC := Lib.hid (i_typeValue hs B n (by omega) IH e (findE_mem hfe).1 k s h64 hrt w hG hT (by omega))
  rw [ho] at HC ⊢
  rw [hle, show ptrE (some e) = .pointer (some ⟨e.b, 0, none⟩) from rfl]
  clear hG hT IH hs ho hrf hnm hf hfe hle hrt hko
  go_enter Tryz.func80, Tryz.ntmps80
  go_wp2_with (go_at_call 104; refine HC.out.mono ?_; rintro ee w1 ⟨u, r, rfl, hu, hr, hb, hx⟩)
  go_ret3
  exact ⟨u, r, rfl, hu, hr, hb, hx⟩
 ·have HC := Lib.hid (i_readNumber s w (by omega))
  rw [← readF_n (tys es) n s, ho] at HC
  rw [ho]
  have e1 : at_ [110] 0 = 110 := rfl
  obtain ⟨q, hq⟩ : ∃ q, ptrE (leadE es [110]) = q := ⟨_, rfl⟩
  rw [hq]
  clear hG hT IH hs ho hrf hko hq
  go_enter Tryz.func80, Tryz.ntmps80
  go_wp2_with (go_at_call 99; refine HC.out.mono ?_; rintro ee w1 ⟨u, r, rfl, hu, hr, hb, hx⟩)
  go_ret3
  exact ⟨u, r, rfl, hu, hr, hb, hx⟩
 ·have HC := Lib.hid (i_readText s w (by omega))
  rw [← readF_t (tys es) n s, ho] at HC
  rw [ho]
  have e1 : at_ [116] 0 = 116 := rfl
  obtain ⟨q, hq⟩ : ∃ q, ptrE (leadE es [116]) = q := ⟨_, rfl⟩
  rw [hq]
  clear hG hT IH hs ho hrf hko hq
  go_enter Tryz.func80, Tryz.ntmps80
  go_wp2_with (go_at_call 100; refine HC.out.mono ?_; rintro ee w1 ⟨u, r, rfl, hu, hr, hb, hx⟩)
  go_ret3
  exact ⟨u, r, rfl, hu, hr, hb, hx⟩
 ·have HC := Lib.hid (i_readFlag s w (by omega))
  rw [← readF_f (tys es) n s, ho] at HC
  rw [ho]
  have e1 : at_ [102] 0 = 102 := rfl
  obtain ⟨q, hq⟩ : ∃ q, ptrE (leadE es [102]) = q := ⟨_, rfl⟩
  rw [hq]
  clear hG hT IH hs ho hrf hko hq
  go_enter Tryz.func80, Tryz.ntmps80
  go_wp2_with (go_at_call 101; refine HC.out.mono ?_; rintro ee w1 ⟨u, r, rfl, hu, hr, hb, hx⟩)
  go_ret3
  exact ⟨u, r, rfl, hu, hr, hb, hx⟩
theorem i_readAll {es : List Ent} (hs : Sound es) (B n : Nat) (hn : n ≤ 1000000) : IRd es B n := by
 induction n with
 | zero => intro k s w _ _ _ _ h; omega
 | succ n ih => exact i_readOne hs B n (by omega) (ih (by omega))
def RetW (w : World) (o : Option V) (e : Ending) (w' : World) : Prop := ∃ u, e = .returned (.tuple #[u, .bool o.isSome]) ∧ (o = none → u = .nilIface) ∧ Below w.heap.size w w' ∧ (∀ x, o = some x → PAt w' (fun b => w.heap.size ≤ b) x u)
theorem RetW.no {w w' : World} {o : Option V} (h : o = none) (hb : Below w.heap.size w w') : RetW w o (.returned (.tuple #[.nilIface, .bool false])) w' := ⟨.nilIface, by rw [h]; rfl, fun _ => rfl, hb, by rw [h]; intro x hx; cases hx⟩
theorem i_readWhole {es : List Ent} (hs : Sound es) (B : Nat) (k s : Bs) (w : World) (hG : Graph w B es) (hT : Tab w) (hko : kOk k = true) (hrf : ∀ m ∈ kRefs k, (findE es m).isSome = true) (hl : s.length ≤ 2000000) :
  Calls Tryz.prog 55 #[.string (S k), ptrE (leadE es k), .string (S s)] w (RetW w (wholeP (tys es) k s)) := by
 obtain ⟨q, hq⟩ : ∃ q, ptrE (leadE es k) = q := ⟨_, rfl⟩
 obtain ⟨O, hO⟩ : ∃ O, wholeP (tys es) k s = O := ⟨_, rfl⟩
 rw [hO]
 by_cases h400 : s.length ≤ 400
 ·have HC := Lib.hid (i_readAll hs B (s.length + 13) (by omega) k s w hG hT hko hrf (by omega))
  rw [hq] at HC ⊢
  obtain ⟨o, ho⟩ : ∃ o, readF (tys es) (s.length + 13) s k = o := ⟨_, rfl⟩
  have HNO := Lib.hid (fun (h : o = none) => (by rw [← hO]; exact whole_none (by rw [ho, h]) : O = none))
  have HRS := Lib.hid (fun x (h : o = some x) (h2 : x.2 ≠ [] ∨ 12 < deepV x.1) => (by rw [← hO]; exact whole_rest (by rw [ho, h]) h2 : O = none))
  have HYS := Lib.hid (fun x (h : o = some x) (h2 : x.2 = []) (h3 : deepV x.1 ≤ 12) => (by rw [← hO]; exact whole_yes h400 (by rw [ho, h]) h2 h3 : O = some x.1))
  have HLN := Lib.hid (fun x (h : o = some x) => (by have := readF_len (by rw [ho, h] : readF (tys es) (s.length + 13) s k = some x); omega : (outV x.1).length ≤ 1000000))
  rw [ho] at HC
  have h4 : ¬ (400 < (s.length : Int)) := by omega
  clear ho hO hs hG hT hko hrf hq
  go_enter Tryz.func55, Tryz.ntmps55
  go_wp2_with fail
  refine HC.out.mono ?_
  rintro ee w1 ⟨u, r, rfl, hu, hr, hb, hx⟩
  cases o with
  | none =>
   have HN := Lib.hid (HNO.out rfl)
   clear hx HNO HRS HYS HLN
   go_wp2_with fail
   go_ret2
   exact RetW.no HN.out hb
  | some x =>
   obtain ⟨rfl, hpx⟩ := hx x rfl
   by_cases hr0 : x.2 = []
   ·have HD := Lib.hid (i_deepOf x.1 u _ w1 hpx (HLN.out x rfl))
    have HX := Lib.hid hpx
    have HR0 := Lib.hid hr0
    obtain ⟨d, hd⟩ : ∃ d, deepV x.1 = d := ⟨_, rfl⟩
    rw [hd] at HD
    rw [hr0]
    have hdx := HLN.out x rfl
    by_cases h12 : d ≤ 12
    ·have HY := Lib.hid (HYS.out x rfl hr0 (by omega))
     have hd2 : ¬ (12 < (d : Int)) := by omega
     clear hx HNO HRS HYS HLN hpx hr0 hd hr
     go_wp2_with (go_at_call 48; refine HD.out.mono ?_; rintro e w' ⟨rfl, hb2⟩)
     go_ret2
     refine ⟨u, by rw [HY.out]; rfl, (by intro h; rw [HY.out] at h; cases h), below_trans hb hb2, ?_⟩
     intro z hz
     rw [HY.out] at hz
     injection hz with hz
     subst hz
     exact HX.out.belowed hb2
    ·have HN := Lib.hid (HRS.out x rfl (.inr (by omega)))
     have hd2 : (12 < (d : Int)) := by omega
     clear hx HNO HRS HYS HLN hpx hr0 hd hr
     go_wp2_with (go_at_call 48; refine HD.out.mono ?_; rintro e w' ⟨rfl, hb2⟩)
     go_ret2
     exact RetW.no HN.out (below_trans hb hb2)
   ·have HN := Lib.hid (HRS.out x rfl (.inl hr0))
    have hr1 : (x.2 != []) = true := by simpa using hr0
    clear hx HNO HRS HYS HLN hpx
    go_wp2_with fail
    go_ret2
    exact RetW.no HN.out hb
 ·have HN := Lib.hid (show O = none by rw [← hO]; exact whole_long h400)
  rw [hq]
  have h4 : (400 < (s.length : Int)) := by omega
  clear hO hs hG hT hko hrf hq
  go_enter Tryz.func55, Tryz.ntmps55
  go_wp2_with fail
  go_ret2
  exact RetW.no HN.out (Below.refl _ _)
def valP (l k s : Bs) : Option V := match kindS l k with | none => none | some X => wholeP X k s
theorem valP_no {l k s : Bs} (h : kindS l k = none) : valP l k s = none := by unfold valP; rw [h]
theorem valP_on {l k s : Bs} {X : List Ty} (h : kindS l k = some X) : valP l k s = wholeP X k s := by unfold valP; rw [h]
def RetVal (w : World) (l k s : Bs) (e : Ending) (w' : World) : Prop := Below w.heap.size w w' ∧
  ((valP l k s = none ∧ ∃ q, e = .returned (.tuple #[.nilIface, .pointer q, .bool false])) ∨
   ∃ es x u, ofS l = some (tys es) ∧ kindS l k = some (tys es) ∧ wholeP (tys es) k s = some x ∧ Sound es ∧ Graph w' w.heap.size es ∧ PAt w' (fun b => w.heap.size ≤ b) x u ∧ kOk k = true ∧ (∀ m ∈ kRefs k, (findE es m).isSome = true) ∧
     e = .returned (.tuple #[u, ptrE (leadE es k), .bool true]))
theorem i_findValue (l k s : Bs) (w : World) (hl : l.length ≤ 2000000) (hk : k.length ≤ 2000000) (hs : s.length ≤ 2000000) (hT : Tab w) :
  Calls Tryz.prog 39 #[.string (S l), .string (S k), .string (S s)] w (RetVal w l k s) := by
 have HC := Lib.hid (i_findKind l k w (by omega) hk)
 have HT := Lib.hid hT
 clear hT
 go_enter Tryz.func39, Tryz.ntmps39
 go_wp2_with fail
 refine HC.out.mono ?_
 rintro ee w1 ⟨hb1, ⟨hn, q, rfl⟩ | ⟨es, hof, hks, hg, hG, hko, hrf, rfl⟩⟩
 ·have HN := Lib.hid (valP_no (s := s) hn)
  clear hn
  go_wp2_with fail
  go_ret3
  exact ⟨hb1, .inl ⟨HN.out, none, rfl⟩⟩
 ·have hsd := sound_of hof hg
  have HW := Lib.hid (i_readWhole hsd w.heap.size k s w1 hG (HT.out.below hb1) hko hrf hs)
  obtain ⟨o, ho⟩ : ∃ o, wholeP (tys es) k s = o := ⟨_, rfl⟩
  rw [ho] at HW
  have HO := Lib.hid ho
  have HOF := Lib.hid hof; have HKS := Lib.hid hks; have HSD := Lib.hid hsd; have HG := Lib.hid hG; have HKO := Lib.hid hko; have HRF := Lib.hid hrf
  obtain ⟨qa, hqa⟩ : ∃ qa, ptrE (leadE es k) = .pointer qa := ⟨_, rfl⟩
  rw [hqa] at HW ⊢
  have HQA := Lib.hid hqa
  clear ho hof hks hsd hG hko hrf hg hqa
  go_wp2_with fail
  refine HW.out.mono ?_
  rintro ee w2 ⟨u, rfl, hu, hb2, hx⟩
  cases o with
  | none =>
   have HN := Lib.hid (show valP l k s = none by rw [valP_on HKS.out, HO.out])
   obtain rfl := hu rfl
   clear hx
   go_wp2_with fail
   go_ret3
   exact ⟨below_trans hb1 hb2, .inl ⟨HN.out, qa, rfl⟩⟩
  | some x =>
   have HX := Lib.hid (hx x rfl)
   clear hx
   go_wp2_with fail
   go_ret3
   refine ⟨below_trans hb1 hb2, .inr ⟨es, x, u, HOF.out, HKS.out, HO.out, HSD.out, HG.out.below hb2, HX.out.imp (by intro b _ h; have := hb1.size; omega), HKO.out, HRF.out, ?_⟩⟩
   rw [HQA.out]; rfl
end Go.Proofs.YtcjooeklehggaaaGreatDoor
