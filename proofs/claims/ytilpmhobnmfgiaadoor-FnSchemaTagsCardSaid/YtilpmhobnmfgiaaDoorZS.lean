/- Lemmas that the laws of this seat use, texts laid behind one another: W3e. -/
import Derived.Test.YtilpmhobnmfgiaaDoorZN
import Derived.Test.YtilpmhobnmfgiaaDoorZO
set_option linter.unusedVariables false
set_option linter.unusedSimpArgs false
/-! The law on tags of chapter 3 over drawn schemas. -/
namespace Go.Proofs.YtilpmhobnmfgiaaDoor
open Go.ChangeShapes Go.WideShapes Go.ChangeAt Go.RowKit M

/-- What is known of the tags of a type. -/
theorem tags_known {l n : Bs} {t : Ty} (h : findV l n = some t) (k : Nat) (hk : k < (tagsV (some t)).length) :
    1 ≤ (tagsV (some t))[k] ∧ (tagsV (some t))[k] ≤ 200 ∧ (fldP l n (tagsV (some t))[k]).isSome = true ∧ (∀ j (hj : j < (tagsV (some t)).length), j < k → (tagsV (some t))[j] < (tagsV (some t))[k]) := by
  obtain ⟨X, hX, ht⟩ := findV_mem h
  have hl : (tagsV (some t)).length = t.fields.length := by unfold tagsV; simp
  have hkf : k < t.fields.length := by omega
  have e : ∀ j (hj : j < (tagsV (some t)).length), (tagsV (some t))[j] = (t.fields[j]'(by omega)).tag := by
    intro j hj; exact List.getElem_map _
  have hg := (ofS_some hX).1 t ht
  have hgf := hg.2.2.2.2 _ (List.getElem_mem hkf)
  have hasc := ofS_asc hX t ht
  refine ⟨by rw [e k hk]; exact hgf.1, by rw [e k hk]; exact hgf.2.1, ?_, ?_⟩
  · rw [fldP_on hX h, e k hk]
    have hf : ∃ f, fieldV t (t.fields[k]).tag = some f := by
      cases hh : fieldV t (t.fields[k]).tag with
      | some f => exact ⟨f, rfl⟩
      | none =>
        unfold fieldV at hh
        have := List.find?_eq_none.1 hh _ (List.getElem_mem hkf)
        simp at this
    obtain ⟨f, hf⟩ := hf
    rw [hf]
    simp only
    split <;> rfl
  · intro j hj hjk
    rw [e j hj, e k hk]
    exact List.pairwise_iff_getElem.1 hasc j k (by omega) hkf hjk
set_option maxRecDepth 100000 in
set_option maxHeartbeats 2000000 in
theorem walk_FnSchemaTags (a0 : Option Addr) (len0 cap0 : Nat) (z0 : List Int) (w : World) (h0 : IsRow .u8 w a0 len0 cap0 z0) (hT : Tab w) :
    Calls Tryd.prog 6 #[.slice a0 len0 cap0] w fun e w' => e = .returned (.bool true) ∧ Below w.heap.size w w' := by
  have H := Lib.hid h0; clear h0
  have HTB := Lib.hid hT; clear hT
  by_cases hl : len0 ≤ 1048576
  case neg =>
    go_enter Tryd.func6, Tryd.ntmps6
    go_wp2_with fail
    go_ret
    exact ⟨rfl, by (repeat (first | exact Below.refl _ _ | apply below_drew | apply below_draws | apply below_alloc | (refine below_trans ?_ (by assumption)) | (refine Below.trans ?_ (by assumption))))⟩
  go_enter Tryd.func6, Tryd.ntmps6
  go_wp2_with fail
  refine (d_DrawSchemaTags H.out).mono ?_
  rintro e w1 ⟨l, n, rfl, hl2, hn2, hb1⟩
  have HI := Lib.hid (fun w => i_SchemaTags l n w (by omega) (by omega))
  have HS := Lib.hid (fun w => k_SchemaTags l n w (by omega))
  rw [tagsL_V, show (findS l n).isSome = (findV l n).isSome from rfl] at HS
  have HF := Lib.hid (fun (tag : Int) (w' : World) (hb : Below w.heap.size w w') => i_SchemaField l n tag w' (by omega) (by omega) (HTB.out.below hb))
  have hL8 := tagsV_len l n
  obtain ⟨o, ho⟩ : ∃ o, findV l n = o := ⟨_, rfl⟩
  rw [ho] at HI HS hL8
  have HO := Lib.hid ho; clear ho
  obtain ⟨T, hTT⟩ : ∃ T, tagsV o = T := ⟨_, rfl⟩
  have HKN := Lib.hid (fun (k : Nat) (hk : k < T.length) (t : Ty) (e : o = some t) => show 1 ≤ T[k] ∧ T[k] ≤ 200 ∧ (fldP l n T[k]).isSome = true ∧ (∀ j (hj : j < T.length), j < k → T[j] < T[k]) from by
    subst e; subst hTT; exact tags_known HO.out k hk)
  rw [hTT] at HI HS hL8
  have HTT := Lib.hid hTT
  obtain ⟨m, hm⟩ : ∃ m, T.length = m := ⟨_, rfl⟩
  rw [hm] at hL8
  have HM := Lib.hid hm
  clear hTT hm
  go_wp2_with fail
  refine (HI.out _).mono ?_
  rintro e w2 ⟨v, rfl, hv, hb2⟩
  have HV2 := Lib.hid hv; clear hv
  go_wp2_with fail
  refine (HS.out _).mono ?_
  rintro e w3 ⟨v', rfl, hv', hb3⟩
  have HV3 := Lib.hid (HV2.out.below hb3)
  have HVP := Lib.hid hv'; clear hv'
  go_wp2_with fail
  refine (wfInts v v' T _ _ _ HV3.out HVP.out (by rw [HM.out]; omega)).mono ?_
  rintro e w4 ⟨rfl, hb4⟩
  have HV4 := Lib.hid (HV3.out.below hb4)
  have hb : Below w.heap.size w w4 := by (repeat (first | exact Below.refl _ _ | apply below_drew | apply below_draws | apply below_alloc | (refine below_trans ?_ (by assumption)) | (refine Below.trans ?_ (by assumption))))
  clear hb1 hb2 hb3 hb4 HI HS HV2 HV3 HVP
  cases o with
  | none =>
    go_wp2_with fail
    go_ret
    exact ⟨rfl, hb⟩
  | some t =>
    obtain ⟨ao, cap, rfl, hc, hf⟩ := HV4.out.form
    have HFO := Lib.hid hf
    rw [HM.out] at HV4 hc ⊢
    clear hf
    have HB := Lib.hid hb; clear hb
    go_wp2_with fail
    go_loopw [10] (fun i wr => ∃ k : Nat, k ≤ m ∧ i = .int .i64 k ∧ Hid (Below w4.heap.size w4 wr)) (fun i _ => m - (intOf i).toNat)
    case atStart => exact ⟨0, by omega, rfl, Below.refl _ _⟩
    case round =>
      obtain ⟨k, hk, rfl, hbr⟩ := hrel
      by_cases hkm : k < m
      · obtain ⟨g, rfl⟩ : ∃ g, ao = some ⟨g, 0, none⟩ := by
          rcases HFO.out with ⟨_, h0⟩ | ⟨g, h0, -⟩
          · have h1 := HM.out; rw [h0] at h1; simp at h1; omega
          · exact ⟨g, h0⟩
        have hkL : k < T.length := by rw [HM.out]; exact hkm
        have c1 := (HV4.out.below hbr.out).cell k hkL
        rw [List.getD_eq_getElem?_getD, List.getElem?_eq_getElem hkL, Option.getD_some] at c1
        obtain ⟨q1, q2, q3, q4⟩ := HKN.out k hkL t rfl
        obtain ⟨x, hx⟩ : ∃ x, T[k] = x := ⟨_, rfl⟩
        rw [hx] at c1 q1 q2 q3
        have HX := Lib.hid hx
        have HQ4 := Lib.hid q4
        have hbw := HB.out.trans (hbr.out.mono HB.out.size)
        have HF2 := Lib.hid (HF.out x wr hbw)
        rw [q3] at HF2
        clear q3 q4 hx hbw
        go_wp2_with fail
        refine HF2.out.mono ?_
        rintro e w5 ⟨rfl, hb5⟩
        have HB5 := Lib.hid (hbr.out.trans (hb5.mono hbr.out.size))
        have c2 : w5.cell? ⟨g, k, none⟩ = some (.int .i64 x) := by
          have := (HV4.out.below HB5.out).cell k hkL
          rw [List.getD_eq_getElem?_getD, List.getElem?_eq_getElem hkL, Option.getD_some, HX.out] at this
          exact this
        clear c1
        by_cases hk0 : 0 < k
        · have hj : k - 1 < T.length := by rw [HM.out]; omega
          have hlt := HQ4.out (k - 1) hj (by omega)
          rw [HX.out] at hlt
          have c3 : w5.cell? ⟨g, k - 1, none⟩ = some (.int .i64 T[k - 1]) := by
            have := (HV4.out.below HB5.out).cell (k - 1) hj
            rw [List.getD_eq_getElem?_getD, List.getElem?_eq_getElem hj, Option.getD_some] at this
            exact this
          obtain ⟨y, hy⟩ : ∃ y, T[k - 1] = y := ⟨_, rfl⟩
          rw [hy] at hlt c3
          obtain ⟨k', rfl⟩ : ∃ k', k = k' + 1 := ⟨k - 1, by omega⟩
          simp only [Nat.add_sub_cancel] at c3
          clear hy
          have d3 : IntKind.i64.wrap ((k' : Int) + 1 - 1) = (k' : Int) := by rw [Int.add_sub_cancel]; exact IntWalk.i64_in _ (by omega)
          have hd0 : decide ((0 : Int) < (k' : Int) + 1) = true := decide_eq_true (by omega)
          have hd3 : decide (x ≤ y) = false := decide_eq_false (by omega)
          have hi1 : (k' : Int) < (m : Int) := by omega
          have hi2 : (k' : Int) + 1 < (m : Int) := by omega
          have hd1 : decide (x < 1) = false := decide_eq_false (by omega)
          have hd2 : decide (200 < x) = false := decide_eq_false (by omega)
          go_wp2_with fail
          go_quiet (fail)
          go_wp2_with fail
          go_roundw
          case rel => exact ⟨k' + 1 + 1, by omega, by go_num, below_draws HB5.out _⟩
          case measure => simp [intOf]; omega
        · obtain rfl : k = 0 := by omega
          clear hk0
          have hd1 : decide (x < 1) = false := decide_eq_false (by omega)
          have hd2 : decide (200 < x) = false := decide_eq_false (by omega)
          go_wp2_with fail
          go_quiet (fail)
          go_wp2_with fail
          go_roundw
          case rel => exact ⟨1, by omega, by go_num, below_draws HB5.out _⟩
          case measure => simp [intOf]; omega
      · go_wp2_with fail
        go_ret
        exact ⟨rfl, HB.out.trans (hbr.out.mono HB.out.size)⟩
end Go.Proofs.YtilpmhobnmfgiaaDoor
