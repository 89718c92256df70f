/- Lemmas that the laws of this seat use, texts laid behind one another: W3c. -/
import Derived.Test.YtilpmhobnmfgiaaDoorZK
import Derived.Test.YtilpmhobnmfgiaaDoorZM
import Derived.Test.YtilpmhobnmfgiaaDoorZR
set_option linter.unusedVariables false
set_option linter.unusedSimpArgs false
/-! The laws of chapter 3 over drawn schemas. -/
namespace Go.Proofs.YtilpmhobnmfgiaaDoor
open Go.ChangeShapes Go.WideShapes Go.ChangeAt Go.RowKit M

theorem typesV_nodup (l : Bs) : (typesV (ofS l)).Nodup := by
  unfold typesV
  cases h : ofS l with
  | none => simp
  | some X => exact names_nodup h
set_option maxHeartbeats 2000000 in
theorem walk_FnSchemaOk (a0 : Option Addr) (len0 cap0 : Nat) (z0 : List Int) (w : World) (h0 : IsRow .u8 w a0 len0 cap0 z0) :
    Calls Tryd.prog 3 #[.slice a0 len0 cap0] w fun e w' => e = .returned (.bool true) ∧ Below w.heap.size w w' := by
  have H := Lib.hid h0; clear h0
  by_cases hl : len0 ≤ 1048576
  case neg =>
    go_enter Tryd.func3, Tryd.ntmps3
    go_wp2_with fail
    go_ret
    exact ⟨rfl, by (repeat (first | exact Below.refl _ _ | apply below_drew | apply below_draws | apply below_alloc | (refine below_trans ?_ (by assumption)) | (refine Below.trans ?_ (by assumption))))⟩
  go_enter Tryd.func3, Tryd.ntmps3
  go_wp2_with fail
  refine (d_DrawSchemaOk H.out).mono ?_
  rintro e w1 ⟨l, rfl, hl2, hb1⟩
  have HI := Lib.hid (fun w => i_SchemaOk l w (by omega))
  have HS := Lib.hid (fun w => k_SchemaOk l w (by omega))
  have HT := Lib.hid (fun w => i_SchemaTypes l w (by omega))
  have hL8 := typesV_len l
  have HND := Lib.hid (typesV_nodup l)
  generalize typesV (ofS l) = L at *
  generalize (ofS l).isSome = b at *
  obtain ⟨m, hm⟩ : ∃ m, L.length = m := ⟨_, rfl⟩
  rw [hm] at hL8
  have HM := Lib.hid hm; clear hm
  go_wp2_with fail
  refine (HI.out _).mono ?_
  rintro e w2 ⟨rfl, hb2⟩
  go_wp2_with fail
  refine (HS.out _).mono ?_
  rintro e w3 ⟨rfl, hb3⟩
  go_wp2_with fail
  refine (HT.out _).mono ?_
  rintro e w4 ⟨v, rfl, hv, hb4⟩
  have hb : Below w.heap.size w w4 := by (repeat (first | exact Below.refl _ _ | apply below_drew | apply below_draws | apply below_alloc | (refine below_trans ?_ (by assumption)) | (refine Below.trans ?_ (by assumption))))
  obtain ⟨ao, cap, rfl, hc, hf⟩ := hv.form
  have HV := Lib.hid hv; have HF := Lib.hid hf
  rw [HM.out] at HV hc ⊢
  clear hv hf hb1 hb2 hb3 hb4 HI HS HT
  go_wp2_with fail
  go_loopw [9] (fun i wr => ∃ (k q : Nat), k ≤ m ∧ i = .int .i64 k ∧ wr = w4.drewN q) (fun i _ => m - (intOf i).toNat)
  case atStart => exact ⟨0, 0, by omega, rfl, rfl⟩
  case round =>
    obtain ⟨k, q, hk, rfl, rfl⟩ := hrel
    by_cases hkm : k < m
    · go_wp2_with fail
      go_loopw [10] (fun i wr => ∃ (j q : Nat), j ≤ k ∧ i = .int .i64 j ∧ wr = w4.drewN q) (fun i _ => k - (intOf i).toNat)
      case atStart => exact ⟨0, q, by omega, rfl, rfl⟩
      case round =>
        obtain ⟨j, q2, hj, rfl, rfl⟩ := hrel
        by_cases hjk : j < k
        · obtain ⟨g, rfl⟩ : ∃ g, ao = some ⟨g, 0, none⟩ := by
            rcases HF.out with ⟨_, h0⟩ | ⟨g, h0, -⟩
            · have h1 := HM.out; rw [h0] at h1; simp at h1; omega
            · exact ⟨g, h0⟩
          have c1 := HV.out.cell k (by rw [HM.out]; exact hkm)
          have c2 := HV.out.cell j (by rw [HM.out]; omega)
          have hne : (L.getD k [] == L.getD j []) = false := by
            have h1 : k < L.length := by rw [HM.out]; exact hkm
            have h2 : j < L.length := by rw [HM.out]; omega
            rw [beq_eq_false_iff_ne, List.getD_eq_getElem?_getD, List.getD_eq_getElem?_getD, List.getElem?_eq_getElem h1, List.getElem?_eq_getElem h2]
            intro e
            have := (List.getElem_inj (h₀ := h1) (h₁ := h2) HND.out).1 (by simpa using e)
            omega
          generalize L.getD k [] = x at c1 hne
          generalize L.getD j [] = y at c2 hne
          go_wp2_with fail
          go_quiet (fail)
          go_wp2_with fail
          go_roundw
          case rel => exact ⟨j + 1, _, by omega, by go_num, rfl⟩
          case measure => simp [intOf]; omega
        · go_wp2_with fail
          go_roundw
          case rel => exact ⟨k + 1, _, by omega, by go_num, rfl⟩
          case measure => simp [intOf]; omega
    · go_wp2_with fail
      go_ret
      exact ⟨by simp; omega, below_drewN hb _⟩
set_option maxHeartbeats 2000000 in
theorem walk_FnSchemaTypes (a0 : Option Addr) (len0 cap0 : Nat) (z0 : List Int) (w : World) (h0 : IsRow .u8 w a0 len0 cap0 z0) :
    Calls Tryd.prog 4 #[.slice a0 len0 cap0] w fun e w' => e = .returned (.bool true) ∧ Below w.heap.size w w' := by
  have H := Lib.hid h0; clear h0
  by_cases hl : len0 ≤ 1048576
  case neg =>
    go_enter Tryd.func4, Tryd.ntmps4
    go_wp2_with fail
    go_ret
    exact ⟨rfl, by (repeat (first | exact Below.refl _ _ | apply below_drew | apply below_draws | apply below_alloc | (refine below_trans ?_ (by assumption)) | (refine Below.trans ?_ (by assumption))))⟩
  go_enter Tryd.func4, Tryd.ntmps4
  go_wp2_with fail
  refine (d_DrawSchemaTypes H.out).mono ?_
  rintro e w1 ⟨l, rfl, hl2, hb1⟩
  have HI := Lib.hid (fun w => i_SchemaTypes l w (by omega))
  have HS := Lib.hid (fun w => k_SchemaTypes l w (by omega))
  rw [typesL_V] at HS
  have HS1 := Lib.hid (fun (n : Bs) (hn : n.length ≤ 1000) (w : World) => i_SchemaSort l n w (by omega) (by omega))
  have HT1 := Lib.hid (fun (n : Bs) (hn : n.length ≤ 1000) (w : World) => i_SchemaTags l n w (by omega) (by omega))
  have hL8 := typesV_len l
  obtain ⟨L, hLL⟩ : ∃ L, typesV (ofS l) = L := ⟨_, rfl⟩
  obtain ⟨b, hbb⟩ : ∃ b, (ofS l).isSome = b := ⟨_, rfl⟩
  have HAT := Lib.hid (fun (k : Nat) (hk : k < L.length) => show L[k].length ≤ 1000 ∧ (findV l L[k]).isSome = true from by
    cases ho : ofS l with
    | none => rw [ho] at hLL; unfold typesV at hLL; simp at hLL; subst hLL; simp at hk
    | some X =>
      rw [ho] at hLL
      have hL2 : X.map (·.name) = L := hLL
      subst hL2
      have hkX : k < X.length := by simpa using hk
      rw [List.getElem_map]
      have hg := (ofS_some ho).1 _ (List.getElem_mem hkX)
      exact ⟨by have := isName_len hg.2.1; omega, by rw [findV_names ho k hkX]; rfl⟩)
  rw [hLL] at HI HS hL8
  rw [hbb] at HI HS
  obtain ⟨m, hm⟩ : ∃ m, L.length = m := ⟨_, rfl⟩
  rw [hm] at hL8
  have HM := Lib.hid hm
  clear hLL hbb hm
  go_wp2_with fail
  refine (HI.out _).mono ?_
  rintro e w2 ⟨v, rfl, hv, hb2⟩
  have HV2 := Lib.hid hv; clear hv
  go_wp2_with fail
  refine (HS.out _).mono ?_
  rintro e w3 ⟨v', rfl, hv', hb3⟩
  have HV3 := Lib.hid (HV2.out.below hb3)
  have HVP := Lib.hid hv'; clear hv'
  go_wp2_with fail
  refine (wfTexts v v' L _ _ _ HV3.out HVP.out (by rw [HM.out]; omega)).mono ?_
  rintro e w4 ⟨rfl, hb4⟩
  have HV4 := Lib.hid (HV3.out.below hb4)
  have hb : Below w.heap.size w w4 := by (repeat (first | exact Below.refl _ _ | apply below_drew | apply below_draws | apply below_alloc | (refine below_trans ?_ (by assumption)) | (refine Below.trans ?_ (by assumption))))
  clear hb1 hb2 hb3 hb4 HI HS HV2 HV3 HVP
  cases b with
  | false =>
    go_wp2_with fail
    go_ret
    exact ⟨rfl, hb⟩
  | true =>
    obtain ⟨ao, cap, rfl, hc, hf⟩ := HV4.out.form
    have HF := Lib.hid hf
    rw [HM.out] at HV4 hc ⊢
    clear hf
    have HB := Lib.hid hb; clear hb
    go_wp2_with fail
    go_loopw [9] (fun i wr => ∃ k : Nat, k ≤ m ∧ i = .int .i64 k ∧ Hid (Below w4.heap.size w4 wr)) (fun i _ => m - (intOf i).toNat)
    case atStart => exact ⟨0, by omega, rfl, Below.refl _ _⟩
    case round =>
      obtain ⟨k, hk, rfl, hbr⟩ := hrel
      by_cases hkm : k < m
      · obtain ⟨g, rfl⟩ : ∃ g, ao = some ⟨g, 0, none⟩ := by
          rcases HF.out with ⟨_, h0⟩ | ⟨g, h0, -⟩
          · have h1 := HM.out; rw [h0] at h1; simp at h1; omega
          · exact ⟨g, h0⟩
        have hkL : k < L.length := by rw [HM.out]; exact hkm
        have c1 := (HV4.out.below hbr.out).cell k hkL
        obtain ⟨q1, q2⟩ := HAT.out k hkL
        rw [List.getD_eq_getElem?_getD, List.getElem?_eq_getElem hkL, Option.getD_some] at c1
        obtain ⟨x, hx⟩ : ∃ x, L[k] = x := ⟨_, rfl⟩
        rw [hx] at c1 q1 q2
        have HS2 := Lib.hid (HS1.out x q1)
        have HT2 := Lib.hid (HT1.out x q1)
        rw [q2] at HS2 HT2
        have HX := Lib.hid hx; clear hx q2
        go_wp2_with fail
        refine (HS2.out _).mono ?_
        rintro e w5 ⟨rfl, hb5⟩
        have HB5 := Lib.hid (hbr.out.trans (hb5.mono hbr.out.size))
        have c2 : w5.cell? ⟨g, k, none⟩ = some (.string (S x)) := by
          have := (HV4.out.below HB5.out).cell k hkL
          rw [List.getD_eq_getElem?_getD, List.getElem?_eq_getElem hkL, Option.getD_some, HX.out] at this
          exact this
        clear c1
        go_wp2_with fail
        refine (HT2.out _).mono ?_
        rintro e w6 ⟨v6, rfl, hv6, hb6⟩
        obtain ⟨a6, cp6, rfl, -, -⟩ := hv6.form
        have HB6 := Lib.hid (HB5.out.trans (hb6.mono HB5.out.size))
        clear hv6
        go_wp2_with fail
        go_roundw
        case rel => exact ⟨k + 1, by omega, by go_num, HB6.out⟩
        case measure => simp [intOf]; omega
      · go_wp2_with fail
        go_ret
        exact ⟨rfl, HB.out.trans (hbr.out.mono HB.out.size)⟩
set_option maxHeartbeats 2000000 in
theorem walk_FnSchemaSort (a0 : Option Addr) (len0 cap0 : Nat) (z0 : List Int) (w : World) (h0 : IsRow .u8 w a0 len0 cap0 z0) :
    Calls Tryd.prog 5 #[.slice a0 len0 cap0] w fun e w' => e = .returned (.bool true) ∧ Below w.heap.size w w' := by
  have H := Lib.hid h0; clear h0
  by_cases hl : len0 ≤ 1048576
  case neg =>
    go_enter Tryd.func5, Tryd.ntmps5
    go_wp2_with fail
    go_ret
    exact ⟨rfl, by (repeat (first | exact Below.refl _ _ | apply below_drew | apply below_draws | apply below_alloc | (refine below_trans ?_ (by assumption)) | (refine Below.trans ?_ (by assumption))))⟩
  go_enter Tryd.func5, Tryd.ntmps5
  go_wp2_with fail
  refine (d_DrawSchemaSort H.out).mono ?_
  rintro e w1 ⟨l, n, rfl, hl2, hn2, hb1⟩
  have HI := Lib.hid (fun w => i_SchemaSort l n w (by omega) (by omega))
  have HS := Lib.hid (fun w => k_SchemaSort l n w (by omega))
  rw [sortS_V, show (findS l n).isSome = (findV l n).isSome from rfl] at HS
  have HT := Lib.hid (fun w => i_SchemaTags l n w (by omega) (by omega))
  obtain ⟨o, ho⟩ : ∃ o, findV l n = o := ⟨_, rfl⟩
  rw [ho] at HI HS HT
  have HO := Lib.hid ho; clear ho
  cases o with
  | none =>
    go_wp2_with fail
    refine (HI.out _).mono ?_
    rintro e w2 ⟨rfl, hb2⟩
    go_wp2_with fail
    refine (HS.out _).mono ?_
    rintro e w3 ⟨rfl, hb3⟩
    go_wp2_with fail
    go_ret
    exact ⟨rfl, by (repeat (first | exact Below.refl _ _ | apply below_drew | apply below_draws | apply below_alloc | (refine below_trans ?_ (by assumption)) | (refine Below.trans ?_ (by assumption))))⟩
  | some t =>
    obtain ⟨X, hX, ht⟩ := findV_mem HO.out
    have hg := (ofS_some hX).1 t ht
    have hs3 : sortV (some t) = [82] ∨ ((sortV (some t) = [85] ∨ sortV (some t) = [69]) ∧ 0 < t.fields.length) := by
      have h1 := hg.1
      unfold isSort at h1
      simp at h1
      rcases h1 with (h1 | h1) | h1
      · left; show [B8 t.sort] = [82]; rw [h1]; rfl
      · right; exact ⟨.inl (by show [B8 t.sort] = [85]; rw [h1]; rfl), List.length_pos_iff.2 (hg.2.2.2.1 (by omega))⟩
      · right; exact ⟨.inr (by show [B8 t.sort] = [69]; rw [h1]; rfl), List.length_pos_iff.2 (hg.2.2.2.1 (by omega))⟩
    have htl : (tagsV (some t)).length = t.fields.length := by unfold tagsV; simp
    obtain ⟨s, hs⟩ : ∃ s, sortV (some t) = s := ⟨_, rfl⟩
    obtain ⟨T, hT⟩ : ∃ T, tagsV (some t) = T := ⟨_, rfl⟩
    rw [hs] at hs3 HI HS
    rw [hT] at HT htl
    rw [← htl] at hs3
    clear hs hT htl hg hX ht HO
    rcases hs3 with rfl | ⟨rfl | rfl, hpos⟩
    all_goals
      go_wp2_with fail
      refine (HI.out _).mono ?_
      rintro e w2 ⟨rfl, hb2⟩
      go_wp2_with fail
      refine (HS.out _).mono ?_
      rintro e w3 ⟨rfl, hb3⟩
      go_wp2_with fail
      refine (HT.out _).mono ?_
      rintro e w4 ⟨v4, rfl, hv4, hb4⟩
      obtain ⟨a4, c4, rfl, -, -⟩ := hv4.form
      clear hv4
      go_wp2_with fail
      go_ret
      exact ⟨by first | rfl | (simp; omega), by (repeat (first | exact Below.refl _ _ | apply below_drew | apply below_draws | apply below_alloc | (refine below_trans ?_ (by assumption)) | (refine Below.trans ?_ (by assumption))))⟩
end Go.Proofs.YtilpmhobnmfgiaaDoor
