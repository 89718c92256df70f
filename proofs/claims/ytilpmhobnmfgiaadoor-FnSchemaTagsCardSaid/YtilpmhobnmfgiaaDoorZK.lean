/- Lemmas that the laws of this seat use, texts laid behind one another: W3, W3b. -/
import Derived.Test.YtilpmhobnmfgiaaDoorZB
import Derived.Test.YtilpmhobnmfgiaaDoorZF
import Derived.Test.YtilpmhobnmfgiaaDoorZJ
set_option linter.unusedVariables false
set_option linter.unusedSimpArgs false
/-! The exact laws of chapter 3: is it a schema, a type's letter, the types' names. -/
namespace Go.Proofs.YtilpmhobnmfgiaaDoor
open Go.ChangeShapes Go.WideShapes Go.ChangeAt Go.RowKit M

theorem bnd3 (a : ByteArray) (h : a.size ≤ 1048576) : a.data.toList.length ≤ 2000000 := by simp; omega
theorem typesL_V (l : Bs) : typesL (ofS l) = typesV (ofS l) := rfl
theorem sortS_V (l n : Bs) : sortS (findS l n) = sortV (findV l n) := rfl
theorem tagsL_V (l n : Bs) : tagsL (findS l n) = tagsV (findV l n) := rfl
theorem walk_FnExactSchemaOk (a0 : ByteArray) (w : World) :
    Calls Tryd.prog 7 #[.string a0] w fun e w' => e = .returned (.bool true) ∧ Below w.heap.size w w' := by
  by_cases h : a0.size ≤ 1048576
  · have h' := bnd3 a0 h
    have HS := Lib.hid (fun w => k_SchemaOk a0.data.toList w h')
    have HI := Lib.hid (fun w => i_SchemaOk a0.data.toList w (by omega))
    obtain ⟨b, hb⟩ : ∃ b, (ofS a0.data.toList).isSome = b := ⟨_, rfl⟩
    rw [hb] at HS HI
    clear hb
    go_enter Tryd.func7, Tryd.ntmps7
    go_wp2_with fail
    refine (HS.out _).mono ?_
    rintro e w1 ⟨rfl, hb1⟩
    go_wp2_with fail
    refine (HI.out _).mono ?_
    rintro e w2 ⟨rfl, hb2⟩
    go_wp2_with fail
    go_ret
    exact ⟨rfl, by (repeat (first | exact Below.refl _ _ | apply below_drew | apply below_draws | apply below_alloc | (refine below_trans ?_ (by assumption)) | (refine Below.trans ?_ (by assumption))))⟩
  · go_enter Tryd.func7, Tryd.ntmps7
    go_wp2_with fail
    go_ret
    exact ⟨rfl, by (repeat (first | exact Below.refl _ _ | apply below_drew | apply below_draws | apply below_alloc | (refine below_trans ?_ (by assumption)) | (refine Below.trans ?_ (by assumption))))⟩
end Go.Proofs.YtilpmhobnmfgiaaDoor

/-! The exact laws of chapter 3: a type's letter, the types' names, a type's tags. -/
namespace Go.Proofs.YtilpmhobnmfgiaaDoor
open Go.ChangeShapes Go.WideShapes Go.ChangeAt Go.RowKit M

theorem typesV_len (l : Bs) : (typesV (ofS l)).length ≤ 8 := by
  unfold typesV
  cases h : ofS l with
  | none => simp
  | some X => have := (ofS_some h).2.1; simpa using this
theorem tagsV_len (l n : Bs) : (tagsV (findV l n)).length ≤ 8 := by
  unfold tagsV
  cases h : findV l n with
  | none => simp
  | some t =>
    unfold findV at h
    cases ho : ofS l with
    | none => rw [ho] at h; cases h
    | some X =>
      rw [ho] at h
      have hm : find X n = some t := h
      have := ((ofS_some ho).1 t (find_mem hm).1).2.2.1
      simpa using this
theorem walk_FnExactSchemaSort (a0 a1 : ByteArray) (w : World) :
    Calls Tryd.prog 9 #[.string a0, .string a1] w fun e w' => e = .returned (.bool true) ∧ Below w.heap.size w w' := by
  by_cases h : a0.size ≤ 1048576
  case neg =>
    go_enter Tryd.func9, Tryd.ntmps9
    go_wp2_with fail
    go_ret
    exact ⟨rfl, by (repeat (first | exact Below.refl _ _ | apply below_drew | apply below_draws | apply below_alloc | (refine below_trans ?_ (by assumption)) | (refine Below.trans ?_ (by assumption))))⟩
  by_cases h1 : a1.size ≤ 1048576
  case neg =>
    go_enter Tryd.func9, Tryd.ntmps9
    go_wp2_with fail
    go_ret
    exact ⟨rfl, by (repeat (first | exact Below.refl _ _ | apply below_drew | apply below_draws | apply below_alloc | (refine below_trans ?_ (by assumption)) | (refine Below.trans ?_ (by assumption))))⟩
  have h' := bnd3 a0 h
  have h1' := bnd3 a1 h1
  have HS := Lib.hid (fun w => k_SchemaSort a0.data.toList a1.data.toList w h')
  rw [sortS_V, show (findS a0.data.toList a1.data.toList).isSome = (findV a0.data.toList a1.data.toList).isSome from rfl] at HS
  have HI := Lib.hid (fun w => i_SchemaSort a0.data.toList a1.data.toList w (by omega) (by omega))
  generalize sortV (findV a0.data.toList a1.data.toList) = L at *
  generalize (findV a0.data.toList a1.data.toList).isSome = b at *
  go_enter Tryd.func9, Tryd.ntmps9
  go_wp2_with fail
  refine (HS.out _).mono ?_
  rintro e w1 ⟨rfl, hb1⟩
  go_wp2_with fail
  refine (HI.out _).mono ?_
  rintro e w2 ⟨rfl, hb2⟩
  go_wp2_with fail
  go_ret
  exact ⟨rfl, by (repeat (first | exact Below.refl _ _ | apply below_drew | apply below_draws | apply below_alloc | (refine below_trans ?_ (by assumption)) | (refine Below.trans ?_ (by assumption))))⟩
theorem walk_FnExactSchemaTypes (a0 : ByteArray) (w : World) :
    Calls Tryd.prog 8 #[.string a0] w fun e w' => e = .returned (.bool true) ∧ Below w.heap.size w w' := by
  by_cases h : a0.size ≤ 1048576
  · have h' := bnd3 a0 h
    have hlen := typesV_len a0.data.toList
    have HS := Lib.hid (fun w => k_SchemaTypes a0.data.toList w h')
    rw [typesL_V] at HS
    have HI := Lib.hid (fun w => i_SchemaTypes a0.data.toList w (by omega))
    generalize typesV (ofS a0.data.toList) = L at *
    generalize (ofS a0.data.toList).isSome = b at *
    go_enter Tryd.func8, Tryd.ntmps8
    go_wp2_with fail
    refine (HS.out _).mono ?_
    rintro e w1 ⟨v, rfl, hv, hb1⟩
    have HV1 := Lib.hid hv; clear hv
    go_wp2_with fail
    refine (HI.out _).mono ?_
    rintro e w2 ⟨g, rfl, hg, hb2⟩
    have HV2 := Lib.hid (HV1.out.below hb2)
    have HG2 := Lib.hid hg; clear hg
    go_wp2_with fail
    refine (eqStringS g v L _ _ _ HG2.out HV2.out (by omega)).mono ?_
    rintro e w3 ⟨rfl, hb3⟩
    have HV3 := Lib.hid (HV2.out.below hb3)
    have HG3 := Lib.hid (HG2.out.below hb3)
    go_wp2_with fail
    refine (markStringS g L _ 1 _ HG3.out (by omega) (by omega)).mono ?_
    rintro e w4 ⟨rfl, hg4, hb4⟩
    have HG4 := Lib.hid hg4; clear hg4
    have HV4 := Lib.hid (HV3.out.marked HV1.out.low HG3.out (Nat.le_refl _) hb4)
    have hB4 := Strs.belowMark (show Below w.heap.size w w3 by (repeat (first | exact Below.refl _ _ | apply below_drew | apply below_draws | apply below_alloc | (refine below_trans ?_ (by assumption)) | (refine Below.trans ?_ (by assumption))))) HG3.out hb1.size hb4
    clear hb4
    go_wp2_with fail
    refine (heldStringS g L _ 1 _ HG4.out (by omega) (by omega)).mono ?_
    rintro e w5 ⟨rfl, hb5⟩
    have HV5 := Lib.hid (HV4.out.below hb5)
    have HG5 := Lib.hid (HG4.out.below hb5)
    go_wp2_with fail
    refine (HI.out _).mono ?_
    rintro e w6 ⟨h0, rfl, hh, hb6⟩
    have HH6 := Lib.hid hh; clear hh
    have HV6 := Lib.hid (HV5.out.below hb6)
    have HG6 := Lib.hid (HG5.out.below hb6)
    go_wp2_with fail
    refine (eqStringS h0 v L _ _ _ HH6.out HV6.out (by omega)).mono ?_
    rintro e w7 ⟨rfl, hb7⟩
    have HG7 := Lib.hid (HG6.out.below hb7)
    go_wp2_with fail
    refine (heldStringS g L _ 1 _ HG7.out (by omega) (by omega)).mono ?_
    rintro e w8 ⟨rfl, hb8⟩
    go_wp2_with fail
    go_ret
    exact ⟨rfl, below_trans (below_trans (below_trans (below_trans hB4 hb5) hb6) hb7) hb8⟩
  · go_enter Tryd.func8, Tryd.ntmps8
    go_wp2_with fail
    go_ret
    exact ⟨rfl, by (repeat (first | exact Below.refl _ _ | apply below_drew | apply below_draws | apply below_alloc | (refine below_trans ?_ (by assumption)) | (refine Below.trans ?_ (by assumption))))⟩
theorem walk_FnExactSchemaTags (a0 a1 : ByteArray) (w : World) :
    Calls Tryd.prog 10 #[.string a0, .string a1] w fun e w' => e = .returned (.bool true) ∧ Below w.heap.size w w' := by
  by_cases h : a0.size ≤ 1048576
  · by_cases h1 : a1.size ≤ 1048576
    case neg =>
      go_enter Tryd.func10, Tryd.ntmps10
      go_wp2_with fail
      go_ret
      exact ⟨rfl, by (repeat (first | exact Below.refl _ _ | apply below_drew | apply below_draws | apply below_alloc | (refine below_trans ?_ (by assumption)) | (refine Below.trans ?_ (by assumption))))⟩
    have h' := bnd3 a0 h
    have h1' := bnd3 a1 h1
    have hlen := tagsV_len a0.data.toList a1.data.toList
    have HS := Lib.hid (fun w => k_SchemaTags a0.data.toList a1.data.toList w h')
    rw [tagsL_V] at HS
    have HI := Lib.hid (fun w => i_SchemaTags a0.data.toList a1.data.toList w (by omega) (by omega))
    rw [show (findS a0.data.toList a1.data.toList).isSome = (findV a0.data.toList a1.data.toList).isSome from rfl] at HS
    generalize tagsV (findV a0.data.toList a1.data.toList) = L at *
    generalize (findV a0.data.toList a1.data.toList).isSome = b at *
    go_enter Tryd.func10, Tryd.ntmps10
    go_wp2_with fail
    refine (HS.out _).mono ?_
    rintro e w1 ⟨v, rfl, hv, hb1⟩
    have HV1 := Lib.hid hv; clear hv
    go_wp2_with fail
    refine (HI.out _).mono ?_
    rintro e w2 ⟨g, rfl, hg, hb2⟩
    have HV2 := Lib.hid (HV1.out.below hb2)
    have HG2 := Lib.hid hg; clear hg
    go_wp2_with fail
    refine (eqIntS g v L _ _ _ HG2.out HV2.out (by omega)).mono ?_
    rintro e w3 ⟨rfl, hb3⟩
    have HV3 := Lib.hid (HV2.out.below hb3)
    have HG3 := Lib.hid (HG2.out.below hb3)
    go_wp2_with fail
    refine (markIntS g L _ 1 _ HG3.out (by omega) (by omega)).mono ?_
    rintro e w4 ⟨rfl, hg4, hb4⟩
    have HG4 := Lib.hid hg4; clear hg4
    have HV4 := Lib.hid (HV3.out.marked HV1.out.low HG3.out (Nat.le_refl _) hb4)
    have hB4 := Ints.belowMark (show Below w.heap.size w w3 by (repeat (first | exact Below.refl _ _ | apply below_drew | apply below_draws | apply below_alloc | (refine below_trans ?_ (by assumption)) | (refine Below.trans ?_ (by assumption))))) HG3.out hb1.size hb4
    clear hb4
    go_wp2_with fail
    refine (heldIntS g L _ 1 _ HG4.out (by omega) (by omega)).mono ?_
    rintro e w5 ⟨rfl, hb5⟩
    have HV5 := Lib.hid (HV4.out.below hb5)
    have HG5 := Lib.hid (HG4.out.below hb5)
    go_wp2_with fail
    refine (HI.out _).mono ?_
    rintro e w6 ⟨h0, rfl, hh, hb6⟩
    have HH6 := Lib.hid hh; clear hh
    have HV6 := Lib.hid (HV5.out.below hb6)
    have HG6 := Lib.hid (HG5.out.below hb6)
    go_wp2_with fail
    refine (eqIntS h0 v L _ _ _ HH6.out HV6.out (by omega)).mono ?_
    rintro e w7 ⟨rfl, hb7⟩
    have HG7 := Lib.hid (HG6.out.below hb7)
    go_wp2_with fail
    refine (heldIntS g L _ 1 _ HG7.out (by omega) (by omega)).mono ?_
    rintro e w8 ⟨rfl, hb8⟩
    go_wp2_with fail
    go_ret
    exact ⟨rfl, below_trans (below_trans (below_trans (below_trans hB4 hb5) hb6) hb7) hb8⟩
  · go_enter Tryd.func10, Tryd.ntmps10
    go_wp2_with fail
    go_ret
    exact ⟨rfl, by (repeat (first | exact Below.refl _ _ | apply below_drew | apply below_draws | apply below_alloc | (refine below_trans ?_ (by assumption)) | (refine Below.trans ?_ (by assumption))))⟩
end Go.Proofs.YtilpmhobnmfgiaaDoor
