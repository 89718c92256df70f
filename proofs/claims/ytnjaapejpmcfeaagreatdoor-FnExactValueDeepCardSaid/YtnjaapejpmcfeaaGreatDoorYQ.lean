/- Lemmas that the laws of this seat use, texts laid behind one another: W4b. -/
import Derived.Test.YtnjaapejpmcfeaaGreatDoorYM
import Derived.Test.YtnjaapejpmcfeaaGreatDoorYN
import Derived.Test.YtnjaapejpmcfeaaGreatDoorYO
import Derived.Test.YtnjaapejpmcfeaaGreatDoorYP
set_option linter.unusedVariables false
set_option linter.unusedSimpArgs false
/-! The exact laws of chapter 4: size, depth, a field. -/
namespace Go.Proofs.YtnjaapejpmcfeaaGreatDoor
open Go.ChangeShapes Go.WideShapes Go.ChangeAt Go.RowKit M

theorem numO_P (f : V → Nat) (l k s : Bs) : numO f (of4 l k s) = numP f (valP l k s) := by
  rw [of4_valP]
  unfold valP
  cases kindS l k with
  | none => rfl
  | some X => simp only; cases wholeP X k s <;> rfl
theorem fieldO_P (l k s : Bs) (tag : Int) : fieldO k tag (of4 l k s) = fieldVP l k s tag := by
  rw [of4_valP]
  unfold fieldVP fldO recP valP
  cases hks : kindS l k with
  | none => rfl
  | some X =>
    simp only
    cases hw : wholeP X k s with
    | none => rfl
    | some x =>
      obtain ⟨hof, hko, -⟩ := kindS_some hks
      obtain ⟨hg, -, -⟩ := ofS_some hof
      obtain ⟨hT, hkk, -⟩ := whole_tv hg hko hw
      simp only [Option.map_some]
      cases hr : refT X k with
      | none =>
        rw [rec_none hT (by rw [hkk]; exact hr)]
        cases x with
        | mk k' t gs lv => rw [fieldO_no (recF_none hr)]; rfl
      | some t =>
        have hrs := rec_sort hT (by rw [hkk]; exact hr)
        by_cases h82 : t.sort = 82
        · have hrc := hrs.2 h82
          rw [if_pos hrc]
          simp only
          have htx : x.text = [82] := by unfold isRec at hrc; simp at hrc; exact hrc.1
          cases x with
          | mk k' tx gs lv =>
            have htx' : tx = [82] := htx
            have hF := recF_rec (tag := tag) hr h82
            cases hf : fieldT t tag with
            | none =>
              rw [show fieldM t tag = none from hf, fieldO_no (hF.trans hf)]; rfl
            | some f =>
              rw [show fieldM t tag = some f from hf]
              have hA : atV k' tx gs lv f.tag = atP gs lv f.tag := if_pos htx'
              have htag : f.tag = tag := (fieldM_mem (show fieldM t tag = some f from hf)).2
              cases ha : atP gs lv f.tag with
              | none =>
                rw [fieldO_stands (hF.trans hf) (by rw [← htag, hA, ha])]
                show _ = some (fldT X gs lv f)
                rw [fldT_none ha]; rfl
              | some z =>
                rw [fieldO_told (hF.trans hf) (by rw [← htag, hA, ha])]
                show _ = some (fldT X gs lv f)
                rw [fldT_some ha]
        · have hrc : ¬ isRec x = true := fun h => h82 (hrs.1 h)
          rw [if_neg hrc]
          cases x with
          | mk k' tx gs lv => rw [fieldO_no (recF_other hr h82)]; rfl
theorem walk_FnExactValueDeep (a0 a1 a2 : ByteArray) (w : World) (hT : Tab w) :
    Calls Tryz.prog 5 #[.string a0, .string a1, .string a2] w fun e w' => e = .returned (.bool true) ∧ Below w.heap.size w w' := by
  by_cases h0 : a0.size ≤ 1048576
  case neg =>
    clear hT
    go_enter Tryz.func5, Tryz.ntmps5
    go_wp2_with fail
    go_ret
    exact ⟨rfl, by (repeat (first | exact Below.refl _ _ | apply below_drew | apply below_draws | apply below_alloc | (refine below_trans ?_ (by assumption)) | (refine Below.trans ?_ (by assumption))))⟩
  by_cases h1 : a1.size ≤ 1048576
  case neg =>
    clear hT
    go_enter Tryz.func5, Tryz.ntmps5
    go_wp2_with fail
    go_ret
    exact ⟨rfl, by (repeat (first | exact Below.refl _ _ | apply below_drew | apply below_draws | apply below_alloc | (refine below_trans ?_ (by assumption)) | (refine Below.trans ?_ (by assumption))))⟩
  by_cases h2 : a2.size ≤ 1048576
  case neg =>
    clear hT
    go_enter Tryz.func5, Tryz.ntmps5
    go_wp2_with fail
    go_ret
    exact ⟨rfl, by (repeat (first | exact Below.refl _ _ | apply below_drew | apply below_draws | apply below_alloc | (refine below_trans ?_ (by assumption)) | (refine Below.trans ?_ (by assumption))))⟩
  have b0 := bnd4 a0 h0
  have b1 := bnd4 a1 h1
  have b2 := bnd4 a2 h2
  have HS := Lib.hid (fun w => k_ValueDeep a0.data.toList a1.data.toList a2.data.toList w b0 b1 b2)
  have HI := Lib.hid (fun w' (hb : Below w.heap.size w w') => i_ValueDeep a0.data.toList a1.data.toList a2.data.toList w' b0 b1 b2 (hT.below hb))
  rw [numO_P] at HS
  generalize numP deepV (valP a0.data.toList a1.data.toList a2.data.toList) = n at *
  clear b0 b1 b2 hT
  go_enter Tryz.func5, Tryz.ntmps5
  go_wp2_with fail
  refine (HS.out _).mono ?_
  rintro e w1 ⟨rfl, hb1⟩
  go_wp2_with fail
  refine (HI.out _ hb1).mono ?_
  rintro e w2 ⟨rfl, hb2⟩
  go_wp2_with fail
  go_ret
  exact ⟨rfl, below_trans hb1 hb2⟩
theorem walk_FnExactValueSize (a0 a1 a2 : ByteArray) (w : World) (hT : Tab w) :
    Calls Tryz.prog 4 #[.string a0, .string a1, .string a2] w fun e w' => e = .returned (.bool true) ∧ Below w.heap.size w w' := by
  by_cases h0 : a0.size ≤ 1048576
  case neg =>
    clear hT
    go_enter Tryz.func4, Tryz.ntmps4
    go_wp2_with fail
    go_ret
    exact ⟨rfl, by (repeat (first | exact Below.refl _ _ | apply below_drew | apply below_draws | apply below_alloc | (refine below_trans ?_ (by assumption)) | (refine Below.trans ?_ (by assumption))))⟩
  by_cases h1 : a1.size ≤ 1048576
  case neg =>
    clear hT
    go_enter Tryz.func4, Tryz.ntmps4
    go_wp2_with fail
    go_ret
    exact ⟨rfl, by (repeat (first | exact Below.refl _ _ | apply below_drew | apply below_draws | apply below_alloc | (refine below_trans ?_ (by assumption)) | (refine Below.trans ?_ (by assumption))))⟩
  by_cases h2 : a2.size ≤ 1048576
  case neg =>
    clear hT
    go_enter Tryz.func4, Tryz.ntmps4
    go_wp2_with fail
    go_ret
    exact ⟨rfl, by (repeat (first | exact Below.refl _ _ | apply below_drew | apply below_draws | apply below_alloc | (refine below_trans ?_ (by assumption)) | (refine Below.trans ?_ (by assumption))))⟩
  have b0 := bnd4 a0 h0
  have b1 := bnd4 a1 h1
  have b2 := bnd4 a2 h2
  have HS := Lib.hid (fun w => k_ValueSize a0.data.toList a1.data.toList a2.data.toList w b0 b1 b2)
  have HI := Lib.hid (fun w' (hb : Below w.heap.size w w') => i_ValueSize a0.data.toList a1.data.toList a2.data.toList w' b0 b1 b2 (hT.below hb))
  rw [numO_P] at HS
  generalize numP sizeV (valP a0.data.toList a1.data.toList a2.data.toList) = n at *
  clear b0 b1 b2 hT
  go_enter Tryz.func4, Tryz.ntmps4
  go_wp2_with fail
  refine (HS.out _).mono ?_
  rintro e w1 ⟨rfl, hb1⟩
  go_wp2_with fail
  refine (HI.out _ hb1).mono ?_
  rintro e w2 ⟨rfl, hb2⟩
  go_wp2_with fail
  go_ret
  exact ⟨rfl, below_trans hb1 hb2⟩
theorem walk_FnExactValueField (a0 a1 a2 : ByteArray) (a3 : Int) (w : World) (hT : Tab w) :
    Calls Tryz.prog 6 #[.string a0, .string a1, .string a2, .int .i64 a3] w fun e w' => e = .returned (.bool true) ∧ Below w.heap.size w w' := by
  by_cases h0 : a0.size ≤ 1048576
  case neg =>
    clear hT
    go_enter Tryz.func6, Tryz.ntmps6
    go_wp2_with fail
    go_ret
    exact ⟨rfl, by (repeat (first | exact Below.refl _ _ | apply below_drew | apply below_draws | apply below_alloc | (refine below_trans ?_ (by assumption)) | (refine Below.trans ?_ (by assumption))))⟩
  by_cases h1 : a1.size ≤ 1048576
  case neg =>
    clear hT
    go_enter Tryz.func6, Tryz.ntmps6
    go_wp2_with fail
    go_ret
    exact ⟨rfl, by (repeat (first | exact Below.refl _ _ | apply below_drew | apply below_draws | apply below_alloc | (refine below_trans ?_ (by assumption)) | (refine Below.trans ?_ (by assumption))))⟩
  by_cases h2 : a2.size ≤ 1048576
  case neg =>
    clear hT
    go_enter Tryz.func6, Tryz.ntmps6
    go_wp2_with fail
    go_ret
    exact ⟨rfl, by (repeat (first | exact Below.refl _ _ | apply below_drew | apply below_draws | apply below_alloc | (refine below_trans ?_ (by assumption)) | (refine Below.trans ?_ (by assumption))))⟩
  have b0 := bnd4 a0 h0
  have b1 := bnd4 a1 h1
  have b2 := bnd4 a2 h2
  have HS := Lib.hid (fun w => k_ValueField a0.data.toList a1.data.toList a2.data.toList a3 w b0 b1 b2)
  have HI := Lib.hid (fun w' (hb : Below w.heap.size w w') => i_ValueField a0.data.toList a1.data.toList a2.data.toList a3 w' b0 b1 b2 (hT.below hb))
  rw [fieldO_P] at HS
  generalize fieldVP a0.data.toList a1.data.toList a2.data.toList a3 = o at *
  unfold RetSB at HS
  generalize o.getD [] = x at *
  generalize o.isSome = b at *
  clear b0 b1 b2 hT
  go_enter Tryz.func6, Tryz.ntmps6
  go_wp2_with fail
  refine (HS.out _).mono ?_
  rintro e w1 ⟨rfl, hb1⟩
  go_wp2_with fail
  refine (HI.out _ hb1).mono ?_
  rintro e w2 ⟨rfl, hb2⟩
  go_wp2_with fail
  go_ret
  exact ⟨rfl, below_trans hb1 hb2⟩
end Go.Proofs.YtnjaapejpmcfeaaGreatDoor
