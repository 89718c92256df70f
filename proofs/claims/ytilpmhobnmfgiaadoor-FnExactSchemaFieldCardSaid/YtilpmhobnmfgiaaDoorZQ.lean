/- Lemmas that the laws of this seat use, texts laid behind one another: W3d. -/
import Derived.Test.YtilpmhobnmfgiaaDoorZK
import Derived.Test.YtilpmhobnmfgiaaDoorZO
import Derived.Test.YtilpmhobnmfgiaaDoorZP
set_option linter.unusedVariables false
set_option linter.unusedSimpArgs false
/-! The exact laws of chapter 3: a field, a standing value. -/
namespace Go.Proofs.YtilpmhobnmfgiaaDoor
open Go.ChangeShapes Go.WideShapes Go.ChangeAt Go.RowKit M

theorem standS_P (l k : Bs) : standS l k = standP l k := rfl
theorem standV_W (X : List Ty) (f : Fl) : standV X f = standW X f := rfl
theorem fldS_P (l n : Bs) (tag : Int) : fldS l n tag = fldP l n tag := rfl
theorem f1_g (o : Option (Bs × Bs × Bs)) : f1 o = g1 o ∧ f2 o = g2 o ∧ f3 o = g3 o := ⟨rfl, rfl, rfl⟩
theorem walk_FnExactSchemaStands (a0 a1 : ByteArray) (w : World) (hT : Tab w) :
    Calls Tryd.prog 12 #[.string a0, .string a1] w fun e w' => e = .returned (.bool true) ∧ Below w.heap.size w w' := by
  by_cases h : a0.size ≤ 1048576
  case neg =>
    go_enter Tryd.func12, Tryd.ntmps12
    go_wp2_with fail
    go_ret
    exact ⟨rfl, by (repeat (first | exact Below.refl _ _ | apply below_drew | apply below_draws | apply below_alloc | (refine below_trans ?_ (by assumption)) | (refine Below.trans ?_ (by assumption))))⟩
  by_cases h1 : a1.size ≤ 1048576
  case neg =>
    go_enter Tryd.func12, Tryd.ntmps12
    go_wp2_with fail
    go_ret
    exact ⟨rfl, by (repeat (first | exact Below.refl _ _ | apply below_drew | apply below_draws | apply below_alloc | (refine below_trans ?_ (by assumption)) | (refine Below.trans ?_ (by assumption))))⟩
  have h' := bnd3 a0 h
  have h1' := bnd3 a1 h1
  have HS := Lib.hid (fun w => k_SchemaStands a0.data.toList a1.data.toList w h' h1')
  rw [standS_P] at HS
  have HI := Lib.hid (fun w' (hb : Below w.heap.size w w') => i_SchemaStands a0.data.toList a1.data.toList w' (by omega) (by omega) (hT.below hb))
  generalize standP a0.data.toList a1.data.toList = L at *
  generalize (kindS a0.data.toList a1.data.toList).isSome = b at *
  go_enter Tryd.func12, Tryd.ntmps12
  go_wp2_with fail
  refine (HS.out _).mono ?_
  rintro e w1 ⟨rfl, hb1⟩
  go_wp2_with fail
  refine (HI.out _ (by (repeat (first | exact Below.refl _ _ | apply below_drew | apply below_draws | apply below_alloc | (refine below_trans ?_ (by assumption)) | (refine Below.trans ?_ (by assumption)))))).mono ?_
  rintro e w2 ⟨rfl, hb2⟩
  go_wp2_with fail
  go_ret
  exact ⟨rfl, by (repeat (first | exact Below.refl _ _ | apply below_drew | apply below_draws | apply below_alloc | (refine below_trans ?_ (by assumption)) | (refine Below.trans ?_ (by assumption))))⟩
theorem walk_FnExactSchemaField (a0 a1 : ByteArray) (a2 : Int) (w : World) (hT : Tab w) :
    Calls Tryd.prog 11 #[.string a0, .string a1, .int .i64 a2] w fun e w' => e = .returned (.bool true) ∧ Below w.heap.size w w' := by
  by_cases h : a0.size ≤ 1048576
  case neg =>
    go_enter Tryd.func11, Tryd.ntmps11
    go_wp2_with fail
    go_ret
    exact ⟨rfl, by (repeat (first | exact Below.refl _ _ | apply below_drew | apply below_draws | apply below_alloc | (refine below_trans ?_ (by assumption)) | (refine Below.trans ?_ (by assumption))))⟩
  by_cases h1 : a1.size ≤ 1048576
  case neg =>
    go_enter Tryd.func11, Tryd.ntmps11
    go_wp2_with fail
    go_ret
    exact ⟨rfl, by (repeat (first | exact Below.refl _ _ | apply below_drew | apply below_draws | apply below_alloc | (refine below_trans ?_ (by assumption)) | (refine Below.trans ?_ (by assumption))))⟩
  have h' := bnd3 a0 h
  have h1' := bnd3 a1 h1
  have HS := Lib.hid (fun w => k_SchemaField a0.data.toList a1.data.toList a2 w h')
  rw [fldS_P, (f1_g _).1, (f1_g _).2.1, (f1_g _).2.2] at HS
  have HI := Lib.hid (fun w' (hb : Below w.heap.size w w') => i_SchemaField a0.data.toList a1.data.toList a2 w' (by omega) (by omega) (hT.below hb))
  generalize fldP a0.data.toList a1.data.toList a2 = o at *
  generalize g1 o = x1 at *
  generalize g2 o = x2 at *
  generalize g3 o = x3 at *
  generalize o.isSome = b at *
  go_enter Tryd.func11, Tryd.ntmps11
  go_wp2_with fail
  refine (HS.out _).mono ?_
  rintro e w1 ⟨rfl, hb1⟩
  go_wp2_with fail
  refine (HI.out _ (by (repeat (first | exact Below.refl _ _ | apply below_drew | apply below_draws | apply below_alloc | (refine below_trans ?_ (by assumption)) | (refine Below.trans ?_ (by assumption)))))).mono ?_
  rintro e w2 ⟨rfl, hb2⟩
  go_wp2_with fail
  go_ret
  exact ⟨rfl, by (repeat (first | exact Below.refl _ _ | apply below_drew | apply below_draws | apply below_alloc | (refine below_trans ?_ (by assumption)) | (refine Below.trans ?_ (by assumption))))⟩
end Go.Proofs.YtilpmhobnmfgiaaDoor
