/- Lemmas that the laws of this seat use, texts laid behind one another: W4. -/
import Derived.Test.YtnjaapejpmcfeaaGreatDoorYH
import Derived.Test.YtnjaapejpmcfeaaGreatDoorYL
set_option linter.unusedVariables false
set_option linter.unusedSimpArgs false
/-! The exact laws of chapter 4: is a text a value? -/
namespace Go.Proofs.YtnjaapejpmcfeaaGreatDoor
open Go.ChangeShapes Go.WideShapes Go.ChangeAt Go.RowKit M

theorem bnd4 (a : ByteArray) (h : a.size ≤ 1048576) : a.data.toList.length ≤ 2000000 := by simp; omega
/-- Both find the same value. -/
theorem of4_valP (l k s : Bs) : of4 l k s = match kindS l k with | none => none | some X => (wholeP X k s).map fun v => (X, v) := by
  unfold of4
  cases kindS l k with
  | none => rfl
  | some X =>
    simp only
    unfold wholeP wholeV
    split
    · cases readF X 12 s k with
      | none => rfl
      | some x => rfl
    · rfl
theorem of4_isSome (l k s : Bs) : (of4 l k s).isSome = (valP l k s).isSome := by
  rw [of4_valP]
  unfold valP
  cases kindS l k with
  | none => rfl
  | some X => simp only; cases wholeP X k s <;> rfl
theorem walk_FnExactValueOk (a0 a1 a2 : ByteArray) (w : World) (hT : Tab w) :
    Calls Tryz.prog 3 #[.string a0, .string a1, .string a2] w fun e w' => e = .returned (.bool true) ∧ Below w.heap.size w w' := by
  by_cases h0 : a0.size ≤ 1048576
  · by_cases h1 : a1.size ≤ 1048576
    · by_cases h2 : a2.size ≤ 1048576
      · have b0 := bnd4 a0 h0
        have b1 := bnd4 a1 h1
        have b2 := bnd4 a2 h2
        have HS := Lib.hid (fun w => k_ValueOk a0.data.toList a1.data.toList a2.data.toList w b0 b1 b2)
        have HI := Lib.hid (fun w' (hb : Below w.heap.size w w') => i_ValueOk a0.data.toList a1.data.toList a2.data.toList w' b0 b1 b2 (hT.below hb))
        rw [of4_isSome] at HS
        obtain ⟨b, hb⟩ : ∃ b, (valP a0.data.toList a1.data.toList a2.data.toList).isSome = b := ⟨_, rfl⟩
        rw [hb] at HS HI
        clear hb b0 b1 b2 hT
        go_enter Tryz.func3, Tryz.ntmps3
        go_wp2_with fail
        refine (HS.out _).mono ?_
        rintro e w1 ⟨rfl, hb1⟩
        go_wp2_with fail
        refine (HI.out _ hb1).mono ?_
        rintro e w2 ⟨rfl, hb2⟩
        go_wp2_with fail
        go_ret
        exact ⟨rfl, below_trans hb1 hb2⟩
      · clear hT
        go_enter Tryz.func3, Tryz.ntmps3
        go_wp2_with fail
        go_ret
        exact ⟨rfl, by (repeat (first | exact Below.refl _ _ | apply below_drew | apply below_draws | apply below_alloc | (refine below_trans ?_ (by assumption)) | (refine Below.trans ?_ (by assumption))))⟩
    · clear hT
      go_enter Tryz.func3, Tryz.ntmps3
      go_wp2_with fail
      go_ret
      exact ⟨rfl, by (repeat (first | exact Below.refl _ _ | apply below_drew | apply below_draws | apply below_alloc | (refine below_trans ?_ (by assumption)) | (refine Below.trans ?_ (by assumption))))⟩
  · clear hT
    go_enter Tryz.func3, Tryz.ntmps3
    go_wp2_with fail
    go_ret
    exact ⟨rfl, by (repeat (first | exact Below.refl _ _ | apply below_drew | apply below_draws | apply below_alloc | (refine below_trans ?_ (by assumption)) | (refine Below.trans ?_ (by assumption))))⟩
end Go.Proofs.YtnjaapejpmcfeaaGreatDoor
