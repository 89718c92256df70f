/- The exact law on BytesField. -/
import Derived.Test.YtoeiohhaedabnaaI5f
namespace Go.Proofs.Ytoeiohhaedabnaa
open Go.ChangeShapes Go.WideShapes Go.ChangeAt Go.RowKit M

theorem walk_FnExactBytesField (a0 : ByteArray) (a1 : Int) (w : World) :
    Calls Try.prog 3 #[.string a0, .int .i64 a1] w fun e w' => e = .returned (.bool true) ∧ Below w.heap.size w w' := by
  by_cases h : a0.size ≤ 1048576
  · have h' : a0.data.toList.length ≤ 2000000 := by simp; omega
    have HK := Lib.hid (fun w => k_BytesField a0.data.toList a1 w h')
    have HI := Lib.hid (fun w => i_BytesField a0.data.toList a1 w h')
    rw [S_of] at HK HI
    generalize bytesField a0.data.toList a1 = o at *
    cases o with
    | none =>
      go_enter Try.func3, Try.ntmps3
      go_wp2_with (first | (go_at_call 4; refine (HK.out _).mono ?_; unfold fieldV; rintro e w1 ⟨rfl, hb1⟩) | (go_at_call 5; refine (HI.out _).mono ?_; unfold fieldV; rintro e w2 ⟨rfl, hb2⟩))
      go_ret
      exact ⟨rfl, by (repeat (first | exact Below.refl _ _ | apply below_drew | apply below_draws | apply below_alloc | (refine below_trans ?_ (by assumption)) | (refine Below.trans ?_ (by assumption))))⟩
    | some p =>
      go_enter Try.func3, Try.ntmps3
      go_wp2_with (first | (go_at_call 4; refine (HK.out _).mono ?_; unfold fieldV; rintro e w1 ⟨rfl, hb1⟩) | (go_at_call 5; refine (HI.out _).mono ?_; unfold fieldV; rintro e w2 ⟨rfl, hb2⟩))
      go_ret
      exact ⟨rfl, by (repeat (first | exact Below.refl _ _ | apply below_drew | apply below_draws | apply below_alloc | (refine below_trans ?_ (by assumption)) | (refine Below.trans ?_ (by assumption))))⟩
  · go_enter Try.func3, Try.ntmps3
    go_wp2_with fail
    go_ret
    exact ⟨rfl, by (repeat (first | exact Below.refl _ _ | apply below_drew | apply below_draws | apply below_alloc | (refine below_trans ?_ (by assumption)) | (refine Below.trans ?_ (by assumption))))⟩
end Go.Proofs.Ytoeiohhaedabnaa
