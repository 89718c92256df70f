/- The exact laws of chapter 2. -/
import Derived.Test.YtgaiagpfnfnnaaaS2
import Derived.Test.YtgaiagpfnfnnaaaI2
import Derived.Test.YtgaiagpfnfnnaaaMarks
namespace Go.Proofs.Ytgaiagpfnfnnaaa
open Go.ChangeShapes Go.WideShapes Go.ChangeAt Go.RowKit M

theorem bnd (a : ByteArray) (h : a.size ≤ 1048576) : a.data.toList.length ≤ 2000000 := by simp; omega
theorem walk_FnExactKindOk (a0 : ByteArray) (w : World) :
    Calls Try.prog 8 #[.string a0] w fun e w' => e = .returned (.bool true) ∧ Below w.heap.size w w' := by
  by_cases h : a0.size ≤ 1048576
  · have h' := bnd a0 h
    go_enter Try.func8, Try.ntmps8
    go_wp2_with (first | (go_at_call 15; refine (k_KindOk a0.data.toList _ h').mono ?_; rintro e w' ⟨rfl, rfl⟩) | (go_at_call 14; refine (i_KindOk a0.data.toList _ h').mono ?_; unfold kOk; rintro e w' ⟨rfl, rfl⟩))
    go_ret
    exact ⟨rfl, by (repeat (first | exact Below.refl _ _ | apply below_drew | apply below_draws | apply below_alloc | (refine below_trans ?_ (by assumption)) | (refine Below.trans ?_ (by assumption))))⟩
  · go_enter Try.func8, Try.ntmps8
    go_wp2_with fail
    go_ret
    exact ⟨rfl, by (repeat (first | exact Below.refl _ _ | apply below_drew | apply below_draws | apply below_alloc | (refine below_trans ?_ (by assumption)) | (refine Below.trans ?_ (by assumption))))⟩
theorem walk_FnExactKindPart (a0 : ByteArray) (w : World) :
    Calls Try.prog 9 #[.string a0] w fun e w' => e = .returned (.bool true) ∧ Below w.heap.size w w' := by
  by_cases h : a0.size ≤ 1048576
  · have h' := bnd a0 h
    go_enter Try.func9, Try.ntmps9
    go_wp2_with (first | (go_at_call 19; refine (k_KindPart a0.data.toList _ h').mono ?_; rintro e w' ⟨rfl, rfl⟩) | (go_at_call 18; refine (i_KindPart a0.data.toList _ h').mono ?_; rintro e w' ⟨rfl, rfl⟩))
    go_ret
    exact ⟨rfl, by (repeat (first | exact Below.refl _ _ | apply below_drew | apply below_draws | apply below_alloc | (refine below_trans ?_ (by assumption)) | (refine Below.trans ?_ (by assumption))))⟩
  · go_enter Try.func9, Try.ntmps9
    go_wp2_with fail
    go_ret
    exact ⟨rfl, by (repeat (first | exact Below.refl _ _ | apply below_drew | apply below_draws | apply below_alloc | (refine below_trans ?_ (by assumption)) | (refine Below.trans ?_ (by assumption))))⟩
theorem walk_FnExactKindName (a0 : ByteArray) (w : World) :
    Calls Try.prog 10 #[.string a0] w fun e w' => e = .returned (.bool true) ∧ Below w.heap.size w w' := by
  by_cases h : a0.size ≤ 1048576
  · have h' := bnd a0 h
    go_enter Try.func10, Try.ntmps10
    go_wp2_with (first | (go_at_call 22; refine (k_KindName a0.data.toList _ h').mono ?_; rintro e w' ⟨rfl, rfl⟩) | (go_at_call 21; refine (i_KindName a0.data.toList _ h').mono ?_; rintro e w' ⟨rfl, rfl⟩))
    go_ret
    exact ⟨rfl, by (repeat (first | exact Below.refl _ _ | apply below_drew | apply below_draws | apply below_alloc | (refine below_trans ?_ (by assumption)) | (refine Below.trans ?_ (by assumption))))⟩
  · go_enter Try.func10, Try.ntmps10
    go_wp2_with fail
    go_ret
    exact ⟨rfl, by (repeat (first | exact Below.refl _ _ | apply below_drew | apply below_draws | apply below_alloc | (refine below_trans ?_ (by assumption)) | (refine Below.trans ?_ (by assumption))))⟩
theorem walk_FnExactKindDeep (a0 : ByteArray) (w : World) :
    Calls Try.prog 12 #[.string a0] w fun e w' => e = .returned (.bool true) ∧ Below w.heap.size w w' := by
  by_cases h : a0.size ≤ 1048576
  · have h' := bnd a0 h
    go_enter Try.func12, Try.ntmps12
    go_wp2_with (first | (go_at_call 28; refine (k_KindDeep a0.data.toList _ h').mono ?_; rintro e w' ⟨rfl, rfl⟩) | (go_at_call 16; refine (i_KindDeep a0.data.toList _ h').mono ?_; rintro e w' ⟨rfl, rfl⟩))
    go_ret
    exact ⟨rfl, by (repeat (first | exact Below.refl _ _ | apply below_drew | apply below_draws | apply below_alloc | (refine below_trans ?_ (by assumption)) | (refine Below.trans ?_ (by assumption))))⟩
  · go_enter Try.func12, Try.ntmps12
    go_wp2_with fail
    go_ret
    exact ⟨rfl, by (repeat (first | exact Below.refl _ _ | apply below_drew | apply below_draws | apply below_alloc | (refine below_trans ?_ (by assumption)) | (refine Below.trans ?_ (by assumption))))⟩
theorem walk_FnExactKindRefs (a0 : ByteArray) (w : World) :
    Calls Try.prog 11 #[.string a0] w fun e w' => e = .returned (.bool true) ∧ Below w.heap.size w w' := by
  by_cases h : a0.size ≤ 1048576
  · have h' := bnd a0 h
    have hlen := refs_len a0.data.toList
    have HS := Lib.hid (fun w => k_KindRefs a0.data.toList w h')
    have HI := Lib.hid (fun w => i_KindRefs a0.data.toList w h')
    generalize kRefs a0.data.toList = L at *
    generalize kOk a0.data.toList = b at *
    go_enter Try.func11, Try.ntmps11
    go_wp2_with fail
    refine (HS.out _).mono ?_
    rintro e w1 ⟨v, rfl, hv, hb1⟩
    have HV1 := Lib.hid hv; clear hv
    go_wp2_with fail
    refine (HI.out _).mono ?_
    rintro e w2 ⟨g, rfl, hg, hb2⟩
    have HV2 := Lib.hid (HV1.out.below hb2)
    have HG2 := Lib.hid hg; clear hg
    go_wp2_with fail
    refine (eqStringS g v L _ _ _ HG2.out HV2.out (by omega)).mono ?_
    rintro e w3 ⟨rfl, hb3⟩
    have HV3 := Lib.hid (HV2.out.below hb3)
    have HG3 := Lib.hid (HG2.out.below hb3)
    go_wp2_with fail
    refine (markStringS g L _ 1 _ HG3.out (by omega) (by omega)).mono ?_
    rintro e w4 ⟨rfl, hg4, hb4⟩
    have HG4 := Lib.hid hg4; clear hg4
    have HV4 := Lib.hid (HV3.out.marked HV1.out.low HG3.out (Nat.le_refl _) hb4)
    have hB4 := Strs.belowMark (show Below w.heap.size w w3 by (repeat (first | exact Below.refl _ _ | apply below_drew | apply below_draws | apply below_alloc | (refine below_trans ?_ (by assumption)) | (refine Below.trans ?_ (by assumption))))) HG3.out hb1.size hb4
    clear hb4
    go_wp2_with fail
    refine (heldStringS g L _ 1 _ HG4.out (by omega) (by omega)).mono ?_
    rintro e w5 ⟨rfl, hb5⟩
    have HV5 := Lib.hid (HV4.out.below hb5)
    have HG5 := Lib.hid (HG4.out.below hb5)
    go_wp2_with fail
    refine (HI.out _).mono ?_
    rintro e w6 ⟨h0, rfl, hh, hb6⟩
    have HH6 := Lib.hid hh; clear hh
    have HV6 := Lib.hid (HV5.out.below hb6)
    have HG6 := Lib.hid (HG5.out.below hb6)
    go_wp2_with fail
    refine (eqStringS h0 v L _ _ _ HH6.out HV6.out (by omega)).mono ?_
    rintro e w7 ⟨rfl, hb7⟩
    have HG7 := Lib.hid (HG6.out.below hb7)
    go_wp2_with fail
    refine (heldStringS g L _ 1 _ HG7.out (by omega) (by omega)).mono ?_
    rintro e w8 ⟨rfl, hb8⟩
    go_wp2_with fail
    go_ret
    exact ⟨rfl, below_trans (below_trans (below_trans (below_trans hB4 hb5) hb6) hb7) hb8⟩
  · go_enter Try.func11, Try.ntmps11
    go_wp2_with fail
    go_ret
    exact ⟨rfl, by (repeat (first | exact Below.refl _ _ | apply below_drew | apply below_draws | apply below_alloc | (refine below_trans ?_ (by assumption)) | (refine Below.trans ?_ (by assumption))))⟩
end Go.Proofs.Ytgaiagpfnfnnaaa
