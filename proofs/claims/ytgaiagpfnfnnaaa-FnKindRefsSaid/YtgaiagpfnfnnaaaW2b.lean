/- The other laws of chapter 2. -/
import Derived.Test.YtgaiagpfnfnnaaaS2
import Derived.Test.YtgaiagpfnfnnaaaI2
import Derived.Test.YtgaiagpfnfnnaaaD2
import Derived.Test.YtgaiagpfnfnnaaaStrs
namespace Go.Proofs.Ytgaiagpfnfnnaaa
open Go.ChangeShapes Go.WideShapes Go.ChangeAt Go.RowKit M

theorem walk_FnKindOk (a0 : Option Addr) (len0 cap0 : Nat) (z0 : List Int) (w : World) (h0 : IsRow .u8 w a0 len0 cap0 z0) :
    Calls Try.prog 3 #[.slice a0 len0 cap0] w fun e w' => e = .returned (.bool true) ∧ Below w.heap.size w w' := by
  have H := Lib.hid h0; clear h0
  by_cases hl : len0 ≤ 1048576
  · go_enter Try.func3, Try.ntmps3
    go_wp2_with fail
    refine (d_DrawKindOk H.out).mono ?_
    rintro e w1 ⟨l, rfl, hl2, hb⟩
    have HL := Lib.hid (law_KindOk l)
    have hs : l.length ≤ 2000000 := by omega
    have HO := Lib.hid (show (kindR l).isSome = kOk l from rfl)
    cases hk : kOk l with
    | true =>
      have HK := Lib.hid hk
      have hd : decide (0 ≤ kDeep l) = true := by rw [← HL.out, hk]
      have hd2 : 0 ≤ kDeep l := of_decide_eq_true hd
      clear hk hd
      go_wp2_with (first | (go_at_call 15; refine (k_KindOk l _ hs).mono ?_; rw [HO.out, HK.out]; rintro e w' ⟨rfl, rfl⟩) | (go_at_call 14; refine (i_KindOk l _ hs).mono ?_; rw [HK.out]; rintro e w' ⟨rfl, rfl⟩) | (go_at_call 16; refine (i_KindDeep l _ hs).mono ?_; rintro e w' ⟨rfl, rfl⟩))
      go_ret
      exact ⟨rfl, hb⟩
    | false =>
      have HK := Lib.hid hk
      have hd : decide (0 ≤ kDeep l) = false := by rw [← HL.out, hk]
      have hd2 : ¬ 0 ≤ kDeep l := of_decide_eq_false hd
      clear hk hd
      go_wp2_with (first | (go_at_call 15; refine (k_KindOk l _ hs).mono ?_; rw [HO.out, HK.out]; rintro e w' ⟨rfl, rfl⟩) | (go_at_call 14; refine (i_KindOk l _ hs).mono ?_; rw [HK.out]; rintro e w' ⟨rfl, rfl⟩) | (go_at_call 16; refine (i_KindDeep l _ hs).mono ?_; rintro e w' ⟨rfl, rfl⟩))
      go_ret
      exact ⟨ret_b (by simp; omega), hb⟩
  · go_enter Try.func3, Try.ntmps3
    go_wp2_with fail
    go_ret
    exact ⟨rfl, by (repeat (first | exact Below.refl _ _ | apply below_drew | apply below_draws | apply below_alloc | (refine below_trans ?_ (by assumption)) | (refine Below.trans ?_ (by assumption))))⟩
theorem walk_FnKindPart (a0 : Option Addr) (len0 cap0 : Nat) (z0 : List Int) (w : World) (h0 : IsRow .u8 w a0 len0 cap0 z0) :
    Calls Try.prog 4 #[.slice a0 len0 cap0] w fun e w' => e = .returned (.bool true) ∧ Below w.heap.size w w' := by
  have H := Lib.hid h0; clear h0
  by_cases hl : len0 ≤ 1048576
  · go_enter Try.func4, Try.ntmps4
    go_wp2_with fail
    refine (d_DrawKindPart H.out).mono ?_
    rintro e w1 ⟨l, rfl, hl2, hb⟩
    have hs : l.length ≤ 2000000 := by omega
    cases hk : kPartB l with
    | true =>
      obtain ⟨q1, q2, q3, q4, q5, -⟩ := law_KindPart l hk
      obtain ⟨m, hm⟩ : ∃ m, kPartV l = m := ⟨_, rfl⟩
      have hs2 : m.length ≤ 2000000 := by rw [← hm, q2]; simp; omega
      rw [hm] at q1 q2
      have HK := Lib.hid (And.intro hk hm)
      have HQ := Lib.hid q1
      have HM := Lib.hid q2
      clear q1 q2 hk hm
      obtain ⟨d, hd⟩ : ∃ d, kDeep l = d := ⟨_, rfl⟩
      have HD := Lib.hid hd
      rw [hd] at q4 q5
      clear hd
      have hi : IntKind.i64.wrap (d - 1) = d - 1 := IntWalk.i64_in _ (by omega)
      go_wp2_with (first | (go_at_call 19; refine (k_KindPart l _ hs).mono ?_; rw [HK.out.1, HK.out.2]; rintro e w' ⟨rfl, rfl⟩) | (go_at_call 18; refine (i_KindPart l _ hs).mono ?_; rw [HK.out.1, HK.out.2]; rintro e w' ⟨rfl, rfl⟩) | (go_at_call_of 16 (S l); refine (i_KindDeep l _ hs).mono ?_; rw [HD.out]; rintro e w' ⟨rfl, rfl⟩) | (go_at_call_of 16 (S m); refine (i_KindDeep m _ hs2).mono ?_; rw [HQ.out, HD.out]; rintro e w' ⟨rfl, rfl⟩))
      go_ret
      exact ⟨ret_b (by rw [HM.out, List.drop_one]; simp), hb⟩
    | false =>
      have HK := Lib.hid hk; clear hk
      go_wp2_with (first | (go_at_call 19; refine (k_KindPart l _ hs).mono ?_; rw [HK.out]; rintro e w' ⟨rfl, rfl⟩) | (go_at_call 18; refine (i_KindPart l _ hs).mono ?_; rw [HK.out]; rintro e w' ⟨rfl, rfl⟩))
      go_ret
      exact ⟨rfl, hb⟩
  · go_enter Try.func4, Try.ntmps4
    go_wp2_with fail
    go_ret
    exact ⟨rfl, by (repeat (first | exact Below.refl _ _ | apply below_drew | apply below_draws | apply below_alloc | (refine below_trans ?_ (by assumption)) | (refine Below.trans ?_ (by assumption))))⟩
theorem walk_FnKindName (a0 : Option Addr) (len0 cap0 : Nat) (z0 : List Int) (w : World) (h0 : IsRow .u8 w a0 len0 cap0 z0) :
    Calls Try.prog 5 #[.slice a0 len0 cap0] w fun e w' => e = .returned (.bool true) ∧ Below w.heap.size w w' := by
  have H := Lib.hid h0; clear h0
  by_cases hl : len0 ≤ 1048576
  · go_enter Try.func5, Try.ntmps5
    go_wp2_with fail
    refine (d_DrawKindName H.out).mono ?_
    rintro e w1 ⟨l, rfl, hl2, hb⟩
    have hs : l.length ≤ 2000000 := by omega
    cases hk : kNameB l with
    | true =>
      obtain ⟨q1, q2⟩ := law_KindName l hk
      have HK := Lib.hid (And.intro hk q1)
      have q3 := congrArg List.length q1
      simp at q3
      have q4 : (kNameV l).length ≤ 12 := by omega
      clear hk q1 q3
      have HI := Lib.hid (fun w => i_KindName l w hs)
      have HS := Lib.hid (fun w => k_KindName l w hs)
      generalize kNameV l = n at *
      have hcat1 := cat_run [64] n (by simp; omega)
      have hcat2 := cat_run ([64] ++ n) [59] (by simp; omega)
      have hcat2' : ∀ w, (Op.stringOp .add (S (64 :: n)) (S [59])).run Try.prog w = .ok (.string (S l)) w := fun w => by have := hcat2 w; simp only [List.cons_append, List.nil_append] at this; rw [this, HK.out.2]
      clear hcat2
      go_wp2_with (first | (go_at_call 22; refine (HS.out _).mono ?_; rw [HK.out.1]; rintro e w' ⟨rfl, rfl⟩) | (go_at_call 21; refine (HI.out _).mono ?_; rw [HK.out.1]; rintro e w' ⟨rfl, rfl⟩))
      go_ret
      exact ⟨ret_b (by rw [HK.out.2]; simp), hb⟩
    | false =>
      have HK := Lib.hid hk; clear hk
      go_wp2_with (first | (go_at_call 22; refine (k_KindName l _ hs).mono ?_; rw [HK.out]; rintro e w' ⟨rfl, rfl⟩) | (go_at_call 21; refine (i_KindName l _ hs).mono ?_; rw [HK.out]; rintro e w' ⟨rfl, rfl⟩))
      go_ret
      exact ⟨rfl, hb⟩
  · go_enter Try.func5, Try.ntmps5
    go_wp2_with fail
    go_ret
    exact ⟨rfl, by (repeat (first | exact Below.refl _ _ | apply below_drew | apply below_draws | apply below_alloc | (refine below_trans ?_ (by assumption)) | (refine Below.trans ?_ (by assumption))))⟩
theorem walk_FnKindRefs (a0 : Option Addr) (len0 cap0 : Nat) (z0 : List Int) (w : World) (h0 : IsRow .u8 w a0 len0 cap0 z0) :
    Calls Try.prog 6 #[.slice a0 len0 cap0] w fun e w' => e = .returned (.bool true) ∧ Below w.heap.size w w' := by
  have H := Lib.hid h0; clear h0
  by_cases hl : len0 ≤ 1048576
  · go_enter Try.func6, Try.ntmps6
    go_wp2_with fail
    refine (d_DrawKindRefs H.out).mono ?_
    rintro e w1 ⟨l, rfl, hl2, hb1⟩
    have hs : l.length ≤ 2000000 := by omega
    have hps := kPart_short l
    have hs2 : (kPartV l).length ≤ 2000000 := by omega
    have hR := refs_len l
    have HI := Lib.hid (fun w => i_KindRefs l w hs)
    have HS := Lib.hid (fun w => k_KindRefs l w hs)
    have HP := Lib.hid (fun w => i_KindPart l w hs)
    have HP2 := Lib.hid (fun w => i_KindRefs (kPartV l) w hs2)
    have HB := Lib.hid (show kPartB l = true → kRefs (kPartV l) = kRefs l from fun h => (law_KindPart l h).2.2.2.2.2)
    generalize kRefs (kPartV l) = L' at *
    generalize kOk (kPartV l) = b' at *
    generalize kPartV l = m at *
    generalize kRefs l = L at *
    generalize kPartB l = pb at *
    have HK := Lib.hid (show kOk l = kOk l from rfl)
    go_wp2_with fail
    refine (HI.out _).mono ?_
    rintro e w2 ⟨g, rfl, hg, hb2⟩
    have HG2 := Lib.hid hg; clear hg
    go_wp2_with fail
    refine (HS.out _).mono ?_
    rintro e w3 ⟨v, rfl, hv, hb3⟩
    have HV3 := Lib.hid hv; clear hv
    have HG3 := Lib.hid (HG2.out.below hb3)
    generalize kOk l = kb at *
    obtain ⟨ao, cap, rfl, hc, hf⟩ := HG3.out.form
    have HF := Lib.hid hf; clear hf
    cases kb with
    | false =>
      go_wp2_with fail
      refine (wfTexts _ v L _ _ _ HG3.out HV3.out (by omega)).mono ?_
      rintro e w4 ⟨rfl, hb4⟩
      go_wp2_with fail
      go_ret
      exact ⟨rfl, by (repeat (first | exact Below.refl _ _ | apply below_drew | apply below_draws | apply below_alloc | (refine below_trans ?_ (by assumption)) | (refine Below.trans ?_ (by assumption))))⟩
    | true =>
      go_wp2_with fail
      refine (wfTexts _ v L _ _ _ HG3.out HV3.out (by omega)).mono ?_
      rintro e w4 ⟨rfl, hb4⟩
      have HG4 := Lib.hid (HG3.out.below hb4)
      go_wp2_with fail
      refine (HP.out _).mono ?_
      rintro e w5 ⟨rfl, rfl⟩
      go_wp2_with fail
      refine (HP2.out _).mono ?_
      rintro e w6 ⟨q, rfl, hq, hb6⟩
      have HQ6 := Lib.hid hq; clear hq
      have HG6 := Lib.hid (HG4.out.below hb6)
      cases pb with
      | false =>
        go_wp2_with fail
        go_ret
        exact ⟨ret_b (by first | (simp; done) | (simp; omega)), by (repeat (first | exact Below.refl _ _ | apply below_drew | apply below_draws | apply below_alloc | (refine below_trans ?_ (by assumption)) | (refine Below.trans ?_ (by assumption))))⟩
      | true =>
        obtain rfl := HB.out rfl
        go_wp2_with fail
        refine (wfTexts q _ L' _ _ _ HQ6.out HG6.out (by omega)).mono ?_
        rintro e w7 ⟨rfl, hb7⟩
        go_wp2_with fail
        go_ret
        exact ⟨ret_b (by first | (simp; done) | (simp; omega)), by (repeat (first | exact Below.refl _ _ | apply below_drew | apply below_draws | apply below_alloc | (refine below_trans ?_ (by assumption)) | (refine Below.trans ?_ (by assumption))))⟩
  · go_enter Try.func6, Try.ntmps6
    go_wp2_with fail
    go_ret
    exact ⟨rfl, by (repeat (first | exact Below.refl _ _ | apply below_drew | apply below_draws | apply below_alloc | (refine below_trans ?_ (by assumption)) | (refine Below.trans ?_ (by assumption))))⟩
theorem walk_FnKindDeep (a0 : Option Addr) (len0 cap0 : Nat) (z0 : List Int) (w : World) (h0 : IsRow .u8 w a0 len0 cap0 z0) :
    Calls Try.prog 7 #[.slice a0 len0 cap0] w fun e w' => e = .returned (.bool true) ∧ Below w.heap.size w w' := by
  have H := Lib.hid h0; clear h0
  by_cases hl : len0 ≤ 1048576
  · go_enter Try.func7, Try.ntmps7
    go_wp2_with fail
    refine (d_DrawKindDeep H.out).mono ?_
    rintro e w1 ⟨l, rfl, hl2, hb⟩
    have hs : l.length ≤ 2000000 := by omega
    rcases deep_cases l with hd | ⟨n, d, hk, hd, hd12⟩
    · have HD := Lib.hid hd; clear hd
      go_wp2_with (first | (go_at_call 28; refine (k_KindDeep l _ hs).mono ?_; rw [HD.out]; rintro e w' ⟨rfl, rfl⟩) | (go_at_call 16; refine (i_KindDeep l _ hs).mono ?_; rw [HD.out]; rintro e w' ⟨rfl, rfl⟩))
      go_ret
      exact ⟨rfl, hb⟩
    · have HD := Lib.hid hd; clear hd
      have HK := Lib.hid hk; clear hk
      go_wp2_with (first | (go_at_call 28; refine (k_KindDeep l _ hs).mono ?_; rw [HD.out]; rintro e w' ⟨rfl, rfl⟩) | (go_at_call 16; refine (i_KindDeep l _ hs).mono ?_; rw [HD.out]; rintro e w' ⟨rfl, rfl⟩))
      go_loop [3, 7] (fun s i => ∃ (m : List UInt8) (k : Nat), s = .string (S m) ∧ i = .int .i64 k ∧ k ≤ d ∧ m.length ≤ 20 ∧ Hid (kindR m = some (n, d - k))) (fun _ i => d + 1 - (intOf i).toNat)
      case atStart => exact ⟨l, 0, rfl, rfl, by omega, hl2, HK.out⟩
      case round =>
        obtain ⟨m, k, rfl, rfl, hkd, hml, HM⟩ := hrel
        have hp := part_deep HM.out
        by_cases hlt : k < d
        · have HP := Lib.hid (show kPartB m = true ∧ kPartV m = m.drop 1 by rw [hp.1, hp.2]; exact ⟨by simp; omega, by rw [if_neg (by omega)]⟩)
          have HN := Lib.hid (kindR_drop (l := m) (n := n) (d := d - (k + 1)) (by rw [HM.out]; congr 2; omega))
          clear hp
          go_wp2_with (go_at_call 18; refine (i_KindPart m _ (by omega)).mono ?_; rw [HP.out.1, HP.out.2]; rintro e w' ⟨rfl, rfl⟩)
          go_round
          case rel => exact ⟨m.drop 1, k + 1, by rw [List.drop_one], by go_num, by omega, by simp; omega, HN.out⟩
          case measure => simp [intOf]; omega
        · have HP := Lib.hid (show kPartB m = false ∧ kPartV m = [] by rw [hp.1, hp.2]; exact ⟨by simp; omega, by rw [if_pos (by omega)]⟩)
          clear hp
          have hke : (((k : Nat) : Int) == ((d : Nat) : Int)) = true := by simp; omega
          go_wp2_with (go_at_call 18; refine (i_KindPart m _ (by omega)).mono ?_; rw [HP.out.1, HP.out.2]; rintro e w' ⟨rfl, rfl⟩)
          go_ret
          exact ⟨rfl, hb⟩
  · go_enter Try.func7, Try.ntmps7
    go_wp2_with fail
    go_ret
    exact ⟨rfl, by (repeat (first | exact Below.refl _ _ | apply below_drew | apply below_draws | apply below_alloc | (refine below_trans ?_ (by assumption)) | (refine Below.trans ?_ (by assumption))))⟩
end Go.Proofs.Ytgaiagpfnfnnaaa
