/- Chapter 1 of the model: what its functions return. -/
import Derived.Test.YtpacnjoggecfhaaBase
namespace Go.Proofs.Ytpacnjoggecfhaa
open Go.ChangeShapes Go.WideShapes Go.ChangeAt Go.RowKit M

theorem l6in (n a b : Int) (w : World) :
    Calls Try.prog 32 #[.int .i64 n, .int .i64 a, .int .i64 b] w fun e w' => e = .returned (.bool (decide (a ≤ n) && decide (n ≤ b))) ∧ w = w' := by
  go_enter Try.func32, Try.ntmps32
  go_wp2
  all_goals
    go_ret
    exact ⟨by congr 2; simp <;> omega, rfl⟩

theorem l1put0 (n : Int) (w : World) (h0 : 0 ≤ n) (h1 : n < 128) :
    Calls Try.prog 33 #[.int .i64 n] w fun e w' => e = .returned (.string (S [B8 n])) ∧ Below w.heap.size w w' := by
  have hc := conv1
  have hc1 := cellIs_some
  have hc2 := cellB_some
  go_enter Try.func33, Try.ntmps33
  go_wp2_with fail
  go_ret
  exact ⟨rfl, by (repeat (first | exact Below.refl _ _ | apply below_drew | apply below_draws | apply below_alloc | (refine below_trans ?_ (by assumption))))⟩
theorem l1put1 (n : Int) (w : World) (h0 : 128 ≤ n) (h1 : n < 100000000) (l : List UInt8) (hl : l.length ≤ 100)
    (ih : ∀ w, Calls Try.prog 33 #[.int .i64 (n / 128)] w fun e w' => e = .returned (.string (S l)) ∧ Below w.heap.size w w') :
    Calls Try.prog 33 #[.int .i64 n] w fun e w' => e = .returned (.string (S (B8 (128 + n % 128) :: l))) ∧ Below w.heap.size w w' := by
  have hc := conv1
  have hc1 := cellIs_some
  have hc2 := cellB_some
  have H := Lib.hid ih; clear ih
  have a1 : n.tmod 128 = n % 128 := IntWalk.rem_in _ _ (by omega)
  have a4 : n.tdiv 128 = n / 128 := Int.tdiv_eq_ediv_of_nonneg (by omega)
  have a2 : IntKind.i64.wrap (128 + n % 128) = 128 + n % 128 := IntWalk.i64_in _ (by omega)
  have a3 : IntKind.u8.wrap (128 + n % 128) = 128 + n % 128 := IntWalk.u8_in _ (by omega)
  have hcat := cat_run [B8 (128 + n % 128)] l (by simp; omega)
  have a5 : IntKind.i64.wrap (n / 128) = n / 128 := IntWalk.i64_in _ (by omega)
  go_enter Try.func33, Try.ntmps33
  go_wp2_with fail
  go_region_with (go_at_call 33; refine (H.out _).mono ?_; rintro e w' ⟨rfl, hb⟩; obtain ⟨hce, hfr⟩ := bcell hb)
  all_goals
    go_wp2
    go_ret
    refine ⟨rfl, by (repeat (first | exact Below.refl _ _ | apply below_drew | apply below_draws | apply below_alloc | (refine below_trans ?_ (by assumption))))⟩
theorem l1put (n : Int) (h0 : 0 ≤ n) (h1 : n < 2097152) (w : World) :
    Calls Try.prog 33 #[.int .i64 n] w fun e w' => e = .returned (.string (S (numBytes n))) ∧ Below w.heap.size w w' := by
  unfold numBytes
  by_cases c1 : n < 128
  · rw [if_pos c1]; exact l1put0 n w h0 c1
  · rw [if_neg c1]
    by_cases c2 : n < 16384
    · rw [if_pos c2]; exact l1put1 n w (by omega) (by omega) _ (by simp) (fun w => l1put0 _ w (by omega) (by omega))
    · rw [if_neg c2]
      exact l1put1 n w (by omega) (by omega) _ (by simp) (fun w => l1put1 _ w (by omega) (by omega) _ (by simp) (fun w => l1put0 _ w (by omega) (by omega)))

theorem specNumPut (n : Int) (w : World) :
    Calls Try.prog 15 #[.int .i64 n] w fun e w' => e = .returned (.tuple #[.string (S (numPut n)), .bool (isTold n)]) ∧ Below w.heap.size w w' := by
  unfold numPut
  by_cases h : 0 ≤ n ∧ n ≤ 999999
  · have hd : (decide (0 ≤ n) && decide (n ≤ 999999)) = true := by simp [h]
    rw [show isTold n = true from hd]
    obtain ⟨h0, h1⟩ := h
    go_enter Try.func15, Try.ntmps15
    go_wp2_with (first | (go_at_call 32; refine (l6in _ _ _ _).mono ?_; rintro e w' ⟨rfl, rfl⟩) | (go_at_call 33; refine (l1put n h0 (by omega) _).mono ?_; rintro e w' ⟨rfl, hb⟩))
    go_ret2
    exact ⟨rfl, by (repeat (first | exact Below.refl _ _ | apply below_drew | apply below_draws | apply below_alloc | (refine below_trans ?_ (by assumption))))⟩
  · have hd : (decide (0 ≤ n) && decide (n ≤ 999999)) = false := by
      rw [Bool.and_eq_false_iff, decide_eq_false_iff_not, decide_eq_false_iff_not]; omega
    rw [show isTold n = false from hd]
    go_enter Try.func15, Try.ntmps15
    go_wp2_with (go_at_call 32; refine (l6in _ _ _ _).mono ?_; rw [hd]; rintro e w' ⟨rfl, rfl⟩)
    go_ret2
    exact ⟨rfl, by (repeat (first | exact Below.refl _ _ | apply below_drew | apply below_draws | apply below_alloc | (refine below_trans ?_ (by assumption))))⟩

theorem specNumSize (n : Int) (w : World) :
    Calls Try.prog 21 #[.int .i64 n] w fun e w' => e = .returned (.int .i64 (numSize n)) ∧ Below w.heap.size w w' := by
  cases h : isTold n with
  | true =>
    have hl := numSize_len n h
    have HL := Lib.hid hl; clear hl
    have H := Lib.hid h; clear h
    go_enter Try.func21, Try.ntmps21
    go_wp2_with (go_at_call 15; refine (specNumPut _ _).mono ?_; rw [H.out]; rintro e w' ⟨rfl, hb⟩)
    go_ret
    exact ⟨ret_i (by rw [← HL.out, S_size]), by (repeat (first | exact Below.refl _ _ | apply below_drew | apply below_draws | apply below_alloc | (refine below_trans ?_ (by assumption))))⟩
  | false =>
    have H := Lib.hid h; clear h
    go_enter Try.func21, Try.ntmps21
    go_wp2_with (go_at_call 15; refine (specNumPut _ _).mono ?_; rw [H.out]; rintro e w' ⟨rfl, hb⟩)
    go_ret
    exact ⟨ret_i (by unfold numSize; rw [H.out]; rfl), by (repeat (first | exact Below.refl _ _ | apply below_drew | apply below_draws | apply below_alloc | (refine below_trans ?_ (by assumption))))⟩

theorem specFoldNum (n : Int) (w : World) :
    Calls Try.prog 24 #[.int .i64 n] w fun e w' => e = .returned (.tuple #[.int .i64 (foldV n), .bool (foldB n)]) ∧ w = w' := by
  unfold foldV
  by_cases h : -499999 ≤ n ∧ n ≤ 499999
  · have hd : (decide (-499999 ≤ n) && decide (n ≤ 499999)) = true := by simp [h]
    rw [show foldB n = true from hd]
    obtain ⟨h0, h1⟩ := h
    go_enter Try.func24, Try.ntmps24
    go_wp2_with (go_at_call 32; refine (l6in _ _ _ _).mono ?_; rintro e w' ⟨rfl, rfl⟩)
    all_goals
      go_ret2
      exact ⟨ret_ib (by (try rw [if_pos rfl]); (try split) <;> omega) rfl, rfl⟩
  · have hd : (decide (-499999 ≤ n) && decide (n ≤ 499999)) = false := by
      rw [Bool.and_eq_false_iff, decide_eq_false_iff_not, decide_eq_false_iff_not]; omega
    rw [show foldB n = false from hd]
    go_enter Try.func24, Try.ntmps24
    go_wp2_with (go_at_call 32; refine (l6in _ _ _ _).mono ?_; rw [hd]; rintro e w' ⟨rfl, rfl⟩)
    go_ret2
    exact ⟨rfl, rfl⟩

theorem specOpenNum (n : Int) (w : World) :
    Calls Try.prog 27 #[.int .i64 n] w fun e w' => e = .returned (.tuple #[.int .i64 (openV n), .bool (openB n)]) ∧ w = w' := by
  by_cases h : 0 ≤ n ∧ n ≤ 999999
  · have hd : (decide (0 ≤ n) && decide (n ≤ 999999)) = true := by simp [h]
    obtain ⟨h0, h1⟩ := h
    have hq : (-(n + 1)).tdiv 2 = -((n + 1) / 2) := by rw [Int.neg_tdiv, Int.tdiv_eq_ediv_of_nonneg (by omega)]
    have T : ∀ (x : Int) (w : World), foldB x = true → foldV x = n → Calls Try.prog 24 #[.int .i64 x] w fun e w' => e = .returned (.tuple #[.int .i64 n, .bool true]) ∧ w = w' := fun x w hb hv => by
      have := specFoldNum x w
      rwa [hb, hv] at this
    by_cases hm : n ≤ 999998
    · have hob : openB n = true := by simp [openB, h0, hm]
      have HOB := Lib.hid hob; clear hob
      by_cases ho : n % 2 = 1
      · have ho' : (n % 2 == 1) = true := by simp [ho]
        have hfb : foldB (-((n + 1) / 2)) = true := by simp only [foldB, Bool.and_eq_true, decide_eq_true_eq]; omega
        have hfv : foldV (-((n + 1) / 2)) = n := by unfold foldV; rw [if_pos hfb, if_pos (by omega)]; omega
        have hov : openV n = -((n + 1) / 2) := by unfold openV; rw [if_pos HOB.out, if_pos ho]
        have HOV := Lib.hid hov; clear hov
        have TT := Lib.hid (fun w => T _ w hfb hfv); clear T hfb hfv ho
        go_enter Try.func27, Try.ntmps27
        go_wp2_with (first | (go_at_call 24; refine (TT.out _).mono ?_; rintro e w' ⟨rfl, rfl⟩) | (go_at_call 32; refine (l6in _ _ _ _).mono ?_; rw [hd]; rintro e w' ⟨rfl, rfl⟩))
        go_ret2
        exact ⟨ret_ib HOV.out.symm HOB.out.symm, rfl⟩
      · have ho' : (n % 2 == 1) = false := by simp [ho]
        have hfb : foldB (n / 2) = true := by simp only [foldB, Bool.and_eq_true, decide_eq_true_eq]; omega
        have hfv : foldV (n / 2) = n := by unfold foldV; rw [if_pos hfb, if_neg (by omega)]; omega
        have hov : openV n = n / 2 := by unfold openV; rw [if_pos HOB.out, if_neg ho]
        have HOV := Lib.hid hov; clear hov
        have TT := Lib.hid (fun w => T _ w hfb hfv); clear T hfb hfv ho
        go_enter Try.func27, Try.ntmps27
        go_wp2_with (first | (go_at_call 24; refine (TT.out _).mono ?_; rintro e w' ⟨rfl, rfl⟩) | (go_at_call 32; refine (l6in _ _ _ _).mono ?_; rw [hd]; rintro e w' ⟨rfl, rfl⟩))
        go_ret2
        exact ⟨ret_ib HOV.out.symm HOB.out.symm, rfl⟩
    · obtain rfl : n = 999999 := by omega
      clear T
      have TT : ∀ w, Calls Try.prog 24 #[.int .i64 (-500000)] w fun e w' => e = .returned (.tuple #[.int .i64 0, .bool false]) ∧ w = w' := fun w => specFoldNum (-500000) w
      have HT := Lib.hid TT; clear TT
      go_enter Try.func27, Try.ntmps27
      go_wp2_with (first | (go_at_call 24; refine (HT.out _).mono ?_; rintro e w' ⟨rfl, rfl⟩) | (go_at_call 32; refine (l6in _ _ _ _).mono ?_; rw [hd]; rintro e w' ⟨rfl, rfl⟩))
      go_ret2
      exact ⟨rfl, rfl⟩
  · have hd : (decide (0 ≤ n) && decide (n ≤ 999999)) = false := by
      rw [Bool.and_eq_false_iff, decide_eq_false_iff_not, decide_eq_false_iff_not]; omega
    have hob : openB n = false := by
      unfold openB
      rw [Bool.and_eq_false_iff, decide_eq_false_iff_not, decide_eq_false_iff_not]; omega
    have hov : openV n = 0 := by unfold openV; rw [hob]; rfl
    have HOV := Lib.hid hov; clear hov
    have HOB := Lib.hid hob; clear hob
    go_enter Try.func27, Try.ntmps27
    go_wp2_with (first | (go_at_call 24; refine (specFoldNum _ _).mono ?_; rintro e w' ⟨rfl, rfl⟩) | (go_at_call 32; refine (l6in _ _ _ _).mono ?_; rw [hd]; rintro e w' ⟨rfl, rfl⟩))
    all_goals
      go_ret2
      exact ⟨ret_ib HOV.out.symm HOB.out.symm, rfl⟩

set_option maxRecDepth 20000 in
theorem specNumGet (s : ByteArray) (w : World) (hs : s.size ≤ 2000000) :
    Calls Try.prog 19 #[.string s] w fun e w' => e = .returned (.tuple #[.int .i64 (numGet s.data.toList).1, .string (S (numGet s.data.toList).2.1), .bool (numGet s.data.toList).2.2]) ∧ Below w.heap.size w w' := by
  have hsz : s.data.toList.length = s.size := by simp
  have HSZ := Lib.hid hsz; clear hsz
  go_enter Try.func19, Try.ntmps19
  go_wp2
  go_loop [5, 6, 7] (fun n u i => ∃ (k : Nat) (p U : Int), k ≤ 3 ∧ k ≤ s.size ∧ i = .int .i64 k ∧ n = .int .i64 p ∧ u = .int .i64 U ∧ Hid (p = partL s.data.toList k ∧ U = 128 ^ k ∧ numGet s.data.toList = getFrom s.data.toList (3 - k) k)) (fun _ _ i => 3 - (intOf i).toNat)
  case atStart => exact ⟨0, 0, 1, by omega, by omega, rfl, rfl, rfl, rfl, rfl, rfl⟩
  case round =>
    obtain ⟨k, p, U, hk3, hk, rfl, rfl, rfl, hh⟩ := hrel
    obtain ⟨b0, b1⟩ : 0 ≤ p ∧ p ≤ 2097151 := by
      have h1 := partL_bd s.data.toList k hk3; have h2 := pow128 k hk3; rw [← hh.out.1] at h1; omega
    obtain ⟨c0, c1⟩ : 1 ≤ U ∧ U ≤ 2097152 := by have h2 := pow128 k hk3; rw [← hh.out.2.1] at h2; omega
    by_cases hlt : k < s.size
    · have B := byte_eq s k hlt
      obtain ⟨a, ha⟩ : ∃ a, at_ s.data.toList k = a := ⟨_, rfl⟩
      have a0 := at_lo s.data.toList k
      have a1 := at_hi s.data.toList k
      rw [ha] at B a0 a1
      have HA := Lib.hid ha; clear ha
      have m0 : 0 ≤ a % 128 * U := Int.mul_nonneg (by omega) (by omega)
      have m1 : a % 128 * U ≤ 127 * 2097152 := Int.mul_le_mul (by omega) (by omega) (by omega) (by omega)
      by_cases h3 : k < 3
      · have HF := Lib.hid (hh.out.2.2.trans (getFrom_in _ k a p U (by rw [HSZ.out]; exact hlt) h3 HA.out hh.out.1 hh.out.2.1))
        have hz : (a == 0) = true ∨ (a == 0) = false := by cases (a == 0) <;> simp
        rcases hz with hz | hz
        all_goals
          have hz' := hz
          simp only [beq_iff_eq, beq_eq_false_iff_ne] at hz'
          have HZ := Lib.hid hz'; clear hz'
          go_wp2_with fail
        all_goals
          have hz' := HZ.out
          first
          | (go_ret3; exact ⟨ret_isb (by rw [HF.out, if_pos (by omega), if_pos (by omega)]) (by rw [HF.out, if_pos (by omega), if_pos (by omega)]; rfl) (by rw [HF.out, if_pos (by omega), if_pos (by omega)]), Below.refl _ _⟩)
          | (clear hz'; go_round; (case rel => exact ⟨k + 1, _, _, by omega, by omega, by go_num, rfl, rfl, by rw [partL, HA.out, hh.out.1, hh.out.2.1], by rw [hh.out.2.1, Int.pow_succ], by rw [HF.out, if_neg (by omega)]⟩); (case measure => simp [intOf]; omega))
          | (clear hz'; go_quiet (fail); go_wp2; go_ret3; have hz' := HZ.out; exact ⟨ret_isb (by rw [HF.out, if_pos (by omega), if_neg (by omega)]) (by rw [HF.out, if_pos (by omega), if_neg (by omega)]; exact from_eq _ _) (by rw [HF.out, if_pos (by omega), if_neg (by omega)]), by (repeat (first | exact Below.refl _ _ | apply below_drew | apply below_draws | apply below_alloc | (refine below_trans ?_ (by assumption))))⟩)
      · have HF := Lib.hid (hh.out.2.2.trans (show _ = (0, [], false) by rw [show 3 - k = 0 from by omega]; rfl))
        go_wp2_with fail
        go_ret3
        exact ⟨ret_isb (by rw [HF.out]) (by rw [HF.out]; rfl) (by rw [HF.out]), Below.refl _ _⟩
    · have HF := Lib.hid (hh.out.2.2.trans (getFrom_out _ _ _ (by rw [HSZ.out]; omega)))
      go_wp2_with fail
      go_ret3
      exact ⟨ret_isb (by rw [HF.out]) (by rw [HF.out]; rfl) (by rw [HF.out]), Below.refl _ _⟩
end Go.Proofs.Ytpacnjoggecfhaa
