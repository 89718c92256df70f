/- Chapter 1 of the model: what its functions return. -/
import Derived.Test.YtoeiohhaedabnaaBase
namespace Go.Proofs.Ytoeiohhaedabnaa
open Go.ChangeShapes Go.WideShapes Go.ChangeAt Go.RowKit M

theorem l6in (n a b : Int) (w : World) :
    Calls Try.prog 6 #[.int .i64 n, .int .i64 a, .int .i64 b] w fun e w' => e = .returned (.bool (decide (a ≤ n) && decide (n ≤ b))) ∧ w = w' := by
  go_enter Try.func6, Try.ntmps6
  go_wp2
  all_goals
    go_ret
    exact ⟨by congr 2; simp <;> omega, rfl⟩






set_option maxRecDepth 20000 in
theorem specNumGet (s : ByteArray) (w : World) (hs : s.size ≤ 2000000) :
    Calls Try.prog 9 #[.string s] w fun e w' => e = .returned (.tuple #[.int .i64 (numGet s.data.toList).1, .string (S (numGet s.data.toList).2.1), .bool (numGet s.data.toList).2.2]) ∧ Below w.heap.size w w' := by
  have hsz : s.data.toList.length = s.size := by simp
  have HSZ := Lib.hid hsz; clear hsz
  go_enter Try.func9, Try.ntmps9
  go_wp2
  go_loop [5, 6, 7] (fun n u i => ∃ (k : Nat) (p U : Int), k ≤ 3 ∧ k ≤ s.size ∧ i = .int .i64 k ∧ n = .int .i64 p ∧ u = .int .i64 U ∧ Hid (p = partL s.data.toList k ∧ U = 128 ^ k ∧ numGet s.data.toList = getFrom s.data.toList (3 - k) k)) (fun _ _ i => 3 - (intOf i).toNat)
  case atStart => exact ⟨0, 0, 1, by omega, by omega, rfl, rfl, rfl, rfl, rfl, rfl⟩
  case round =>
    obtain ⟨k, p, U, hk3, hk, rfl, rfl, rfl, hh⟩ := hrel
    obtain ⟨b0, b1⟩ : 0 ≤ p ∧ p ≤ 2097151 := by
      have h1 := partL_bd s.data.toList k hk3; have h2 := pow128 k hk3; rw [← hh.out.1] at h1; omega
    obtain ⟨c0, c1⟩ : 1 ≤ U ∧ U ≤ 2097152 := by have h2 := pow128 k hk3; rw [← hh.out.2.1] at h2; omega
    by_cases hlt : k < s.size
    · have B := byte_eq s k hlt
      obtain ⟨a, ha⟩ : ∃ a, at_ s.data.toList k = a := ⟨_, rfl⟩
      have a0 := at_lo s.data.toList k
      have a1 := at_hi s.data.toList k
      rw [ha] at B a0 a1
      have HA := Lib.hid ha; clear ha
      have m0 : 0 ≤ a % 128 * U := Int.mul_nonneg (by omega) (by omega)
      have m1 : a % 128 * U ≤ 127 * 2097152 := Int.mul_le_mul (by omega) (by omega) (by omega) (by omega)
      by_cases h3 : k < 3
      · have HF := Lib.hid (hh.out.2.2.trans (getFrom_in _ k a p U (by rw [HSZ.out]; exact hlt) h3 HA.out hh.out.1 hh.out.2.1))
        have hz : (a == 0) = true ∨ (a == 0) = false := by cases (a == 0) <;> simp
        rcases hz with hz | hz
        all_goals
          have hz' := hz
          simp only [beq_iff_eq, beq_eq_false_iff_ne] at hz'
          have HZ := Lib.hid hz'; clear hz'
          go_wp2_with fail
        all_goals
          have hz' := HZ.out
          first
          | (go_ret3; exact ⟨ret_isb (by rw [HF.out, if_pos (by omega), if_pos (by omega)]) (by rw [HF.out, if_pos (by omega), if_pos (by omega)]; rfl) (by rw [HF.out, if_pos (by omega), if_pos (by omega)]), Below.refl _ _⟩)
          | (clear hz'; go_round; (case rel => exact ⟨k + 1, _, _, by omega, by omega, by go_num, rfl, rfl, by rw [partL, HA.out, hh.out.1, hh.out.2.1], by rw [hh.out.2.1, Int.pow_succ], by rw [HF.out, if_neg (by omega)]⟩); (case measure => simp [intOf]; omega))
          | (clear hz'; go_quiet (fail); go_wp2; go_ret3; have hz' := HZ.out; exact ⟨ret_isb (by rw [HF.out, if_pos (by omega), if_neg (by omega)]) (by rw [HF.out, if_pos (by omega), if_neg (by omega)]; exact from_eq _ _) (by rw [HF.out, if_pos (by omega), if_neg (by omega)]), by (repeat (first | exact Below.refl _ _ | apply below_drew | apply below_draws | apply below_alloc | (refine below_trans ?_ (by assumption)) | (refine Below.trans ?_ (by assumption))))⟩)
      · have HF := Lib.hid (hh.out.2.2.trans (show _ = (0, [], false) by rw [show 3 - k = 0 from by omega]; rfl))
        go_wp2_with fail
        go_ret3
        exact ⟨ret_isb (by rw [HF.out]) (by rw [HF.out]; rfl) (by rw [HF.out]), Below.refl _ _⟩
    · have HF := Lib.hid (hh.out.2.2.trans (getFrom_out _ _ _ (by rw [HSZ.out]; omega)))
      go_wp2_with fail
      go_ret3
      exact ⟨ret_isb (by rw [HF.out]) (by rw [HF.out]; rfl) (by rw [HF.out]), Below.refl _ _⟩
end Go.Proofs.Ytoeiohhaedabnaa
