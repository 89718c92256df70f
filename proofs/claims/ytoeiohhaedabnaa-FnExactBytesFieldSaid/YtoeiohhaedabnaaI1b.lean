/- Chapter 1 of the program, its exported functions. -/
import Derived.Test.YtoeiohhaedabnaaI1
import Derived.Test.YtoeiohhaedabnaaM1b
import Derived.ChangeKeysEq
namespace Go.Proofs.Ytoeiohhaedabnaa
open Go.ChangeShapes Go.WideShapes Go.ChangeAt Go.RowKit M

theorem run_equalIn_u8 (d : Nat) (a b : Int) (w : World) : (Op.equalIn (d + 1) 5 (.int .u8 a) (.int .u8 b)).run Try.prog w = .ok (a == b) w := by
  simp [Op.equalIn, run_underlying Try.underlying5]
theorem info_u8 : ∃ i, Try.prog.info? 5 = some i := by
  have h : (Try.prog.info? 5).isSome = true := by kernel_rfl
  exact Option.isSome_iff_exists.1 h
theorem part_0 (a b c : Int) (w : World) : (part 5 #[.int .u8 a, .int .u8 b, .int .u8 c] 0).run Try.prog w = .ok (.int .u8 a) w := by kernel_rfl
theorem part_1 (a b c : Int) (w : World) : (part 5 #[.int .u8 a, .int .u8 b, .int .u8 c] 1).run Try.prog w = .ok (.int .u8 b) w := by kernel_rfl
theorem part_2 (a b c : Int) (w : World) : (part 5 #[.int .u8 a, .int .u8 b, .int .u8 c] 2).run Try.prog w = .ok (.int .u8 c) w := by kernel_rfl
theorem dv_neq (a b c x y z : Int) (w : World) : (binOp .neq 41 (.agg #[.int .u8 a, .int .u8 b, .int .u8 c]) (.agg #[.int .u8 x, .int .u8 y, .int .u8 z])).run Try.prog w = .ok (.bool (!(a == x && (b == y && c == z)))) w := by
  obtain ⟨i, hi⟩ := info_u8
  have h : (Op.equal 41 (.agg #[.int .u8 a, .int .u8 b, .int .u8 c]) (.agg #[.int .u8 x, .int .u8 y, .int .u8 z])).run Try.prog w = .ok (a == x && (b == y && c == z)) w := by
    unfold Op.equal Op.maxDepth
    rw [show (10000 : Nat) = 9999 + 1 from rfl, run_equalIn_array w 9999 #[.int .u8 a, .int .u8 b, .int .u8 c] #[.int .u8 x, .int .u8 y, .int .u8 z] Try.underlying41 hi]
    have hc : Try.prog.cellsOf 5 = 1 := by kernel_rfl
    have he : ∀ (a b : Int) (w : World), (Op.equalIn 9999 5 (.int .u8 a) (.int .u8 b)).run Try.prog w = .ok (a == b) w := fun a b w => run_equalIn_u8 9998 a b w
    rw [hc]
    simp only [Op.eqItems, List.range_succ, List.range_zero, List.nil_append, List.cons_append, Sem.run_bind, Nat.mul_one, part_0, Result.andThen_ok, he]
    by_cases h1 : a = x <;> by_cases h2 : b = y <;> by_cases h3 : c = z <;> simp [he, part_1, part_2, h1, h2, h3]
  simp [binOp, h]

theorem digitsOf_any (n : Int) (w : World) (h0 : 0 ≤ n) (h1 : n ≤ 999999) :
    Calls Try.prog 17 #[.int .i64 n] w fun e w' => (∃ k, e = .returned (.tuple #[dv (digX n) (digY n) (digZ n), .int .i64 k])) ∧ Below w.heap.size w w' := by
  unfold digX digY digZ
  by_cases c1 : n < 128
  · rw [if_pos c1, if_pos c1, if_pos (by omega)]
    exact (digitsOf0 n w h0 c1).mono fun e w' h => ⟨⟨_, h.1⟩, h.2⟩
  · rw [if_neg c1, if_neg c1]
    by_cases c2 : n < 16384
    · rw [if_pos c2, if_pos c2]
      exact (digitsOf1 n w (by omega) c2).mono fun e w' h => ⟨⟨_, h.1⟩, h.2⟩
    · rw [if_neg c2, if_neg c2]
      exact (digitsOf2 n w (by omega) h1).mono fun e w' h => ⟨⟨_, h.1⟩, h.2⟩

theorem numberOf_any (a b c : Int) (w : World) (a0 : 0 ≤ a) (a1 : a < 256) (b0 : 0 ≤ b) (b1 : b < 256) (c0 : 0 ≤ c) (c1 : c < 256) :
    Calls Try.prog 15 #[.agg #[.int .u8 a, .int .u8 b, .int .u8 c]] w fun e w' => e = .returned (.int .i64 (num3 a b c)) ∧ Below w.heap.size w w' := numberOf a b c w a0 a1 b0 b1 c0 c1

theorem numGet_at (s : ByteArray) (a b c : Int) (k : Nat) (w : World) (_hs : s.size ≤ 2000000) (hk : k ≤ s.size) (a0 : 0 ≤ a) (a1 : a < 256) (b0 : 0 ≤ b) (b1 : b < 256) (c0 : 0 ≤ c) (c1 : c < 256)
    (hA : ∀ w, Calls Try.prog 14 #[.string s] w fun e w' => e = .returned (.tuple #[dv a b c, .int .i64 k, .bool true]) ∧ Below w.heap.size w w')
    (n : Int) (hn : num3 a b c = n) (r : List UInt8) (ok : Bool) (m : Int)
    (hy : M.isTold n = true → digX n = a → digY n = b → digZ n = c → ok = true ∧ r = s.data.toList.drop k ∧ m = n)
    (hno : ¬ (M.isTold n = true ∧ digX n = a ∧ digY n = b ∧ digZ n = c) → ok = false ∧ r = [] ∧ m = 0) :
    Calls Try.prog 13 #[.string s] w fun e w' => e = .returned (.tuple #[.int .i64 m, .string (S r), .bool ok]) ∧ Below w.heap.size w w' := by
  have HA := Lib.hid hA; clear hA
  have HY := Lib.hid hy; clear hy
  have HNO := Lib.hid hno; clear hno
  have HN := Lib.hid hn; clear hn
  have hnb := num3_bd a b c
  rw [HN.out] at hnb
  obtain ⟨n0, n1⟩ := hnb
  cases ht : M.isTold n with
  | false =>
    have HT := Lib.hid ht; clear ht
    obtain ⟨rfl, rfl, rfl⟩ := HNO.out (fun h => by rw [HT.out] at h; exact Bool.noConfusion h.1)
    go_enter Try.func13, Try.ntmps13
    go_wp2_with (first | (go_at_call 14; refine (HA.out _).mono ?_; unfold dv; rintro e w' ⟨rfl, hb⟩) | (go_at_call 15; refine (numberOf_any a b c _ a0 a1 b0 b1 c0 c1).mono ?_; rw [HN.out]; rintro e w2 ⟨rfl, hb2⟩; obtain ⟨hce, hfr⟩ := bcell hb2; have hz := below_lt hb2) | (go_at_call 16; refine (isTold_any _ _).mono ?_; rw [HT.out]; rintro e w' ⟨rfl, rfl⟩))
    go_ret3
    exact ⟨rfl, by (repeat (first | exact Below.refl _ _ | apply below_drew | apply below_draws | apply below_alloc | (refine below_trans ?_ (by assumption)) | (refine Below.trans ?_ (by assumption))))⟩
  | true =>
    have hnb : n ≤ 999999 := by simp [M.isTold] at ht; omega
    have HT := Lib.hid ht; clear ht
    have hneq := dv_neq
    obtain ⟨x, hx⟩ : ∃ x, digX n = x := ⟨_, rfl⟩
    obtain ⟨y, hy⟩ : ∃ x, digY n = x := ⟨_, rfl⟩
    obtain ⟨z, hz⟩ : ∃ x, digZ n = x := ⟨_, rfl⟩
    have HX := Lib.hid (And.intro hx (And.intro hy hz)); clear hx hy hz
    by_cases he : x = a ∧ y = b ∧ z = c
    · obtain ⟨rfl, rfl, rfl⟩ := he
      obtain ⟨rfl, rfl, rfl⟩ := HY.out HT.out HX.out.1 HX.out.2.1 HX.out.2.2
      go_enter Try.func13, Try.ntmps13
      go_wp2_with (first | (go_at_call 14; refine (HA.out _).mono ?_; unfold dv; rintro e w' ⟨rfl, hb⟩) | (go_at_call 15; refine (numberOf_any x y z _ a0 a1 b0 b1 c0 c1).mono ?_; rw [HN.out]; rintro e w2 ⟨rfl, hb2⟩; obtain ⟨hce, hfr⟩ := bcell hb2; have hz := below_lt hb2) | (go_at_call 16; refine (isTold_any _ _).mono ?_; rw [HT.out]; rintro e w' ⟨rfl, rfl⟩) | (go_at_call 17; refine (digitsOf_any _ _ n0 hnb).mono ?_; rw [HX.out.1, HX.out.2.1, HX.out.2.2]; unfold dv; rintro e w3 ⟨⟨kk, rfl⟩, hb3⟩; obtain ⟨hce3, hfr3⟩ := bcell hb3; have hz3 := Nat.lt_of_lt_of_le hz hb3.size))
      go_quiet (fail)
      go_wp2
      go_ret3
      exact ⟨ret_isb rfl (from_eq _ _) rfl, by (repeat (first | exact Below.refl _ _ | apply below_drew | apply below_draws | apply below_alloc | (refine below_trans ?_ (by assumption)) | (refine Below.trans ?_ (by assumption))))⟩
    · obtain ⟨rfl, rfl, rfl⟩ := HNO.out (fun h => he ⟨HX.out.1.symm.trans h.2.1, HX.out.2.1.symm.trans h.2.2.1, HX.out.2.2.symm.trans h.2.2.2⟩)
      have hq : (x == a && (y == b && z == c)) = false := by
        rw [Bool.eq_false_iff]; intro h; simp only [Bool.and_eq_true, beq_iff_eq] at h; exact he h
      clear he
      have hneq2 : ∀ w, (binOp .neq 41 (.agg #[.int .u8 x, .int .u8 y, .int .u8 z]) (.agg #[.int .u8 a, .int .u8 b, .int .u8 c])).run Try.prog w = .ok (.bool true) w := fun w => by rw [dv_neq, hq]; rfl
      clear hneq hq
      go_enter Try.func13, Try.ntmps13
      go_wp2_with (first | (go_at_call 14; refine (HA.out _).mono ?_; unfold dv; rintro e w' ⟨rfl, hb⟩) | (go_at_call 15; refine (numberOf_any a b c _ a0 a1 b0 b1 c0 c1).mono ?_; rw [HN.out]; rintro e w2 ⟨rfl, hb2⟩; obtain ⟨hce, hfr⟩ := bcell hb2; have hz := below_lt hb2) | (go_at_call 16; refine (isTold_any _ _).mono ?_; rw [HT.out]; rintro e w' ⟨rfl, rfl⟩) | (go_at_call 17; refine (digitsOf_any _ _ n0 hnb).mono ?_; rw [HX.out.1, HX.out.2.1, HX.out.2.2]; unfold dv; rintro e w3 ⟨⟨kk, rfl⟩, hb3⟩; obtain ⟨hce3, hfr3⟩ := bcell hb3; have hz3 := Nat.lt_of_lt_of_le hz hb3.size))
      go_ret3
      exact ⟨rfl, by (repeat (first | exact Below.refl _ _ | apply below_drew | apply below_draws | apply below_alloc | (refine below_trans ?_ (by assumption)) | (refine Below.trans ?_ (by assumption))))⟩

theorem implNumGet (s : ByteArray) (w : World) (hs : s.size ≤ 2000000) :
    Calls Try.prog 13 #[.string s] w fun e w' => e = .returned (.tuple #[.int .i64 (numGet s.data.toList).1, .string (S (numGet s.data.toList).2.1), .bool (numGet s.data.toList).2.2]) ∧ Below w.heap.size w w' := by
  have hsz : s.data.toList.length = s.size := by simp
  by_cases hno : ∀ k, k < 3 → k < s.size → 128 ≤ at_ s.data.toList k
  · have hg : numGet s.data.toList = (0, [], false) := numGet_no _ (fun k h3 hk => hno k h3 (by omega))
    rw [hg]
    have H := Lib.hid (fun w => digitsAheadNo s w hs hno); clear hno hsz hg
    go_enter Try.func13, Try.ntmps13
    go_wp2_with (go_at_call 14; refine (H.out _).mono ?_; unfold dv; rintro e w' ⟨rfl, hb⟩)
    go_ret3
    exact ⟨rfl, by (repeat (first | exact Below.refl _ _ | apply below_drew | apply below_draws | apply below_alloc | (refine below_trans ?_ (by assumption)) | (refine Below.trans ?_ (by assumption))))⟩
  · have hyes : ∃ k, k < 3 ∧ k < s.size ∧ at_ s.data.toList k < 128 ∧ ∀ j, j < k → 128 ≤ at_ s.data.toList j := by
      by_cases c0 : 0 < s.size ∧ at_ s.data.toList 0 < 128
      · exact ⟨0, by omega, c0.1, c0.2, by omega⟩
      · by_cases c1 : 1 < s.size ∧ at_ s.data.toList 1 < 128
        · exact ⟨1, by omega, c1.1, c1.2, fun j hj => by obtain rfl : j = 0 := by omega
                                                         omega⟩
        · by_cases c2 : 2 < s.size ∧ at_ s.data.toList 2 < 128
          · exact ⟨2, by omega, c2.1, c2.2, fun j hj => by
              obtain rfl | rfl : j = 0 ∨ j = 1 := by omega
              · omega
              · omega⟩
          · refine (hno fun k h3 hk => ?_).elim
            obtain rfl | rfl | rfl : k = 0 ∨ k = 1 ∨ k = 2 := by omega
            all_goals omega
    obtain ⟨k, k3, hk, hlt, hbefore⟩ := hyes
    clear hno
    have go : ∀ (a b c : Int) (k : Nat), k ≤ s.size → 0 ≤ a → a < 256 → 0 ≤ b → b < 256 → 0 ≤ c → c < 256 → numGet s.data.toList = ans a b c (s.data.toList.drop k) →
        (∀ w, Calls Try.prog 14 #[.string s] w fun e w' => e = .returned (.tuple #[dv a b c, .int .i64 k, .bool true]) ∧ Below w.heap.size w w') →
        Calls Try.prog 13 #[.string s] w fun e w' => e = .returned (.tuple #[.int .i64 (numGet s.data.toList).1, .string (S (numGet s.data.toList).2.1), .bool (numGet s.data.toList).2.2]) ∧ Below w.heap.size w w' := by
      intro a b c k hk a0 a1 b0 b1 c0 c1 he hA
      rw [he]
      refine numGet_at s a b c k w hs hk a0 a1 b0 b1 c0 c1 hA _ rfl _ _ _ (fun h1 h2 h3 h4 => ?_) (fun h => ?_)
      · unfold ans; rw [if_pos ⟨h1, h2, h3, h4⟩]; exact ⟨rfl, rfl, rfl⟩
      · unfold ans; rw [if_neg h]; exact ⟨rfl, rfl, rfl⟩
    have l0 := at_lo s.data.toList 0
    have g0 := at_hi s.data.toList 0
    have l1 := at_lo s.data.toList 1
    have g1 := at_hi s.data.toList 1
    have l2 := at_lo s.data.toList 2
    have g2 := at_hi s.data.toList 2
    obtain rfl | rfl | rfl : k = 0 ∨ k = 1 ∨ k = 2 := by omega
    · exact go _ 0 0 1 (by omega) l0 g0 (by omega) (by omega) (by omega) (by omega) (ans_0 _ (by omega) hlt) (fun w => digitsAhead0 s _ w hs hk rfl hlt)
    · have hb0 := hbefore 0 (by omega)
      exact go _ _ 0 2 (by omega) l0 g0 l1 g1 (by omega) (by omega) (ans_1 _ (by omega) hb0 hlt) (fun w => digitsAhead1 s _ _ w hs hk rfl rfl hb0 hlt)
    · have hb0 := hbefore 0 (by omega)
      have hb1 := hbefore 1 (by omega)
      exact go _ _ _ 3 (by omega) l0 g0 l1 g1 l2 g2 (ans_2 _ (by omega) hb0 hb1 hlt) (fun w => digitsAhead2 s _ _ _ w hs hk rfl rfl rfl hb0 hb1 hlt)

end Go.Proofs.Ytoeiohhaedabnaa