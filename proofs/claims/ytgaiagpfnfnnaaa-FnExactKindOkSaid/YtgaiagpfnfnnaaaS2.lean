/- Chapter 2 of the model: what its functions return. -/
import Derived.Test.YtgaiagpfnfnnaaaStr
import Derived.Test.YtgaiagpfnfnnaaaM2
import Derived.Test.YtgaiagpfnfnnaaaStrs
namespace Go.Proofs.Ytgaiagpfnfnnaaa
open Go.ChangeShapes Go.WideShapes Go.ChangeAt Go.RowKit M

theorem k_l6in (n a b : Int) (w : World) :
    Calls Try.prog 42 #[.int .i64 n, .int .i64 a, .int .i64 b] w fun e w' => e = .returned (.bool (decide (a ≤ n) && decide (n ≤ b))) ∧ w = w' := by
  go_enter Try.func42, Try.ntmps42
  go_wp2
  all_goals
    go_ret
    exact ⟨by congr 2; simp <;> omega, rfl⟩

theorem k_l2Name (l : List UInt8) (w : World) (hs : l.length ≤ 2000000) :
    Calls Try.prog 35 #[.string (S l)] w fun e w' => e = .returned (.bool (isName l)) ∧ w = w' := by
  go_enter Try.func35, Try.ntmps35
  go_wp2
  go_loop [3] (fun i => ∃ k : Nat, k ≤ l.length ∧ i = .int .i64 k ∧ Hid (lowFrom l 0 = lowFrom l k)) (fun i => l.length - (intOf i).toNat)
  case atStart => exact ⟨0, by omega, rfl, rfl⟩
  case round =>
    obtain ⟨k, hk, rfl, hh⟩ := hrel
    by_cases hlt : k < l.length
    · have hin := lowFrom_in l k hlt
      obtain ⟨a, ha⟩ : ∃ a, at_ l k = a := ⟨_, rfl⟩
      rw [ha] at hin
      have HI := Lib.hid hin; clear hin
      by_cases c1 : a < 97
      · have hf : isName l = false := by unfold isName; rw [hh.out, HI.out]; simp; omega
        have HF := Lib.hid hf; clear hf
        go_wp2
        go_ret
        exact ⟨ret_b HF.out.symm, rfl⟩
      · by_cases c2 : 122 < a
        · have hf : isName l = false := by unfold isName; rw [hh.out, HI.out]; simp; omega
          have HF := Lib.hid hf; clear hf
          go_wp2
          go_ret
          exact ⟨ret_b HF.out.symm, rfl⟩
        · have hf : lowFrom l k = lowFrom l (k + 1) := by rw [HI.out]; simp; omega
          have HF := Lib.hid hf; clear hf
          go_wp2
          go_round
          case rel => exact ⟨k + 1, by omega, by go_num, hh.out.trans HF.out⟩
          case measure => simp [intOf]; omega
    · have hf : isName l = (decide (1 ≤ (l.length : Int)) && decide ((l.length : Int) ≤ 3)) := by
        unfold isName; rw [hh.out, lowFrom_end l k (by omega), Bool.and_true]; congr 1 <;> exact decide_eq_decide.2 (by omega)
      have HF := Lib.hid hf; clear hf
      go_wp2_with (go_at_call 42; refine (k_l6in _ _ _ _).mono ?_; rintro e w' ⟨rfl, rfl⟩)
      go_ret
      exact ⟨ret_b HF.out.symm, rfl⟩

theorem k_KindOk (l : List UInt8) (w : World) (hs : l.length ≤ 2000000) :
    Calls Try.prog 15 #[.string (S l)] w fun e w' => e = .returned (.bool (kindR l).isSome) ∧ w = w' := by
  induction l generalizing w with
  | nil =>
    go_enter Try.func15, Try.ntmps15
    go_wp2_with fail
    go_ret
    exact ⟨rfl, rfl⟩
  | cons c r ih =>
    rw [List.length_cons] at hs
    have IH := Lib.hid ih; clear ih
    by_cases hl : 12 < r.length + 1
    · have HF := Lib.hid (kindR_long (c :: r) (by simpa using hl))
      go_enter Try.func15, Try.ntmps15
      go_wp2_with fail
      go_ret
      exact ⟨ret_b (by rw [HF.out]; rfl), rfl⟩
    · by_cases c1 : c = 91 ∨ c = 63
      · have HF := Lib.hid (kindR_sign c r (by omega) c1)
        have ha : at_ (c :: r) 0 = 91 ∨ at_ (c :: r) 0 = 63 := by rcases c1 with rfl | rfl
                                                                  · exact .inl rfl
                                                                  · exact .inr rfl
        clear c1
        rcases ha with ha | ha
        all_goals
          go_enter Try.func15, Try.ntmps15
          go_wp2_with (go_at_call 15; refine (IH.out _ (by omega)).mono ?_; rintro e w' ⟨rfl, rfl⟩)
          go_ret
          exact ⟨ret_b (by rw [HF.out, Option.isSome_map]), rfl⟩
      · by_cases c2 : c = 64
        · subst c2
          have ha : at_ (64 :: r) 0 = 64 := rfl
          have HF := Lib.hid (kindR_at r (by omega))
          by_cases hr : r = []
          · subst hr
            go_enter Try.func15, Try.ntmps15
            go_wp2_with fail
            go_ret
            exact ⟨ret_b (by rw [HF.out]; rfl), rfl⟩
          · have hlen : 1 ≤ r.length := by cases r with | nil => exact absurd rfl hr | cons _ _ => simp
            have hla := last_at 64 r hr
            have htp := take_pred r
            obtain ⟨b, hb⟩ : ∃ b, at_ (64 :: r) r.length = b := ⟨_, rfl⟩
            rw [hb] at hla
            have HLA := Lib.hid hla; clear hla hr c1
            by_cases h59 : b = 59
            · have hlast := Lib.hid (HLA.out.1 h59)
              subst h59
              go_enter Try.func15, Try.ntmps15
              go_wp2_with (go_at_call 35; refine (k_l2Name _ _ (by simp; omega)).mono ?_; rintro e w' ⟨rfl, rfl⟩)
              go_ret
              exact ⟨ret_b (by rw [HF.out]; rw [hlast.out]; by_cases hn : isName r.dropLast = true <;> simp [hn]), rfl⟩
            · have hb' : (b == 59) = false := by simp [h59]
              have H59 := Lib.hid h59; clear h59
              go_enter Try.func15, Try.ntmps15
              go_wp2_with fail
              go_ret
              exact ⟨ret_b (by rw [HF.out, if_neg (fun h => H59.out (HLA.out.2 h.1))]; rfl), rfl⟩
        · have HF := Lib.hid (kindR_else c r (by omega) (fun h => c1 (.inl h)) (fun h => c1 (.inr h)) c2)
          have a1 : (at_ (c :: r) 0 == 91) = false := by
            rw [at_cons, beq_eq_false_iff_ne]; intro h; exact c1 (.inl (UInt8.toNat_inj.1 (by show _ = 91; omega)))
          have a2 : (at_ (c :: r) 0 == 63) = false := by
            rw [at_cons, beq_eq_false_iff_ne]; intro h; exact c1 (.inr (UInt8.toNat_inj.1 (by show _ = 63; omega)))
          have a3 : (at_ (c :: r) 0 == 64) = false := by
            rw [at_cons, beq_eq_false_iff_ne]; intro h; exact c2 (UInt8.toNat_inj.1 (by show _ = 64; omega))
          clear c1 c2
          cases r with
          | cons x y =>
            rw [List.length_cons] at hs hl
            go_enter Try.func15, Try.ntmps15
            go_wp2_with fail
            go_ret
            exact ⟨ret_b (by rw [HF.out]; rfl), rfl⟩
          | nil =>
            by_cases h1 : c = 110
            · subst h1
              go_enter Try.func15, Try.ntmps15
              go_wp2_with fail
              go_ret
              exact ⟨ret_b (by rw [HF.out]; rfl), rfl⟩
            · by_cases h2 : c = 116
              · subst h2
                go_enter Try.func15, Try.ntmps15
                go_wp2_with fail
                go_ret
                exact ⟨ret_b (by rw [HF.out]; rfl), rfl⟩
              · have b1 : (c == 110) = false := by simp [h1]
                have b2 : (c == 116) = false := by simp [h2]
                have H12 := Lib.hid (And.intro h1 h2); clear h1 h2
                go_enter Try.func15, Try.ntmps15
                go_wp2_with fail
                go_ret
                exact ⟨ret_b (by rw [HF.out]; have := H12.out; by_cases h3 : c = 102 <;> simp [h3, this]), rfl⟩

theorem k_l2Core (l : List UInt8) (d : Nat) (w : World) (hl : l.length ≤ 12) (hd : d < l.length) (h1 : ∀ k, k < d → at_ l k = 91 ∨ at_ l k = 63) (h2 : (at_ l d == 91) = false) (h3 : (at_ l d == 63) = false) :
    Calls Try.prog 37 #[.string (S l)] w fun e w' => e = .returned (.string (S (l.drop d))) ∧ w = w' := by
  have H1 := Lib.hid h1; clear h1
  go_enter Try.func37, Try.ntmps37
  go_wp2_with fail
  go_loop [0] (fun s => ∃ k : Nat, k ≤ d ∧ s = .string (S (l.drop k))) (fun s => match s with | .string s => s.size | _ => 0)
  case atStart => exact ⟨0, by omega, rfl⟩
  case round =>
    obtain ⟨k, hk, rfl⟩ := hrel
    by_cases hlt : k < d
    · have hc := H1.out k hlt
      have ha := at_drop l k 0
      rw [Nat.add_zero] at ha
      rw [← ha] at hc
      clear ha
      rcases hc with hc | hc
      all_goals
        go_wp2_with fail
        go_round
        case rel => exact ⟨k + 1, by omega, rfl⟩
        case measure => simp [S_size]; omega
    · obtain rfl : k = d := by omega
      have ha := at_drop l k 0
      rw [Nat.add_zero] at ha
      rw [← ha] at h2 h3
      clear ha
      go_wp2_with fail
      go_ret
      exact ⟨rfl, rfl⟩

theorem k_KindOk_no (l : List UInt8) (w : World) (hs : l.length ≤ 2000000) (h : kindR l = none) :
    Calls Try.prog 15 #[.string (S l)] w fun e w' => e = .returned (.bool false) ∧ w = w' := by
  have := k_KindOk l w hs; rwa [h] at this
theorem k_KindOk_yes (l : List UInt8) (w : World) (hs : l.length ≤ 2000000) (x : List UInt8 × Nat) (h : kindR l = some x) :
    Calls Try.prog 15 #[.string (S l)] w fun e w' => e = .returned (.bool true) ∧ w = w' := by
  have := k_KindOk l w hs; rwa [h] at this

theorem k_KindPart (l : List UInt8) (w : World) (hs : l.length ≤ 2000000) :
    Calls Try.prog 19 #[.string (S l)] w fun e w' => e = .returned (.tuple #[.string (S (kPartV l)), .bool (kPartB l)]) ∧ w = w' := by
  rcases kind_cases l with h | ⟨n, d, h, hl, hd, h1, h2⟩
  · have HK := Lib.hid h
    have HV := Lib.hid (show kPartV l = [] ∧ kPartB l = false by simp [kPartV, kPartB, h])
    clear h
    go_enter Try.func19, Try.ntmps19
    go_wp2_with (go_at_call 15; refine (k_KindOk_no _ _ hs HK.out).mono ?_; rintro e w' ⟨rfl, rfl⟩)
    go_ret2
    exact ⟨ret_sb (by rw [HV.out.1]; rfl) HV.out.2.symm, rfl⟩
  · have HK := Lib.hid h
    by_cases hd0 : d = 0
    · subst hd0
      have HV := Lib.hid (show kPartV l = [] ∧ kPartB l = false by simp [kPartV, kPartB, h])
      have hb : (at_ l 0 == 91) = false ∧ (at_ l 0 == 63) = false ∧ (at_ l 0 != 91) = true ∧ (at_ l 0 != 63) = true := by
        rcases h2 with ⟨_, _, _, h⟩ | ⟨_, ⟨_, h⟩ | ⟨_, h⟩ | ⟨_, h⟩⟩ <;> rw [h] <;> exact ⟨rfl, rfl, rfl, rfl⟩
      obtain ⟨b1, b2, b3, b4⟩ := hb
      clear h1 h2 h
      go_enter Try.func19, Try.ntmps19
      go_wp2_with (go_at_call 15; refine (k_KindOk_yes _ _ hs _ HK.out).mono ?_; rintro e w' ⟨rfl, rfl⟩)
      go_ret2
      exact ⟨ret_sb (by rw [HV.out.1]; rfl) HV.out.2.symm, rfl⟩
    · have hh := h1 0 (by omega)
      have HV := Lib.hid (show kPartV l = l.drop 1 ∧ kPartB l = true by simp [kPartV, kPartB, h, hd0])
      clear h1 h2 hd0 h
      rcases hh with hh | hh
      all_goals
        go_enter Try.func19, Try.ntmps19
        go_wp2_with (go_at_call 15; refine (k_KindOk_yes _ _ hs _ HK.out).mono ?_; rintro e w' ⟨rfl, rfl⟩)
        go_ret2
        exact ⟨ret_sb (by rw [HV.out.1, List.drop_one]) HV.out.2.symm, rfl⟩

theorem k_l2Ref_yes (n : List UInt8) (w : World) (hs : n.length ≤ 20) :
    Calls Try.prog 36 #[.string (S (64 :: (n ++ [59])))] w fun e w' => e = .returned (.tuple #[.string (S n), .bool true]) ∧ w = w' := by
  have ha : at_ (64 :: (n ++ [59])) 0 = 64 := rfl
  obtain ⟨c, hc⟩ : ∃ c, 64 :: (n ++ [59]) = c := ⟨_, rfl⟩
  have hl : c.length = n.length + 2 := by rw [← hc]; simp
  have he : ∀ k, k = n.length → (c.drop 1).take k = n := by rintro k rfl; rw [← hc]; simp
  rw [hc] at ha ⊢
  clear hc
  have HE := Lib.hid he; clear he
  go_enter Try.func36, Try.ntmps36
  go_wp2_with fail
  go_ret2
  exact ⟨ret_sb (by rw [← List.drop_one, HE.out _ (by omega)]) rfl, rfl⟩
theorem k_l2Ref_no (c : List UInt8) (w : World) (h : (at_ c 0 != 64) = true) (hl : 0 < c.length) (hs : c.length ≤ 2000000) :
    Calls Try.prog 36 #[.string (S c)] w fun e w' => e = .returned (.tuple #[.string (S []), .bool false]) ∧ w = w' := by
  go_enter Try.func36, Try.ntmps36
  go_wp2_with fail
  go_ret2
  exact ⟨rfl, rfl⟩
theorem k_KindName (l : List UInt8) (w : World) (hs : l.length ≤ 2000000) :
    Calls Try.prog 22 #[.string (S l)] w fun e w' => e = .returned (.tuple #[.string (S (kNameV l)), .bool (kNameB l)]) ∧ w = w' := by
  rcases kind_cases l with h | ⟨n, d, h, hl, hd, h1, h2⟩
  · have HK := Lib.hid h
    have HV := Lib.hid (show kNameV l = [] ∧ kNameB l = false by simp [kNameV, kNameB, h])
    clear h
    go_enter Try.func22, Try.ntmps22
    go_wp2_with (go_at_call 15; refine (k_KindOk_no _ _ hs HK.out).mono ?_; rintro e w' ⟨rfl, rfl⟩)
    go_ret2
    exact ⟨ret_sb (by rw [HV.out.1]; rfl) HV.out.2.symm, rfl⟩
  · have HK := Lib.hid h
    by_cases hy : d = 0 ∧ n ≠ []
    · obtain ⟨rfl, hn⟩ := hy
      have HV := Lib.hid (show kNameV l = n ∧ kNameB l = true by simp [kNameV, kNameB, h, hn])
      have hc : l = 64 :: (n ++ [59]) := by
        rcases h2 with ⟨_, _, h, _⟩ | ⟨h, _⟩
        · exact h
        · exact absurd h hn
      have HC := Lib.hid hc; clear hc h1 h2 h hn
      have hnl : n.length ≤ 20 := by have := congrArg List.length HC.out; simp at this; omega
      go_enter Try.func22, Try.ntmps22
      go_wp2_with (first | (go_at_call 15; refine (k_KindOk_yes _ _ hs _ HK.out).mono ?_; rintro e w' ⟨rfl, rfl⟩) | (go_at_call 36; rw [HC.out]; refine (k_l2Ref_yes _ _ hnl).mono ?_; rintro e w' ⟨rfl, rfl⟩))
      go_ret2
      exact ⟨ret_sb (by rw [HV.out.1]) HV.out.2.symm, rfl⟩
    · have hb : (at_ l 0 != 64) = true := by
        by_cases hd0 : d = 0
        · subst hd0
          rcases h2 with ⟨h, _⟩ | ⟨_, ⟨_, h⟩ | ⟨_, h⟩ | ⟨_, h⟩⟩
          · exact absurd ⟨rfl, h⟩ hy
          all_goals rw [h]; rfl
        · rcases h1 0 (by omega) with h | h <;> rw [h] <;> rfl
      have hz : kNameV l = [] ∧ kNameB l = false := by
        simp only [kNameV, kNameB, h, decide_eq_false hy, and_true]
        by_cases hd0 : d = 0
        · rw [if_pos hd0]; exact Classical.byContradiction fun h => hy ⟨hd0, h⟩
        · rw [if_neg hd0]
      have HV := Lib.hid hz
      clear h1 h2 hy hz h
      go_enter Try.func22, Try.ntmps22
      go_wp2_with (first | (go_at_call 15; refine (k_KindOk_yes _ _ hs _ HK.out).mono ?_; rintro e w' ⟨rfl, rfl⟩) | (go_at_call 36; refine (k_l2Ref_no _ _ hb (by omega) hs).mono ?_; rintro e w' ⟨rfl, rfl⟩))
      go_ret2
      exact ⟨ret_sb (by rw [HV.out.1]) HV.out.2.symm, rfl⟩
theorem k_KindDeep (l : List UInt8) (w : World) (hs : l.length ≤ 2000000) :
    Calls Try.prog 28 #[.string (S l)] w fun e w' => e = .returned (.int .i64 (kDeep l)) ∧ w = w' := by
  unfold kDeep
  rcases kind_cases l with h | ⟨n, d, h, hl, hd, h1, h2⟩
  · have HK := Lib.hid h
    rw [h]; clear h
    go_enter Try.func28, Try.ntmps28
    go_wp2_with (go_at_call 15; refine (k_KindOk_no _ _ hs HK.out).mono ?_; rintro e w' ⟨rfl, rfl⟩)
    go_ret
    exact ⟨rfl, rfl⟩
  · have HK := Lib.hid h
    rw [h]; clear h
    have hb : (at_ l d == 91) = false ∧ (at_ l d == 63) = false := by
      rcases h2 with ⟨_, _, _, h⟩ | ⟨_, ⟨_, h⟩ | ⟨_, h⟩ | ⟨_, h⟩⟩ <;> rw [h] <;> exact ⟨rfl, rfl⟩
    have HB := Lib.hid hb
    have H1 := Lib.hid h1
    clear hb h1 h2
    go_enter Try.func28, Try.ntmps28
    go_wp2_with (first | (go_at_call 15; refine (k_KindOk_yes _ _ hs _ HK.out).mono ?_; rintro e w' ⟨rfl, rfl⟩) | (go_at_call 37; refine (k_l2Core _ d _ hl hd H1.out HB.out.1 HB.out.2).mono ?_; rintro e w' ⟨rfl, rfl⟩))
    go_ret
    exact ⟨ret_i (by omega), rfl⟩
theorem k_KindRefs (l : List UInt8) (w : World) (hs : l.length ≤ 2000000) :
    Calls Try.prog 25 #[.string (S l)] w (RetStrs w (kRefs l) (kOk l)) := by
  rcases kind_cases l with h | ⟨n, d, h, hl, hd, h1, h2⟩
  · have HK := Lib.hid h
    have HV := Lib.hid (show kRefs l = [] ∧ kOk l = false by simp [kRefs, kOk, h])
    clear h
    go_enter Try.func25, Try.ntmps25
    go_wp2_with (go_at_call 15; refine (k_KindOk_no _ _ hs HK.out).mono ?_; rintro e w' ⟨rfl, rfl⟩)
    go_ret2
    exact ⟨_, by rw [HV.out.2]; rfl, by rw [HV.out.1]; exact Strs_none _, by (repeat (first | exact Below.refl _ _ | apply below_drew | apply below_draws | apply below_alloc | (refine below_trans ?_ (by assumption)) | (refine Below.trans ?_ (by assumption))))⟩
  · have HK := Lib.hid h
    have hb : (at_ l d == 91) = false ∧ (at_ l d == 63) = false := by
      rcases h2 with ⟨_, _, _, h⟩ | ⟨_, ⟨_, h⟩ | ⟨_, h⟩ | ⟨_, h⟩⟩ <;> rw [h] <;> exact ⟨rfl, rfl⟩
    have HB := Lib.hid hb
    have H1 := Lib.hid h1
    by_cases hn : n = []
    · have hb2 : (at_ (l.drop d) 0 != 64) = true := by
        rw [at_drop, Nat.add_zero]
        rcases h2 with ⟨h, _⟩ | ⟨_, ⟨_, h⟩ | ⟨_, h⟩ | ⟨_, h⟩⟩
        · exact absurd hn h
        all_goals rw [h]; rfl
      have HV := Lib.hid (show kRefs l = [] ∧ kOk l = true by simp [kRefs, kOk, h, hn])
      clear h h1 h2 hb hn
      go_enter Try.func25, Try.ntmps25
      go_wp2_with (first | (go_at_call 15; refine (k_KindOk_yes _ _ hs _ HK.out).mono ?_; rintro e w' ⟨rfl, rfl⟩) | (go_at_call 37; refine (k_l2Core _ d _ hl hd H1.out HB.out.1 HB.out.2).mono ?_; rintro e w' ⟨rfl, rfl⟩) | (go_at_call 36; refine (k_l2Ref_no _ _ hb2 (by simp; omega) (by simp; omega)).mono ?_; rintro e w' ⟨rfl, rfl⟩))
      go_ret2
      exact ⟨_, by rw [HV.out.2]; rfl, by rw [HV.out.1]; exact Strs_none _, by (repeat (first | exact Below.refl _ _ | apply below_drew | apply below_draws | apply below_alloc | (refine below_trans ?_ (by assumption)) | (refine Below.trans ?_ (by assumption))))⟩
    · have hc : l.drop d = 64 :: (n ++ [59]) := by
        rcases h2 with ⟨_, _, h, _⟩ | ⟨h, _⟩
        · exact h
        · exact absurd h hn
      have HC := Lib.hid hc
      have hnl : n.length ≤ 20 := by have := congrArg List.length HC.out; simp at this; omega
      have HV := Lib.hid (show kRefs l = [n] ∧ kOk l = true by simp [kRefs, kOk, h, hn])
      clear h h1 h2 hb hn hc
      obtain ⟨i0, hi0, hz0, hz1, hz2⟩ := info_parts info_string
      go_enter Try.func25, Try.ntmps25
      go_wp2_with (first | (go_at_call 15; refine (k_KindOk_yes _ _ hs _ HK.out).mono ?_; rintro e w' ⟨rfl, rfl⟩) | (go_at_call 37; refine (k_l2Core _ d _ hl hd H1.out HB.out.1 HB.out.2).mono ?_; rintro e w' ⟨rfl, rfl⟩) | (go_at_call 36; rw [HC.out]; refine (k_l2Ref_yes _ _ hnl).mono ?_; rintro e w' ⟨rfl, rfl⟩) | (at_builtin; refine wpList_append_own _ rfl _ _ 29 rfl w.heap.size 9 i0 (.string ByteArray.empty) 1 16 Try.underlying29 hi0 hz0 hz1 hz2 rfl (by decide) _ _ _ rfl ((Strs_none w).alloc _) ⟨w.heap.size + 1, 0, none⟩ 1 1 [sv n] rfl rfl ?c1 ?c2 ?c3 ?c4 ?c5 ?_))
      case c1 => exact fun j u h => by simpa using cell_one_new (w.alloc (.cells #[] 9)) (sv n) 9 j u h
      case c2 => intro u hu; simp at hu; subst hu; rfl
      case c3 => unfold maxLen; simp
      case c4 => simp
      case c5 => simp; omega
      intro v' w' hown hg _
      go_wp2
      go_ret2
      refine ⟨_, by rw [HV.out.2]; rfl, by rw [HV.out.1]; exact hown, Below.grown (by (repeat (first | exact Below.refl _ _ | apply below_drew | apply below_draws | apply below_alloc | (refine below_trans ?_ (by assumption)) | (refine Below.trans ?_ (by assumption))))) hg (by simp; omega) (fun k hk => by simp [Value.ownBlock] at hk; omega)⟩
end Go.Proofs.Ytgaiagpfnfnnaaa
