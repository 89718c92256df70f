/- Chapter 2 of the program: what its functions return. -/
import Derived.Test.YtgaiagpfnfnnaaaStrs
import Derived.Test.YtgaiagpfnfnnaaaM2
namespace Go.Proofs.Ytgaiagpfnfnnaaa
open Go.ChangeShapes Go.WideShapes Go.ChangeAt Go.RowKit M

theorem i_isName (l : List UInt8) (w : World) (hs : l.length ≤ 2000000) :
    Calls Try.prog 41 #[.string (S l)] w fun e w' => e = .returned (.bool (isName l)) ∧ w = w' := by
  by_cases h0 : l = []
  · subst h0
    go_enter Try.func41, Try.ntmps41
    go_wp2_with fail
    go_ret
    exact ⟨rfl, rfl⟩
  · have hne : 0 < l.length := by cases l with | nil => exact absurd rfl h0 | cons _ _ => simp
    have he : (l == []) = false := by cases l with | nil => exact absurd rfl h0 | cons _ _ => rfl
    clear h0
    by_cases h3 : 3 < l.length
    · have HF := Lib.hid (show isName l = false by unfold isName; simp; omega)
      go_enter Try.func41, Try.ntmps41
      go_wp2_with fail
      go_ret
      exact ⟨ret_b HF.out.symm, rfl⟩
    · have HN := Lib.hid (show isName l = lowFrom l 0 by unfold isName; rw [decide_eq_true (by omega : 1 ≤ l.length), decide_eq_true (by omega : l.length ≤ 3)]; rfl)
      go_enter Try.func41, Try.ntmps41
      go_wp2_with fail
      go_loop [3, 13] (fun _ i => ∃ k : Nat, k ≤ l.length ∧ i = .int .i64 k ∧ Hid (lowFrom l 0 = lowFrom l k)) (fun _ i => l.length - (intOf i).toNat)
      case atStart => exact ⟨0, by omega, rfl, rfl⟩
      case round =>
        obtain ⟨k, hk, rfl, hh⟩ := hrel
        by_cases hlt : k < l.length
        · have hin := lowFrom_in l k hlt
          obtain ⟨a, ha⟩ : ∃ a, at_ l k = a := ⟨_, rfl⟩
          rw [ha] at hin
          have HI := Lib.hid hin; clear hin
          by_cases c1 : a < 97
          · have hf : isName l = false := by rw [HN.out, hh.out, HI.out]; simp; omega
            have HF := Lib.hid hf; clear hf
            go_wp2
            go_ret
            exact ⟨ret_b HF.out.symm, rfl⟩
          · by_cases c2 : 122 < a
            · have hf : isName l = false := by rw [HN.out, hh.out, HI.out]; simp; omega
              have HF := Lib.hid hf; clear hf
              go_wp2
              go_ret
              exact ⟨ret_b HF.out.symm, rfl⟩
            · have hf : lowFrom l k = lowFrom l (k + 1) := by rw [HI.out]; simp; omega
              have HF := Lib.hid hf; clear hf
              go_wp2
              go_round
              case rel => exact ⟨k + 1, by omega, by go_num, hh.out.trans HF.out⟩
              case measure => simp [intOf]; omega
        · have hf : isName l = true := by rw [HN.out, hh.out, lowFrom_end l k (by omega)]
          have HF := Lib.hid hf; clear hf
          go_wp2
          go_ret
          exact ⟨ret_b HF.out.symm, rfl⟩

/-- Does the one end with the other? -/
def hasSuf (l t : List UInt8) : Bool := decide (t.length ≤ l.length) && (l.drop (l.length - t.length) == t)
theorem hasSuffix (l t : List UInt8) (w : World) (hs : l.length ≤ 2000000) (ht : t.length ≤ 2000000) :
    Calls Try.prog 44 #[.string (S l), .string (S t)] w fun e w' => e = .returned (.bool (hasSuf l t)) ∧ w = w' := by
  by_cases h : t.length ≤ l.length
  · have HF := Lib.hid (show hasSuf l t = (l.drop (l.length - t.length) == t) by unfold hasSuf; rw [decide_eq_true h]; rfl)
    have e1 : ((l.length : Int) - (t.length : Int)).toNat = l.length - t.length := by omega
    go_enter Try.func44, Try.ntmps44
    go_wp2_with fail
    go_ret
    exact ⟨ret_b HF.out.symm, rfl⟩
  · have HF := Lib.hid (show hasSuf l t = false by unfold hasSuf; rw [decide_eq_false h]; rfl)
    go_enter Try.func44, Try.ntmps44
    go_wp2_with fail
    go_ret
    exact ⟨ret_b HF.out.symm, rfl⟩
theorem cutSuffix0 (l t : List UInt8) (w : World) (hs : l.length ≤ 2000000) (ht : t.length ≤ 2000000) :
    Calls Try.prog 43 #[.string (S l), .string (S t)] w fun e w' => e = .returned (.tuple #[.string (S (l.take (l.length - if hasSuf l t then t.length else 0))), .bool (hasSuf l t)]) ∧ w = w' := by
  cases h : hasSuf l t with
  | true =>
    have H := Lib.hid h
    have hle : t.length ≤ l.length := by unfold hasSuf at h; simp at h; exact h.1
    clear h
    have e1 : ((l.length : Int) - (t.length : Int)).toNat = l.length - t.length := by omega
    go_enter Try.func43, Try.ntmps43
    go_wp2_with (go_at_call 44; refine (hasSuffix _ _ _ hs ht).mono ?_; rw [H.out]; rintro e w' ⟨rfl, rfl⟩)
    go_ret2
    exact ⟨rfl, rfl⟩
  | false =>
    have H := Lib.hid h
    clear h
    go_enter Try.func43, Try.ntmps43
    go_wp2_with (go_at_call 44; refine (hasSuffix _ _ _ hs ht).mono ?_; rw [H.out]; rintro e w' ⟨rfl, rfl⟩)
    go_ret2
    exact ⟨ret_sb (by simp) rfl, rfl⟩
theorem cutSuffix (l t : List UInt8) (w : World) (hs : l.length ≤ 2000000) (ht : t.length ≤ 2000000) :
    Calls Try.prog 40 #[.string (S l), .string (S t)] w fun e w' => e = .returned (.tuple #[.string (S (l.take (l.length - if hasSuf l t then t.length else 0))), .bool (hasSuf l t)]) ∧ w = w' := by
  have HC := Lib.hid (fun w => cutSuffix0 l t w hs ht)
  generalize (l.take (l.length - if hasSuf l t then t.length else 0)) = x at *
  go_enter Try.func40, Try.ntmps40
  go_wp2_with (go_at_call 43; refine (HC.out _).mono ?_; rintro e w' ⟨rfl, rfl⟩)
  go_ret2
  exact ⟨rfl, rfl⟩

theorem hasSuf_59 (r : List UInt8) : hasSuf r [59] = decide (r.getLast? = some 59) := by
  unfold hasSuf
  by_cases h : r = []
  · subst h; rfl
  · have hl : 1 ≤ r.length := by cases r with | nil => exact absurd rfl h | cons _ _ => simp
    rw [decide_eq_true (by simpa using hl), Bool.true_and, List.getLast?_eq_some_getLast h]
    have e : r.drop (r.length - 1) = [r.getLast h] := by
      have h1 : (r.dropLast ++ [r.getLast h]).drop r.dropLast.length = [r.getLast h] := by simp
      rwa [List.dropLast_concat_getLast h, List.length_dropLast] at h1
    simp only [List.length_singleton]
    rw [e]
    by_cases h2 : r.getLast h = 59 <;> simp [h2]

theorem i_readKind (l : List UInt8) (w : World) (hs : l.length ≤ 2000000) :
    Calls Try.prog 34 #[.string (S l)] w fun e w' => e = .returned (.tuple #[.string (S (rN l)), .int .i64 (rD l), .bool (kOk l)]) ∧ w = w' := by
  induction l generalizing w with
  | nil =>
    go_enter Try.func34, Try.ntmps34
    go_wp2_with fail
    go_ret3
    exact ⟨rfl, rfl⟩
  | cons c r ih =>
    rw [List.length_cons] at hs
    have IH := Lib.hid ih; clear ih
    by_cases hl : 12 < r.length + 1
    · have HF := Lib.hid (rN_no (kindR_long (c :: r) (by simpa using hl)))
      go_enter Try.func34, Try.ntmps34
      go_wp2_with fail
      go_ret3
      exact ⟨ret_sib (by rw [HF.out.1]; rfl) HF.out.2.1.symm HF.out.2.2.symm, rfl⟩
    · by_cases c1 : c = 91 ∨ c = 63
      · have hk := kindR_sign c r (by omega) c1
        have ha : at_ (c :: r) 0 = 91 ∨ at_ (c :: r) 0 = 63 := by rcases c1 with rfl | rfl
                                                                  · exact .inl rfl
                                                                  · exact .inr rfl
        clear c1
        rcases kind_cases r with h | ⟨n, d, h, -, hd, -, -⟩
        · have HF := Lib.hid (rN_no (l := c :: r) (by rw [hk, h]; rfl))
          have HR := Lib.hid (rN_no h)
          clear hk h
          rcases ha with ha | ha
          all_goals
            go_enter Try.func34, Try.ntmps34
            go_wp2_with (go_at_call 34; refine (IH.out _ (by omega)).mono ?_; rw [HR.out.1, HR.out.2.1, HR.out.2.2]; rintro e w' ⟨rfl, rfl⟩)
            go_ret3
            exact ⟨ret_sib (by rw [HF.out.1]; rfl) HF.out.2.1.symm HF.out.2.2.symm, rfl⟩
        · have HF := Lib.hid (rN_yes (l := c :: r) (n := n) (d := d + 1) (by rw [hk, h]; rfl))
          have HR := Lib.hid (rN_yes h)
          clear hk h
          have hd2 : d ≤ 12 := by omega
          rcases ha with ha | ha
          all_goals
            go_enter Try.func34, Try.ntmps34
            go_wp2_with (go_at_call 34; refine (IH.out _ (by omega)).mono ?_; rw [HR.out.1, HR.out.2.1, HR.out.2.2]; rintro e w' ⟨rfl, rfl⟩)
            go_ret3
            exact ⟨ret_sib (by rw [HF.out.1]) (by rw [HF.out.2.1]; omega) HF.out.2.2.symm, rfl⟩
      · by_cases c2 : c = 64
        · subst c2
          have ha : at_ (64 :: r) 0 = 64 := rfl
          have hk := kindR_at r (by omega)
          have hsuf := hasSuf_59 r
          by_cases h59 : r.getLast? = some 59
          · rw [decide_eq_true h59] at hsuf
            have HSUF := Lib.hid hsuf; clear hsuf
            have htp := Lib.hid (take_pred r)
            cases hn : isName r.dropLast with
            | true =>
              have HF := Lib.hid (rN_yes (l := 64 :: r) (n := r.dropLast) (d := 0) (by rw [hk, if_pos ⟨h59, hn⟩]))
              have HN := Lib.hid hn
              clear hk h59 hn
              go_enter Try.func34, Try.ntmps34
              go_wp2_with (first | (go_at_call 40; refine (cutSuffix r [59] _ (by omega) (by simp)).mono ?_; rw [HSUF.out, if_pos rfl]; simp only [List.length_singleton]; rw [htp.out]; rintro e w' ⟨rfl, rfl⟩) | (go_at_call 41; refine (i_isName _ _ (by simp; omega)).mono ?_; rw [HN.out]; rintro e w' ⟨rfl, rfl⟩))
              go_ret3
              exact ⟨ret_sib (by rw [HF.out.1]) (by rw [HF.out.2.1]; rfl) HF.out.2.2.symm, rfl⟩
            | false =>
              have HF := Lib.hid (rN_no (l := 64 :: r) (by rw [hk, if_neg (by simp [hn])]))
              have HN := Lib.hid hn
              clear hk h59 hn
              go_enter Try.func34, Try.ntmps34
              go_wp2_with (first | (go_at_call 40; refine (cutSuffix r [59] _ (by omega) (by simp)).mono ?_; rw [HSUF.out, if_pos rfl]; simp only [List.length_singleton]; rw [htp.out]; rintro e w' ⟨rfl, rfl⟩) | (go_at_call 41; refine (i_isName _ _ (by simp; omega)).mono ?_; rw [HN.out]; rintro e w' ⟨rfl, rfl⟩))
              go_ret3
              exact ⟨ret_sib (by rw [HF.out.1]; rfl) (by rw [HF.out.2.1]) HF.out.2.2.symm, rfl⟩
          · rw [decide_eq_false h59] at hsuf
            have HSUF := Lib.hid hsuf; clear hsuf
            have HF := Lib.hid (rN_no (l := 64 :: r) (by rw [hk, if_neg (fun h => h59 h.1)]))
            clear hk h59
            go_enter Try.func34, Try.ntmps34
            go_wp2_with (go_at_call 40; refine (cutSuffix r [59] _ (by omega) (by simp)).mono ?_; rw [HSUF.out]; rintro e w' ⟨rfl, rfl⟩)
            go_ret3
            exact ⟨ret_sib (by rw [HF.out.1]; rfl) (by rw [HF.out.2.1]) HF.out.2.2.symm, rfl⟩
        · have hk := kindR_else c r (by omega) (fun h => c1 (.inl h)) (fun h => c1 (.inr h)) c2
          have a1 : (at_ (c :: r) 0 == 91) = false := by
            rw [at_cons, beq_eq_false_iff_ne]; intro h; exact c1 (.inl (UInt8.toNat_inj.1 (by show _ = 91; omega)))
          have a2 : (at_ (c :: r) 0 == 63) = false := by
            rw [at_cons, beq_eq_false_iff_ne]; intro h; exact c1 (.inr (UInt8.toNat_inj.1 (by show _ = 63; omega)))
          have a3 : (at_ (c :: r) 0 == 64) = false := by
            rw [at_cons, beq_eq_false_iff_ne]; intro h; exact c2 (UInt8.toNat_inj.1 (by show _ = 64; omega))
          clear c1 c2
          cases r with
          | cons x y =>
            have HF := Lib.hid (rN_no (l := c :: x :: y) (by rw [hk, if_neg (by simp)]))
            clear hk
            rw [List.length_cons] at hs hl
            go_enter Try.func34, Try.ntmps34
            go_wp2_with fail
            go_ret3
            exact ⟨ret_sib (by rw [HF.out.1]; rfl) HF.out.2.1.symm HF.out.2.2.symm, rfl⟩
          | nil =>
            have HK := Lib.hid hk; clear hk
            by_cases h1 : c = 110
            · subst h1
              go_enter Try.func34, Try.ntmps34
              go_wp2_with fail
              go_ret3
              exact ⟨rfl, rfl⟩
            · by_cases h2 : c = 116
              · subst h2
                go_enter Try.func34, Try.ntmps34
                go_wp2_with fail
                go_ret3
                exact ⟨rfl, rfl⟩
              · by_cases h3 : c = 102
                · subst h3
                  go_enter Try.func34, Try.ntmps34
                  go_wp2_with fail
                  go_ret3
                  exact ⟨rfl, rfl⟩
                · have HF := Lib.hid (rN_no (l := [c]) (by rw [HK.out, if_neg (by simp [h1, h2, h3])]))
                  have b1 : (c == 110) = false := by simp [h1]
                  have b2 : (c == 116) = false := by simp [h2]
                  have b3 : (c == 102) = false := by simp [h3]
                  clear h1 h2 h3
                  go_enter Try.func34, Try.ntmps34
                  go_wp2_with fail
                  go_ret3
                  exact ⟨ret_sib (by rw [HF.out.1]; rfl) HF.out.2.1.symm HF.out.2.2.symm, rfl⟩

theorem i_rk_no (l : List UInt8) (w : World) (hs : l.length ≤ 2000000) (h : kindR l = none) :
    Calls Try.prog 34 #[.string (S l)] w fun e w' => e = .returned (.tuple #[.string (S []), .int .i64 0, .bool false]) ∧ w = w' := by
  have := i_readKind l w hs
  rw [(rN_no h).1, (rN_no h).2.1, (rN_no h).2.2] at this; exact this
theorem i_rk_yes (l : List UInt8) (w : World) (hs : l.length ≤ 2000000) (n : List UInt8) (d : Nat) (h : kindR l = some (n, d)) :
    Calls Try.prog 34 #[.string (S l)] w fun e w' => e = .returned (.tuple #[.string (S n), .int .i64 d, .bool true]) ∧ w = w' := by
  have := i_readKind l w hs
  rw [(rN_yes h).1, (rN_yes h).2.1, (rN_yes h).2.2] at this; exact this

theorem i_KindOk (l : List UInt8) (w : World) (hs : l.length ≤ 2000000) :
    Calls Try.prog 14 #[.string (S l)] w fun e w' => e = .returned (.bool (kOk l)) ∧ w = w' := by
  have H := Lib.hid (fun w => i_readKind l w hs)
  generalize kOk l = x at *
  generalize rN l = y at *
  generalize rD l = z at *
  go_enter Try.func14, Try.ntmps14
  go_wp2_with (go_at_call 34; refine (H.out _).mono ?_; rintro e w' ⟨rfl, rfl⟩)
  go_ret
  exact ⟨rfl, rfl⟩
theorem i_KindPart (l : List UInt8) (w : World) (hs : l.length ≤ 2000000) :
    Calls Try.prog 18 #[.string (S l)] w fun e w' => e = .returned (.tuple #[.string (S (kPartV l)), .bool (kPartB l)]) ∧ w = w' := by
  rcases kind_cases l with h | ⟨n, d, h, hl, hd, -, -⟩
  · have HV := Lib.hid (show kPartV l = [] ∧ kPartB l = false by simp [kPartV, kPartB, h])
    have H := Lib.hid (fun w => i_rk_no l w hs h)
    clear h
    go_enter Try.func18, Try.ntmps18
    go_wp2_with (go_at_call 34; refine (H.out _).mono ?_; rintro e w' ⟨rfl, rfl⟩)
    go_ret2
    exact ⟨ret_sb (by rw [HV.out.1]; rfl) HV.out.2.symm, rfl⟩
  · have H := Lib.hid (fun w => i_rk_yes l w hs n d h)
    by_cases hd0 : d = 0
    · subst hd0
      have HV := Lib.hid (show kPartV l = [] ∧ kPartB l = false by simp [kPartV, kPartB, h])
      clear h
      go_enter Try.func18, Try.ntmps18
      go_wp2_with (go_at_call 34; refine (H.out _).mono ?_; rintro e w' ⟨rfl, rfl⟩)
      go_ret2
      exact ⟨ret_sb (by rw [HV.out.1]; rfl) HV.out.2.symm, rfl⟩
    · have HV := Lib.hid (show kPartV l = l.drop 1 ∧ kPartB l = true by simp [kPartV, kPartB, h, hd0])
      have hb : (((d : Nat) : Int) == 0) = false := by simp [hd0]
      clear h hd0
      go_enter Try.func18, Try.ntmps18
      go_wp2_with (go_at_call 34; refine (H.out _).mono ?_; rintro e w' ⟨rfl, rfl⟩)
      go_ret2
      exact ⟨ret_sb (by rw [HV.out.1, List.drop_one]) HV.out.2.symm, rfl⟩
theorem i_KindName (l : List UInt8) (w : World) (hs : l.length ≤ 2000000) :
    Calls Try.prog 21 #[.string (S l)] w fun e w' => e = .returned (.tuple #[.string (S (kNameV l)), .bool (kNameB l)]) ∧ w = w' := by
  rcases kind_cases l with h | ⟨n, d, h, hl, hd, -, -⟩
  · have HV := Lib.hid (show kNameV l = [] ∧ kNameB l = false by simp [kNameV, kNameB, h])
    have H := Lib.hid (fun w => i_rk_no l w hs h)
    clear h
    go_enter Try.func21, Try.ntmps21
    go_wp2_with (go_at_call 34; refine (H.out _).mono ?_; rintro e w' ⟨rfl, rfl⟩)
    go_ret2
    exact ⟨ret_sb (by rw [HV.out.1]; rfl) HV.out.2.symm, rfl⟩
  · have H := Lib.hid (fun w => i_rk_yes l w hs n d h)
    by_cases hd0 : d = 0
    · subst hd0
      by_cases hn : n = []
      · subst hn
        have HV := Lib.hid (show kNameV l = [] ∧ kNameB l = false by simp [kNameV, kNameB, h])
        clear h
        go_enter Try.func21, Try.ntmps21
        go_wp2_with (go_at_call 34; refine (H.out _).mono ?_; rintro e w' ⟨rfl, rfl⟩)
        go_ret2
        exact ⟨ret_sb (by rw [HV.out.1]; rfl) HV.out.2.symm, rfl⟩
      · have HV := Lib.hid (show kNameV l = n ∧ kNameB l = true by simp [kNameV, kNameB, h, hn])
        have hb : (n == []) = false := by cases n with | nil => exact absurd rfl hn | cons _ _ => rfl
        clear h hn
        go_enter Try.func21, Try.ntmps21
        go_wp2_with (go_at_call 34; refine (H.out _).mono ?_; rintro e w' ⟨rfl, rfl⟩)
        go_ret2
        exact ⟨ret_sb (by rw [HV.out.1]) HV.out.2.symm, rfl⟩
    · have HV := Lib.hid (show kNameV l = [] ∧ kNameB l = false by simp [kNameV, kNameB, h, hd0])
      have hb : (0 : Int) < d := by omega
      clear h hd0
      go_enter Try.func21, Try.ntmps21
      go_wp2_with (go_at_call 34; refine (H.out _).mono ?_; rintro e w' ⟨rfl, rfl⟩)
      go_ret2
      exact ⟨ret_sb (by rw [HV.out.1]; rfl) HV.out.2.symm, rfl⟩
theorem i_KindDeep (l : List UInt8) (w : World) (hs : l.length ≤ 2000000) :
    Calls Try.prog 16 #[.string (S l)] w fun e w' => e = .returned (.int .i64 (kDeep l)) ∧ w = w' := by
  rcases kind_cases l with h | ⟨n, d, h, hl, hd, -, -⟩
  · have HV := Lib.hid (show kDeep l = -1 by simp [kDeep, h])
    have H := Lib.hid (fun w => i_rk_no l w hs h)
    clear h
    go_enter Try.func16, Try.ntmps16
    go_wp2_with (go_at_call 34; refine (H.out _).mono ?_; rintro e w' ⟨rfl, rfl⟩)
    go_ret
    exact ⟨ret_i HV.out.symm, rfl⟩
  · have H := Lib.hid (fun w => i_rk_yes l w hs n d h)
    have HV := Lib.hid (show kDeep l = d by simp [kDeep, h])
    clear h
    go_enter Try.func16, Try.ntmps16
    go_wp2_with (go_at_call 34; refine (H.out _).mono ?_; rintro e w' ⟨rfl, rfl⟩)
    go_ret
    exact ⟨ret_i HV.out.symm, rfl⟩
theorem i_KindRefs (l : List UInt8) (w : World) (hs : l.length ≤ 2000000) :
    Calls Try.prog 24 #[.string (S l)] w (RetStrs w (kRefs l) (kOk l)) := by
  rcases kind_cases l with h | ⟨n, d, h, hl, hd, -, -⟩
  · have HV := Lib.hid (show kRefs l = [] ∧ kOk l = false by simp [kRefs, kOk, h])
    have H := Lib.hid (fun w => i_rk_no l w hs h)
    clear h
    go_enter Try.func24, Try.ntmps24
    go_wp2_with (go_at_call 34; refine (H.out _).mono ?_; rintro e w' ⟨rfl, rfl⟩)
    go_ret2
    exact ⟨_, by rw [HV.out.2]; rfl, by rw [HV.out.1]; exact Strs_none _, by (repeat (first | exact Below.refl _ _ | apply below_drew | apply below_draws | apply below_alloc | (refine below_trans ?_ (by assumption)) | (refine Below.trans ?_ (by assumption))))⟩
  · have H := Lib.hid (fun w => i_rk_yes l w hs n d h)
    by_cases hn : n = []
    · subst hn
      have HV := Lib.hid (show kRefs l = [] ∧ kOk l = true by simp [kRefs, kOk, h])
      clear h
      go_enter Try.func24, Try.ntmps24
      go_wp2_with (go_at_call 34; refine (H.out _).mono ?_; rintro e w' ⟨rfl, rfl⟩)
      go_ret2
      exact ⟨_, by rw [HV.out.2]; rfl, by rw [HV.out.1]; exact Strs_none _, by (repeat (first | exact Below.refl _ _ | apply below_drew | apply below_draws | apply below_alloc | (refine below_trans ?_ (by assumption)) | (refine Below.trans ?_ (by assumption))))⟩
    · have HV := Lib.hid (show kRefs l = [n] ∧ kOk l = true by simp [kRefs, kOk, h, hn])
      have hb : (n == []) = false := by cases n with | nil => exact absurd rfl hn | cons _ _ => rfl
      clear h hn
      go_enter Try.func24, Try.ntmps24
      go_wp2_with (go_at_call 34; refine (H.out _).mono ?_; rintro e w' ⟨rfl, rfl⟩)
      go_ret2
      exact ⟨_, by rw [HV.out.2]; rfl, by rw [HV.out.1]; exact Strs_one _ _, by (repeat (first | exact Below.refl _ _ | apply below_drew | apply below_draws | apply below_alloc | (refine below_trans ?_ (by assumption)) | (refine Below.trans ?_ (by assumption))))⟩
end Go.Proofs.Ytgaiagpfnfnnaaa
