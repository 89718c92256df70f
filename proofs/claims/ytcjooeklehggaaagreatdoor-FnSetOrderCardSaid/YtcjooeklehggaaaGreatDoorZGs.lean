/- Lemmas of this seat. -/
import Derived.Lib.Bytealg
import Derived.Test.YtcjooeklehggaaaGreatDoorZAs
import Derived.Test.YtcjooeklehggaaaGreatDoorZBs
set_option linter.unusedVariables false
set_option linter.unusedSimpArgs false
set_option maxRecDepth 100000
namespace Go.Proofs.YtcjooeklehggaaaGreatDoor
open Go.ChangeShapes Go.WideShapes Go.ChangeAt Go.RowKit M
theorem i_isName (l : List UInt8) (w : World) (hs : l.length ≤ 2000000) :
  Calls Tryz.prog 115 #[.string (S l)] w fun e w' => e = .returned (.bool (isName l)) ∧ w = w' := by
 by_cases h0 : l = []
 ·subst h0
  go_enter Tryz.func115, Tryz.ntmps115
  go_wp2_with fail
  go_ret
  exact ⟨rfl, rfl⟩
 ·have hne : 0 < l.length := by cases l with | nil => exact absurd rfl h0 | cons _ _ => simp
  have he : (l == []) = false := by cases l with | nil => exact absurd rfl h0 | cons _ _ => rfl
  clear h0
  by_cases h3 : 3 < l.length
  ·have HF := Lib.hid (show isName l = false by unfold isName; simp; omega)
   go_enter Tryz.func115, Tryz.ntmps115
   go_wp2_with fail
   go_ret
   exact ⟨ret_b HF.out.symm, rfl⟩
  ·have HN := Lib.hid (show isName l = lowFrom l 0 by unfold isName; rw [decide_eq_true (by omega : 1 ≤ l.length), decide_eq_true (by omega : l.length ≤ 3)]; rfl)
   go_enter Tryz.func115, Tryz.ntmps115
   go_wp2_with fail
   go_loop [3, 13] (fun _ i => ∃ k : Nat, k ≤ l.length ∧ i = .int .i64 k ∧ Hid (lowFrom l 0 = lowFrom l k)) (fun _ i => l.length - (intOf i).toNat)
   case atStart => exact ⟨0, by omega, rfl, rfl⟩
   case round =>
    obtain ⟨k, hk, rfl, hh⟩ := hrel
    by_cases hlt : k < l.length
    ·have hin := lowFrom_in l k hlt
     obtain ⟨a, ha⟩ : ∃ a, at_ l k = a := ⟨_, rfl⟩
     rw [ha] at hin
     have HI := Lib.hid hin; clear hin
     by_cases c1 : a < 97
     ·have hf : isName l = false := by rw [HN.out, hh.out, HI.out]; simp; omega
      have HF := Lib.hid hf; clear hf
      go_wp2
      go_ret
      exact ⟨ret_b HF.out.symm, rfl⟩
     ·by_cases c2 : 122 < a
      ·have hf : isName l = false := by rw [HN.out, hh.out, HI.out]; simp; omega
       have HF := Lib.hid hf; clear hf
       go_wp2
       go_ret
       exact ⟨ret_b HF.out.symm, rfl⟩
      ·have hf : lowFrom l k = lowFrom l (k + 1) := by rw [HI.out]; simp; omega
       have HF := Lib.hid hf; clear hf
       go_wp2
       go_round
       case rel => exact ⟨k + 1, by omega, by go_num, hh.out.trans HF.out⟩
       case measure => simp [intOf]; omega
    ·have hf : isName l = true := by rw [HN.out, hh.out, lowFrom_end l k (by omega)]
     have HF := Lib.hid hf; clear hf
     go_wp2
     go_ret
     exact ⟨ret_b HF.out.symm, rfl⟩
def hasSuf (l t : List UInt8) : Bool := decide (t.length ≤ l.length) && (l.drop (l.length - t.length) == t)
theorem hasSuffix (l t : List UInt8) (w : World) (hs : l.length ≤ 2000000) (ht : t.length ≤ 2000000) :
  Calls Tryz.prog 190 #[.string (S l), .string (S t)] w fun e w' => e = .returned (.bool (hasSuf l t)) ∧ w = w' := by
 by_cases h : t.length ≤ l.length
 ·have HF := Lib.hid (show hasSuf l t = (l.drop (l.length - t.length) == t) by unfold hasSuf; rw [decide_eq_true h]; rfl)
  have e1 : ((l.length : Int) - (t.length : Int)).toNat = l.length - t.length := by omega
  go_enter Tryz.func190, Tryz.ntmps190
  go_wp2_with fail
  go_ret
  exact ⟨ret_b HF.out.symm, rfl⟩
 ·have HF := Lib.hid (show hasSuf l t = false by unfold hasSuf; rw [decide_eq_false h]; rfl)
  go_enter Tryz.func190, Tryz.ntmps190
  go_wp2_with fail
  go_ret
  exact ⟨ret_b HF.out.symm, rfl⟩
theorem cutSuffix0 (l t : List UInt8) (w : World) (hs : l.length ≤ 2000000) (ht : t.length ≤ 2000000) :
  Calls Tryz.prog 171 #[.string (S l), .string (S t)] w fun e w' => e = .returned (.tuple #[.string (S (l.take (l.length - if hasSuf l t then t.length else 0))), .bool (hasSuf l t)]) ∧ w = w' := by
 cases h : hasSuf l t with
 | true =>
  have H := Lib.hid h
  have hle : t.length ≤ l.length := by unfold hasSuf at h; simp at h; exact h.1
  clear h
  have e1 : ((l.length : Int) - (t.length : Int)).toNat = l.length - t.length := by omega
  go_enter Tryz.func171, Tryz.ntmps171
  go_wp2_with (go_at_call 190; refine (hasSuffix _ _ _ hs ht).mono ?_; rw [H.out]; rintro e w' ⟨rfl, rfl⟩)
  go_ret2
  exact ⟨rfl, rfl⟩
 | false =>
  have H := Lib.hid h
  clear h
  go_enter Tryz.func171, Tryz.ntmps171
  go_wp2_with (go_at_call 190; refine (hasSuffix _ _ _ hs ht).mono ?_; rw [H.out]; rintro e w' ⟨rfl, rfl⟩)
  go_ret2
  exact ⟨ret_sb (by simp) rfl, rfl⟩
theorem cutSuffix (l t : List UInt8) (w : World) (hs : l.length ≤ 2000000) (ht : t.length ≤ 2000000) :
  Calls Tryz.prog 148 #[.string (S l), .string (S t)] w fun e w' => e = .returned (.tuple #[.string (S (l.take (l.length - if hasSuf l t then t.length else 0))), .bool (hasSuf l t)]) ∧ w = w' := by
 have HC := Lib.hid (fun w => cutSuffix0 l t w hs ht)
 generalize (l.take (l.length - if hasSuf l t then t.length else 0)) = x at *
 go_enter Tryz.func148, Tryz.ntmps148
 go_wp2_with (go_at_call 171; refine (HC.out _).mono ?_; rintro e w' ⟨rfl, rfl⟩)
 go_ret2
 exact ⟨rfl, rfl⟩
theorem hasSuf_59 (r : List UInt8) : hasSuf r [59] = decide (r.getLast? = some 59) := by
 unfold hasSuf
 by_cases h : r = []
 ·subst h; rfl
 ·have hl : 1 ≤ r.length := by cases r with | nil => exact absurd rfl h | cons _ _ => simp
  rw [decide_eq_true (by simpa using hl), Bool.true_and, List.getLast?_eq_some_getLast h]
  have e : r.drop (r.length - 1) = [r.getLast h] := by
   have h1 : (r.dropLast ++ [r.getLast h]).drop r.dropLast.length = [r.getLast h] := by simp
   rwa [List.dropLast_concat_getLast h, List.length_dropLast] at h1
  simp only [List.length_singleton]
  rw [e]
  by_cases h2 : r.getLast h = 59 <;> simp [h2]
theorem i_readKind (l : List UInt8) (w : World) (hs : l.length ≤ 2000000) :
    Calls Tryz.prog 120 #[.string (S l)] w fun e w' => e = .returned (.tuple #[.string (S (rN l)), .int .i64 (rD l), .bool (kOk l)]) ∧ w = w' := by
  induction l generalizing w with
  | nil =>
    go_enter Tryz.func120, Tryz.ntmps120
    go_wp2_with fail
    go_ret3
    exact ⟨rfl, rfl⟩
  | cons c r ih =>
    rw [List.length_cons] at hs
    have IH := Lib.hid ih; clear ih
    by_cases hl : 12 < r.length + 1
    · have HF := Lib.hid (rN_no (kindR_long (c :: r) (by simpa using hl)))
      go_enter Tryz.func120, Tryz.ntmps120
      go_wp2_with fail
      go_ret3
      exact ⟨ret_sib (by rw [HF.out.1]; rfl) HF.out.2.1.symm HF.out.2.2.symm, rfl⟩
    · by_cases c1 : c = 91 ∨ c = 63
      · have hk := kindR_sign c r (by omega) c1
        have ha : at_ (c :: r) 0 = 91 ∨ at_ (c :: r) 0 = 63 := by rcases c1 with rfl | rfl
                                                                  · exact .inl rfl
                                                                  · exact .inr rfl
        clear c1
        rcases kind_cases r with h | ⟨n, d, h, -, hd, -, -⟩
        · have HF := Lib.hid (rN_no (l := c :: r) (by rw [hk, h]; rfl))
          have HR := Lib.hid (rN_no h)
          clear hk h
          rcases ha with ha | ha
          all_goals
            go_enter Tryz.func120, Tryz.ntmps120
            go_wp2_with (go_at_call 120; refine (IH.out _ (by omega)).mono ?_; rw [HR.out.1, HR.out.2.1, HR.out.2.2]; rintro e w' ⟨rfl, rfl⟩)
            go_ret3
            exact ⟨ret_sib (by rw [HF.out.1]; rfl) HF.out.2.1.symm HF.out.2.2.symm, rfl⟩
        · have HF := Lib.hid (rN_yes (l := c :: r) (n := n) (d := d + 1) (by rw [hk, h]; rfl))
          have HR := Lib.hid (rN_yes h)
          clear hk h
          have hd2 : d ≤ 12 := by omega
          rcases ha with ha | ha
          all_goals
            go_enter Tryz.func120, Tryz.ntmps120
            go_wp2_with (go_at_call 120; refine (IH.out _ (by omega)).mono ?_; rw [HR.out.1, HR.out.2.1, HR.out.2.2]; rintro e w' ⟨rfl, rfl⟩)
            go_ret3
            exact ⟨ret_sib (by rw [HF.out.1]) (by rw [HF.out.2.1]; omega) HF.out.2.2.symm, rfl⟩
      · by_cases c2 : c = 64
        · subst c2
          have ha : at_ (64 :: r) 0 = 64 := rfl
          have hk := kindR_at r (by omega)
          have hsuf := hasSuf_59 r
          by_cases h59 : r.getLast? = some 59
          · rw [decide_eq_true h59] at hsuf
            have HSUF := Lib.hid hsuf; clear hsuf
            have htp := Lib.hid (take_pred r)
            cases hn : isName r.dropLast with
            | true =>
              have HF := Lib.hid (rN_yes (l := 64 :: r) (n := r.dropLast) (d := 0) (by rw [hk, if_pos ⟨h59, hn⟩]))
              have HN := Lib.hid hn
              clear hk h59 hn
              go_enter Tryz.func120, Tryz.ntmps120
              go_wp2_with (first | (go_at_call 148; refine (cutSuffix r [59] _ (by omega) (by simp)).mono ?_; rw [HSUF.out, if_pos rfl]; simp only [List.length_singleton]; rw [htp.out]; rintro e w' ⟨rfl, rfl⟩) | (go_at_call 115; refine (i_isName _ _ (by simp; omega)).mono ?_; rw [HN.out]; rintro e w' ⟨rfl, rfl⟩))
              go_ret3
              exact ⟨ret_sib (by rw [HF.out.1]) (by rw [HF.out.2.1]; rfl) HF.out.2.2.symm, rfl⟩
            | false =>
              have HF := Lib.hid (rN_no (l := 64 :: r) (by rw [hk, if_neg (by simp [hn])]))
              have HN := Lib.hid hn
              clear hk h59 hn
              go_enter Tryz.func120, Tryz.ntmps120
              go_wp2_with (first | (go_at_call 148; refine (cutSuffix r [59] _ (by omega) (by simp)).mono ?_; rw [HSUF.out, if_pos rfl]; simp only [List.length_singleton]; rw [htp.out]; rintro e w' ⟨rfl, rfl⟩) | (go_at_call 115; refine (i_isName _ _ (by simp; omega)).mono ?_; rw [HN.out]; rintro e w' ⟨rfl, rfl⟩))
              go_ret3
              exact ⟨ret_sib (by rw [HF.out.1]; rfl) (by rw [HF.out.2.1]) HF.out.2.2.symm, rfl⟩
          · rw [decide_eq_false h59] at hsuf
            have HSUF := Lib.hid hsuf; clear hsuf
            have HF := Lib.hid (rN_no (l := 64 :: r) (by rw [hk, if_neg (fun h => h59 h.1)]))
            clear hk h59
            go_enter Tryz.func120, Tryz.ntmps120
            go_wp2_with (go_at_call 148; refine (cutSuffix r [59] _ (by omega) (by simp)).mono ?_; rw [HSUF.out]; rintro e w' ⟨rfl, rfl⟩)
            go_ret3
            exact ⟨ret_sib (by rw [HF.out.1]; rfl) (by rw [HF.out.2.1]) HF.out.2.2.symm, rfl⟩
        · have hk := kindR_else c r (by omega) (fun h => c1 (.inl h)) (fun h => c1 (.inr h)) c2
          have a1 : (at_ (c :: r) 0 == 91) = false := by
            rw [at_cons, beq_eq_false_iff_ne]; intro h; exact c1 (.inl (UInt8.toNat_inj.1 (by show _ = 91; omega)))
          have a2 : (at_ (c :: r) 0 == 63) = false := by
            rw [at_cons, beq_eq_false_iff_ne]; intro h; exact c1 (.inr (UInt8.toNat_inj.1 (by show _ = 63; omega)))
          have a3 : (at_ (c :: r) 0 == 64) = false := by
            rw [at_cons, beq_eq_false_iff_ne]; intro h; exact c2 (UInt8.toNat_inj.1 (by show _ = 64; omega))
          clear c1 c2
          cases r with
          | cons x y =>
            have HF := Lib.hid (rN_no (l := c :: x :: y) (by rw [hk, if_neg (by simp)]))
            clear hk
            rw [List.length_cons] at hs hl
            go_enter Tryz.func120, Tryz.ntmps120
            go_wp2_with fail
            go_ret3
            exact ⟨ret_sib (by rw [HF.out.1]; rfl) HF.out.2.1.symm HF.out.2.2.symm, rfl⟩
          | nil =>
            have HK := Lib.hid hk; clear hk
            by_cases h1 : c = 110
            · subst h1
              go_enter Tryz.func120, Tryz.ntmps120
              go_wp2_with fail
              go_ret3
              exact ⟨rfl, rfl⟩
            · by_cases h2 : c = 116
              · subst h2
                go_enter Tryz.func120, Tryz.ntmps120
                go_wp2_with fail
                go_ret3
                exact ⟨rfl, rfl⟩
              · by_cases h3 : c = 102
                · subst h3
                  go_enter Tryz.func120, Tryz.ntmps120
                  go_wp2_with fail
                  go_ret3
                  exact ⟨rfl, rfl⟩
                · have HF := Lib.hid (rN_no (l := [c]) (by rw [HK.out, if_neg (by simp [h1, h2, h3])]))
                  have b1 : (c == 110) = false := by simp [h1]
                  have b2 : (c == 116) = false := by simp [h2]
                  have b3 : (c == 102) = false := by simp [h3]
                  clear h1 h2 h3
                  go_enter Tryz.func120, Tryz.ntmps120
                  go_wp2_with fail
                  go_ret3
                  exact ⟨ret_sib (by rw [HF.out.1]; rfl) HF.out.2.1.symm HF.out.2.2.symm, rfl⟩
theorem i_rk_no (l : List UInt8) (w : World) (hs : l.length ≤ 2000000) (h : kindR l = none) :
  Calls Tryz.prog 120 #[.string (S l)] w fun e w' => e = .returned (.tuple #[.string (S []), .int .i64 0, .bool false]) ∧ w = w' := by
 have := i_readKind l w hs
 rw [(rN_no h).1, (rN_no h).2.1, (rN_no h).2.2] at this; exact this
theorem i_rk_yes (l : List UInt8) (w : World) (hs : l.length ≤ 2000000) (n : List UInt8) (d : Nat) (h : kindR l = some (n, d)) :
  Calls Tryz.prog 120 #[.string (S l)] w fun e w' => e = .returned (.tuple #[.string (S n), .int .i64 d, .bool true]) ∧ w = w' := by
 have := i_readKind l w hs
 rw [(rN_yes h).1, (rN_yes h).2.1, (rN_yes h).2.2] at this; exact this
theorem i_KindOk (l : List UInt8) (w : World) (hs : l.length ≤ 2000000) :
  Calls Tryz.prog 170 #[.string (S l)] w fun e w' => e = .returned (.bool (kOk l)) ∧ w = w' := by
 have H := Lib.hid (fun w => i_readKind l w hs)
 generalize kOk l = x at *
 generalize rN l = y at *
 generalize rD l = z at *
 go_enter Tryz.func170, Tryz.ntmps170
 go_wp2_with (go_at_call 120; refine (H.out _).mono ?_; rintro e w' ⟨rfl, rfl⟩)
 go_ret
 exact ⟨rfl, rfl⟩
theorem i_KindDeep (l : List UInt8) (w : World) (hs : l.length ≤ 2000000) :
  Calls Tryz.prog 146 #[.string (S l)] w fun e w' => e = .returned (.int .i64 (kDeep l)) ∧ w = w' := by
 rcases kind_cases l with h | ⟨n, d, h, hl, hd, -, -⟩
 ·have HV := Lib.hid (show kDeep l = -1 by simp [kDeep, h])
  have H := Lib.hid (fun w => i_rk_no l w hs h)
  clear h
  go_enter Tryz.func146, Tryz.ntmps146
  go_wp2_with (go_at_call 120; refine (H.out _).mono ?_; rintro e w' ⟨rfl, rfl⟩)
  go_ret
  exact ⟨ret_i HV.out.symm, rfl⟩
 ·have H := Lib.hid (fun w => i_rk_yes l w hs n d h)
  have HV := Lib.hid (show kDeep l = d by simp [kDeep, h])
  clear h
  go_enter Tryz.func146, Tryz.ntmps146
  go_wp2_with (go_at_call 120; refine (H.out _).mono ?_; rintro e w' ⟨rfl, rfl⟩)
  go_ret
  exact ⟨ret_i HV.out.symm, rfl⟩
theorem i_KindRefs (l : List UInt8) (w : World) (hs : l.length ≤ 2000000) :
  Calls Tryz.prog 96 #[.string (S l)] w (RetStrs w (kRefs l) (kOk l)) := by
 rcases kind_cases l with h | ⟨n, d, h, hl, hd, -, -⟩
 ·have HV := Lib.hid (show kRefs l = [] ∧ kOk l = false by simp [kRefs, kOk, h])
  have H := Lib.hid (fun w => i_rk_no l w hs h)
  clear h
  go_enter Tryz.func96, Tryz.ntmps96
  go_wp2_with (go_at_call 120; refine (H.out _).mono ?_; rintro e w' ⟨rfl, rfl⟩)
  go_ret2
  exact ⟨_, by rw [HV.out.2]; rfl, by rw [HV.out.1]; exact Strs_none _, by (repeat (first | exact Below.refl _ _ | apply below_drew | apply below_draws | apply below_alloc | (refine below_trans ?_ (by assumption)) | (refine Below.trans ?_ (by assumption))))⟩
 ·have H := Lib.hid (fun w => i_rk_yes l w hs n d h)
  by_cases hn : n = []
  ·subst hn
   have HV := Lib.hid (show kRefs l = [] ∧ kOk l = true by simp [kRefs, kOk, h])
   clear h
   go_enter Tryz.func96, Tryz.ntmps96
   go_wp2_with (go_at_call 120; refine (H.out _).mono ?_; rintro e w' ⟨rfl, rfl⟩)
   go_ret2
   exact ⟨_, by rw [HV.out.2]; rfl, by rw [HV.out.1]; exact Strs_none _, by (repeat (first | exact Below.refl _ _ | apply below_drew | apply below_draws | apply below_alloc | (refine below_trans ?_ (by assumption)) | (refine Below.trans ?_ (by assumption))))⟩
  ·have HV := Lib.hid (show kRefs l = [n] ∧ kOk l = true by simp [kRefs, kOk, h, hn])
   have hb : (n == []) = false := by cases n with | nil => exact absurd rfl hn | cons _ _ => rfl
   clear h hn
   go_enter Tryz.func96, Tryz.ntmps96
   go_wp2_with (go_at_call 120; refine (H.out _).mono ?_; rintro e w' ⟨rfl, rfl⟩)
   go_ret2
   exact ⟨_, by rw [HV.out.2]; rfl, by rw [HV.out.1]; exact Strs_one _ _, by (repeat (first | exact Below.refl _ _ | apply below_drew | apply below_draws | apply below_alloc | (refine below_trans ?_ (by assumption)) | (refine Below.trans ?_ (by assumption))))⟩
theorem ret_ssb {a b a' b' : ByteArray} {d d' : Bool} (h1 : a = a') (h2 : b = b') (h4 : d = d') : Ending.returned (.tuple #[.string a, .string b, .bool d]) = .returned (.tuple #[.string a', .string b', .bool d']) := by rw [h1, h2, h4]
theorem indexByte_cut (l : Bs) (c : UInt8) : Lib.indexByte l c = if cutHas (c.toNat : Int) l = true then ((cutA (c.toNat : Int) l).length : Int) else -1 := by
 induction l with
 | nil => rfl
 | cons x r ih =>
  rw [Lib.indexByte, ih, cutHas, cutA]
  have hx : (x == c) = decide ((x.toNat : Int) = (c.toNat : Int)) := by
   rw [Bool.eq_iff_iff, beq_iff_eq, decide_eq_true_iff]
   constructor
   ·rintro rfl; rfl
   ·intro h; exact UInt8.toNat_inj.1 (by omega)
  rw [hx]
  by_cases h : (x.toNat : Int) = (c.toNat : Int)
  ·simp [h]
  ·rw [if_neg (by simpa using h), if_neg h, if_neg h]
   cases h2 : cutHas (c.toNat : Int) r with
   | true =>
    rw [if_pos rfl, if_pos rfl, if_neg (by simp)]; simp
   | false => rfl
theorem cutA_take (c : Int) (l : Bs) : cutA c l = l.take (cutA c l).length := by
 induction l with
 | nil => rfl
 | cons x r ih =>
  rw [cutA]; split
  ·rfl
  ·simp only [List.length_cons, List.take_succ_cons]; exact congrArg _ ih
theorem cutB_drop (c : Int) (l : Bs) (h : cutHas c l = true) : cutB c l = l.drop ((cutA c l).length + 1) := by
 induction l with
 | nil => cases h
 | cons x r ih =>
  rw [cutHas] at h
  rw [cutA, cutB]; split
  ·rfl
  ·rename_i hx; rw [if_neg hx] at h; simp only [List.length_cons, List.drop_succ_cons]; exact ih h
theorem cutA_lt (c : Int) (l : Bs) (h : cutHas c l = true) : (cutA c l).length < l.length := by
 obtain ⟨x, -, e⟩ := cut_whole c l h
 have := congrArg List.length e
 simp at this; omega
theorem i_IndexByte (l : Bs) (c : UInt8) (w : World) :
  Calls Tryz.prog 164 #[.string (S l), .int .u8 (c.toNat : Int)] w fun e w' => e = .returned (.int .i64 (Lib.indexByte l c)) ∧ w = w' := by
 have e1 : ((c.toNat : Int).toNat.toUInt8) = c := by simp
 have hq : (callFunc 185 #[.string (S l), .int .u8 (c.toNat : Int)]).run Tryz.prog w = .ok (.value (.int .i64 (Lib.indexByte l c))) w := by
  rw [run_callFunc_extern (fn := Tryz.f185) (by kernel_rfl) (by kernel_rfl) (by kernel_rfl) (by kernel_rfl) (e := Extern.BytealgIndexByte.indexByte) (by kernel_rfl), Lib.run_indexByteString, e1]
  rfl
 go_enter Tryz.func164, Tryz.ntmps164
 go_wp2_with fail
 go_ret
 exact ⟨rfl, rfl⟩
theorem i_Index1 (l : Bs) (c : UInt8) (w : World) (hs : l.length ≤ 2000000) :
  Calls Tryz.prog 142 #[.string (S l), .string (S [c])] w fun e w' => e = .returned (.int .i64 (Lib.indexByte l c)) ∧ w = w' := by
 have HI := Lib.hid (fun w => i_IndexByte l c w)
 have ha : at_ [c] 0 = (c.toNat : Int) := rfl
 by_cases h : [c] = l
 ·subst h
  have HV := Lib.hid (show Lib.indexByte [c] c = 0 by simp [Lib.indexByte])
  go_enter Tryz.func142, Tryz.ntmps142
  go_wp2_with fail
  go_ret
  exact ⟨ret_i HV.out.symm, rfl⟩
 ·have hb : ([c] == l) = false := beq_eq_false_iff_ne.2 h
  clear h
  go_enter Tryz.func142, Tryz.ntmps142
  go_wp2_with (go_at_call 164; refine (HI.out _).mono ?_; rintro e w' ⟨rfl, rfl⟩)
  go_ret
  exact ⟨rfl, rfl⟩
theorem i_Cut0 (l : Bs) (c : UInt8) (w : World) (hs : l.length ≤ 2000000) :
  Calls Tryz.prog 114 #[.string (S l), .string (S [c])] w fun e w' => e = .returned (.tuple #[.string (S (cutA (c.toNat : Int) l)), .string (S (cutB (c.toNat : Int) l)), .bool (cutHas (c.toNat : Int) l)]) ∧ Below w.heap.size w w' := by
 have HI := Lib.hid (fun w => i_Index1 l c w hs)
 rw [indexByte_cut] at HI
 cases h : cutHas (c.toNat : Int) l with
 | true =>
  rw [h, if_pos rfl] at HI
  have hlt := cutA_lt _ l h
  have HA := Lib.hid (cutA_take (c.toNat : Int) l)
  have HB := Lib.hid (cutB_drop (c.toNat : Int) l h)
  clear h
  obtain ⟨k, hk⟩ : ∃ k, (cutA (c.toNat : Int) l).length = k := ⟨_, rfl⟩
  rw [hk] at HI hlt HA HB
  have HK := Lib.hid hk; clear hk
  go_enter Tryz.func114, Tryz.ntmps114
  go_wp2_with (go_at_call 142; refine (HI.out _).mono ?_; rintro e w' ⟨rfl, rfl⟩)
  go_quiet (fail)
  go_wp2_with fail
  go_ret3
  exact ⟨ret_ssb (by rw [HA.out]) (by rw [HB.out]) rfl, below_drewN (Below.refl _ _) _⟩
 | false =>
  rw [h, if_neg (by decide)] at HI
  obtain ⟨-, ha, hb⟩ := cut_hasnt _ l h
  have HAB := Lib.hid (And.intro ha hb)
  clear h ha hb
  go_enter Tryz.func114, Tryz.ntmps114
  go_wp2_with (go_at_call 142; refine (HI.out _).mono ?_; rintro e w' ⟨rfl, rfl⟩)
  go_ret3
  exact ⟨ret_ssb (by rw [HAB.out.1]) (by rw [HAB.out.2]; rfl) rfl, Below.refl _ _⟩
theorem i_Cut (l : Bs) (c : UInt8) (w : World) (hs : l.length ≤ 2000000) :
  Calls Tryz.prog 88 #[.string (S l), .string (S [c])] w fun e w' => e = .returned (.tuple #[.string (S (cutA (c.toNat : Int) l)), .string (S (cutB (c.toNat : Int) l)), .bool (cutHas (c.toNat : Int) l)]) ∧ Below w.heap.size w w' := by
 have HC := Lib.hid (fun w => i_Cut0 l c w hs)
 generalize cutA (c.toNat : Int) l = x at *
 generalize cutB (c.toNat : Int) l = y at *
 generalize cutHas (c.toNat : Int) l = z at *
 go_enter Tryz.func88, Tryz.ntmps88
 go_wp2_with fail
 refine (HC.out _).mono ?_
 rintro e w1 ⟨rfl, hb⟩
 go_wp2_with fail
 go_ret3
 exact ⟨rfl, hb⟩
def hasPre (l t : List UInt8) : Bool := decide (t.length ≤ l.length) && (l.take t.length == t)
theorem hasPrefix (l t : List UInt8) (w : World) (hs : l.length ≤ 2000000) (ht : t.length ≤ 2000000) :
  Calls Tryz.prog 183 #[.string (S l), .string (S t)] w fun e w' => e = .returned (.bool (hasPre l t)) ∧ w = w' := by
 by_cases h : t.length ≤ l.length
 ·have HF := Lib.hid (show hasPre l t = (l.take t.length == t) by unfold hasPre; rw [decide_eq_true h]; rfl)
  go_enter Tryz.func183, Tryz.ntmps183
  go_wp2_with fail
  go_ret
  exact ⟨ret_b HF.out.symm, rfl⟩
 ·have HF := Lib.hid (show hasPre l t = false by unfold hasPre; rw [decide_eq_false h]; rfl)
  go_enter Tryz.func183, Tryz.ntmps183
  go_wp2_with fail
  go_ret
  exact ⟨ret_b HF.out.symm, rfl⟩
theorem cutPrefix0 (l t : List UInt8) (w : World) (hs : l.length ≤ 2000000) (ht : t.length ≤ 2000000) :
  Calls Tryz.prog 153 #[.string (S l), .string (S t)] w fun e w' => e = .returned (.tuple #[.string (S (l.drop (if hasPre l t then t.length else 0))), .bool (hasPre l t)]) ∧ w = w' := by
 cases h : hasPre l t with
 | true =>
  have H := Lib.hid h
  have hle : t.length ≤ l.length := by unfold hasPre at h; simp at h; exact h.1
  clear h
  go_enter Tryz.func153, Tryz.ntmps153
  go_wp2_with (go_at_call 183; refine (hasPrefix _ _ _ hs ht).mono ?_; rw [H.out]; rintro e w' ⟨rfl, rfl⟩)
  go_ret2
  exact ⟨rfl, rfl⟩
 | false =>
  have H := Lib.hid h
  clear h
  go_enter Tryz.func153, Tryz.ntmps153
  go_wp2_with (go_at_call 183; refine (hasPrefix _ _ _ hs ht).mono ?_; rw [H.out]; rintro e w' ⟨rfl, rfl⟩)
  go_ret2
  exact ⟨ret_sb (by simp) rfl, rfl⟩
theorem cutPrefix (l t : List UInt8) (w : World) (hs : l.length ≤ 2000000) (ht : t.length ≤ 2000000) :
  Calls Tryz.prog 126 #[.string (S l), .string (S t)] w fun e w' => e = .returned (.tuple #[.string (S (l.drop (if hasPre l t then t.length else 0))), .bool (hasPre l t)]) ∧ w = w' := by
 have HC := Lib.hid (fun w => cutPrefix0 l t w hs ht)
 generalize (l.drop (if hasPre l t then t.length else 0)) = x at *
 go_enter Tryz.func126, Tryz.ntmps126
 go_wp2_with (go_at_call 153; refine (HC.out _).mono ?_; rintro e w' ⟨rfl, rfl⟩)
 go_ret2
 exact ⟨rfl, rfl⟩
theorem txtC_in (l : Bs) (k : Nat) (h : k < l.length) : txtC (l.drop k) = (plainC (at_ l k) && txtC (l.drop (k + 1))) := by
 unfold txtC; rw [List.drop_eq_getElem_cons h, List.all_cons, at_get l k h]
theorem txtC_end (l : Bs) (k : Nat) (h : l.length ≤ k) : txtC (l.drop k) = true := by unfold txtC; rw [List.drop_of_length_le h]; rfl
theorem i_isText (l : Bs) (w : World) (hs : l.length ≤ 2000000) :
  Calls Tryz.prog 125 #[.string (S l)] w fun e w' => e = .returned (.bool (txtB l)) ∧ w = w' := by
 by_cases h12 : 12 < l.length
 ·have HF := Lib.hid (show txtB l = false by unfold txtB; rw [decide_eq_false (by omega)]; rfl)
  go_enter Tryz.func125, Tryz.ntmps125
  go_wp2_with fail
  go_ret
  exact ⟨ret_b HF.out.symm, rfl⟩
 ·have HT := Lib.hid (show txtB l = txtC l by unfold txtB; rw [decide_eq_true (by omega)]; rfl)
  go_enter Tryz.func125, Tryz.ntmps125
  go_wp2_with fail
  go_loop [11] (fun i => ∃ k : Nat, k ≤ l.length ∧ i = .int .i64 k ∧ Hid (txtC l = txtC (l.drop k))) (fun i => l.length - (intOf i).toNat)
  case atStart => exact ⟨0, by omega, rfl, (rfl : txtC l = txtC (l.drop 0))⟩
  case round =>
   obtain ⟨k, hk, rfl, hh⟩ := hrel
   by_cases hlt : k < l.length
   ·have HH := Lib.hid (hh.out.trans (txtC_in l k hlt))
    obtain ⟨a, ha⟩ : ∃ a, at_ l k = a := ⟨_, rfl⟩
    rw [ha] at HH
    by_cases hp : plainC a = true
    ·have HN := Lib.hid (HH.out.trans (by rw [hp, Bool.true_and] : _ = txtC (l.drop (k + 1))))
     have hc : (97 ≤ a ∧ a ≤ 122) ∨ (a < 97 ∧ 48 ≤ a ∧ a ≤ 57) ∨ a = 32 := by unfold plainC at hp; simp at hp; omega
     clear hp HH
     rcases hc with ⟨c1, c2⟩ | ⟨c0, c1, c2⟩ | c1
     ·go_wp2_with fail
      all_goals
       go_round
       case rel => exact ⟨k + 1, by omega, by go_num, HN.out⟩
       case measure => simp [intOf]; omega
     ·go_wp2_with fail
      all_goals
       go_round
       case rel => exact ⟨k + 1, by omega, by go_num, HN.out⟩
       case measure => simp [intOf]; omega
     ·have q : (a != 32) = false := by simp [c1]
      have q1 : ¬ 97 ≤ a := by omega
      have q2 : ¬ 48 ≤ a := by omega
      clear c1
      go_wp2_with fail
      all_goals
       go_round
       case rel => exact ⟨k + 1, by omega, by go_num, HN.out⟩
       case measure => simp [intOf]; omega
    ·have HN := Lib.hid (HT.out.trans (HH.out.trans (by rw [Bool.eq_false_iff.2 hp, Bool.false_and] : _ = false)))
     have hc : (a != 32) = true ∧ ¬ (97 ≤ a ∧ a ≤ 122) ∧ ¬ (48 ≤ a ∧ a ≤ 57) := by unfold plainC at hp; simp at hp; simp; omega
     obtain ⟨q, n1, n2⟩ := hc
     have hcs : (¬ 97 ≤ a ∧ ¬ 48 ≤ a) ∨ (¬ 97 ≤ a ∧ 48 ≤ a ∧ ¬ a ≤ 57) ∨ (97 ≤ a ∧ ¬ a ≤ 122 ∧ 48 ≤ a ∧ ¬ a ≤ 57) := by omega
     clear hp HH n1 n2
     rcases hcs with ⟨c1, c2⟩ | ⟨c1, c2, c3⟩ | ⟨c1, c2, c3, c4⟩
     all_goals
      go_wp2_with fail
      all_goals
       go_ret
       exact ⟨ret_b HN.out.symm, rfl⟩
   ·have HN := Lib.hid (HT.out.trans (hh.out.trans (txtC_end l k (by omega))))
    go_wp2_with fail
    go_ret
    exact ⟨ret_b HN.out.symm, rfl⟩
def RetDec (w : World) (o : Option Int) (e : Ending) (w' : World) : Prop := e = .returned (.tuple #[.int .i64 (o.getD 0), .bool o.isSome]) ∧ w = w'
theorem decP_no {l : Bs} {top : Int} (h : ¬ (l ≠ [] ∧ (at_ l 0 = 48 → l = [48]) ∧ digsTo l l.length ∧ valN l l.length ≤ top)) : decP l top = none := by unfold decP; rw [if_neg h]
theorem valN_up (l : Bs) (k m : Nat) (h : k ≤ m) (hd : digsTo l m) : valN l k ≤ valN l m := by
  induction m with
  | zero => obtain rfl : k = 0 := by omega
            exact Int.le_refl _
  | succ m ih =>
    by_cases hk : k = m + 1
    · subst hk; exact Int.le_refl _
    · have := ih (by omega) (fun j hj => hd j (by omega))
      have h0 := valN_nonneg l m (fun j hj => hd j (by omega))
      have h2 := hd m (by omega)
      rw [valN]; omega
theorem decP_48 {top : Int} (t0 : 0 ≤ top) : decP [48] top = some 0 := by
 have hd : digsTo [48] [(48 : UInt8)].length := by
  intro j hj
  obtain rfl : j = 0 := by simpa using hj
  exact ⟨by decide, by decide⟩
 have hv : valN [48] [(48 : UInt8)].length = 0 := rfl
 unfold decP
 rw [if_pos ⟨by simp, fun _ => rfl, hd, by rw [hv]; exact t0⟩, hv]
theorem i_readDecimal (l : Bs) (top : Int) (w : World) (hs : l.length ≤ 2000000) (t0 : 0 ≤ top) (t1 : top ≤ 999999) :
  Calls Tryz.prog 151 #[.string (S l), .int .i64 top] w (RetDec w (decP l top)) := by
 by_cases he : l = []
 ·subst he
  have HF := Lib.hid (decP_no (l := []) (top := top) (by simp))
  go_enter Tryz.func151, Tryz.ntmps151
  go_wp2_with fail
  go_ret2
  exact ⟨by rw [HF.out]; rfl, rfl⟩
 ·have hpos : 0 < l.length := List.length_pos_iff.2 he
  have hb : (l == []) = false := beq_eq_false_iff_ne.2 he
  have hbe : l.isEmpty = false := by cases l with | nil => exact absurd rfl he | cons _ _ => rfl
  obtain ⟨a0, ha0⟩ : ∃ a, at_ l 0 = a := ⟨_, rfl⟩
  by_cases hz : a0 = 48 ∧ l ≠ [48]
  ·have HF := Lib.hid (decP_no (l := l) (top := top) (fun h => hz.2 (h.2.1 (by rw [ha0]; exact hz.1))))
   have q : (a0 == 48) = true := by simp [hz.1]
   have q2 : (l == [48]) = false := beq_eq_false_iff_ne.2 hz.2
   clear hz
   go_enter Tryz.func151, Tryz.ntmps151
   go_wp2_with fail
   go_ret2
   exact ⟨by rw [HF.out]; rfl, rfl⟩
  ·have HZ := Lib.hid (show at_ l 0 = 48 → l = [48] from fun h => Classical.byContradiction fun h2 => hz ⟨by rw [← ha0]; exact h, h2⟩)
   have HE := Lib.hid he; clear he
   by_cases h48 : l = [48]
   ·subst h48
    have HF := Lib.hid (decP_48 (top := top) t0)
    clear HZ HE hb hbe ha0 hz
    have e0 : at_ [48] 0 = 48 := rfl
    go_enter Tryz.func151, Tryz.ntmps151
    go_wp2_with fail
    go_loop [6, 21] (fun n i => ∃ k : Nat, k ≤ 1 ∧ i = .int .i64 k ∧ n = .int .i64 0) (fun _ i => 1 - (intOf i).toNat)
    case atStart => exact ⟨0, by omega, rfl, rfl⟩
    case round =>
     obtain ⟨k, hk, rfl, rfl⟩ := hrel
     by_cases hlt : k < 1
     ·obtain rfl : k = 0 := by omega
      go_wp2_with fail
      go_round
      case rel => exact ⟨1, by omega, by go_num, rfl⟩
      case measure => simp [intOf]
     ·obtain rfl : k = 1 := by omega
      go_wp2_with fail
      go_ret2
      exact ⟨by rw [HF.out]; rfl, rfl⟩
   have q : (a0 == 48) = false := by
    rw [beq_eq_false_iff_ne]; intro h; exact hz ⟨h, h48⟩
   clear hz h48
   all_goals
    go_enter Tryz.func151, Tryz.ntmps151
    go_wp2_with fail
    go_loop [6, 21] (fun n i => ∃ k : Nat, k ≤ l.length ∧ i = .int .i64 k ∧ n = .int .i64 (valN l k) ∧ Hid (digsTo l k) ∧ 0 ≤ valN l k ∧ valN l k ≤ top) (fun _ i => l.length - (intOf i).toNat)
    case atStart => exact ⟨0, by omega, rfl, rfl, fun j hj => by omega, by simp [valN], by simpa [valN] using t0⟩
    case round =>
     obtain ⟨k, hk, rfl, rfl, hd, v0, v1⟩ := hrel
     have hvs : valN l (k + 1) = 10 * valN l k + (at_ l k - 48) := rfl
     have HVS := Lib.hid hvs; clear hvs
     obtain ⟨n, hn⟩ : ∃ n, valN l k = n := ⟨_, rfl⟩
     rw [hn] at v0 v1 HVS ⊢
     have HN := Lib.hid hn; clear hn
     by_cases hlt : k < l.length
     ·obtain ⟨a, ha⟩ : ∃ a, at_ l k = a := ⟨_, rfl⟩
      rw [ha] at HVS
      have HA := Lib.hid ha
      by_cases c1 : a < 48
      ·have HF := Lib.hid (decP_no (l := l) (top := top) (fun h => by have := h.2.2.1 k hlt; rw [HA.out] at this; omega))
       go_wp2_with fail
       go_ret2
       exact ⟨by rw [HF.out]; rfl, rfl⟩
      ·by_cases c2 : 57 < a
       ·have HF := Lib.hid (decP_no (l := l) (top := top) (fun h => by have := h.2.2.1 k hlt; rw [HA.out] at this; omega))
        go_wp2_with fail
        go_ret2
        exact ⟨by rw [HF.out]; rfl, rfl⟩
       ·have HD := Lib.hid (show digsTo l (k + 1) from fun j hj => by
         by_cases hjk : j = k
         ·subst hjk; rw [HA.out]; omega
         ·exact hd.out j (by omega))
        have a2 : IntKind.u8.wrap (a - 48) = a - 48 := IntWalk.u8_in _ (by omega)
        by_cases c3 : top < n * 10 + (a - 48)
        ·have HF := Lib.hid (decP_no (l := l) (top := top) (fun h => by
          have h1 := valN_up l (k + 1) l.length (by omega) h.2.2.1
          have h2 := h.2.2.2
          rw [HVS.out] at h1; omega))
         go_wp2_with fail
         go_ret2
         exact ⟨by rw [HF.out]; rfl, rfl⟩
        ·go_wp2_with fail
         go_round
         case rel => exact ⟨k + 1, by omega, by go_num, by rw [HVS.out]; go_num, HD.out, by rw [HVS.out]; omega, by rw [HVS.out]; omega⟩
         case measure => simp [intOf]; omega
     ·obtain rfl : k = l.length := by omega
      have HF := Lib.hid (show decP l top = some n by
       unfold decP; rw [if_pos ⟨HE.out, HZ.out, hd.out, by rw [HN.out]; exact v1⟩, HN.out])
      go_wp2_with fail
      go_ret2
      exact ⟨by rw [HF.out]; rfl, rfl⟩
theorem hasPre_39 (l : Bs) : hasPre l [39] = (l.head? == some 39) := by
 unfold hasPre
 cases l with
 | nil => rfl
 | cons x r => simp [Bool.eq_iff_iff]
theorem i_isQuoted (l : Bs) (w : World) (hs : l.length ≤ 2000000) :
  Calls Tryz.prog 200 #[.string (S l)] w fun e w' => e = .returned (.bool (quoteP l)) ∧ w = w' := by
 have hp := hasPre_39 l
 cases h : hasPre l [39] with
 | false =>
  rw [h] at hp
  have HF := Lib.hid (show quoteP l = false by unfold quoteP; rw [← hp]; rfl)
  have HP := Lib.hid (fun w => cutPrefix l [39] w hs (by simp))
  rw [h] at HP
  have HS := Lib.hid (fun w => cutSuffix (l.drop (if false = true then [(39 : UInt8)].length else 0)) [39] w (by simp; omega) (by simp))
  rw [if_neg (by decide)] at HP HS
  clear hp h
  generalize l.drop 0 = x at *
  generalize (hasSuf x [39]) = z at *
  go_enter Tryz.func200, Tryz.ntmps200
  go_wp2_with (first | (go_at_call 126; refine (HP.out _).mono ?_; rintro e w' ⟨rfl, rfl⟩) | (go_at_call 148; refine (HS.out _).mono ?_; rintro e w' ⟨rfl, rfl⟩))
  all_goals
   go_ret
   exact ⟨ret_b HF.out.symm, rfl⟩
 | true =>
  rw [h] at hp
  have HP := Lib.hid (fun w => cutPrefix l [39] w hs (by simp))
  rw [h, if_pos rfl] at HP
  have HS := Lib.hid (fun w => cutSuffix (l.drop [(39 : UInt8)].length) [39] w (by simp; omega) (by simp))
  have hlen : [(39 : UInt8)].length = 1 := rfl
  rw [hlen] at HP HS
  have hq : quoteP l = (((l.drop 1).getLast? == some 39) && txtB (l.drop 1).dropLast) := by unfold quoteP; rw [← hp]; rfl
  have hsf : hasSuf (l.drop 1) [39] = ((l.drop 1).getLast? == some 39) := by
   unfold hasSuf
   rcases concat_cases (l.drop 1) with e | ⟨m, y, e⟩
   ·rw [e]; rfl
   ·rw [e]; simp [Bool.eq_iff_iff]
  rw [← hsf] at hq
  have htk := take_pred (l.drop 1)
  have hrl : (l.drop 1).length ≤ 2000000 := by simp; omega
  clear hp h hsf
  generalize l.drop 1 = r at *
  cases hz : hasSuf r [39] with
  | false =>
   rw [hz] at hq HS
   have HF := Lib.hid (hq.trans (Bool.false_and _)); clear hq htk
   rw [if_neg (by decide)] at HS
   generalize r.take (r.length - 0) = y at *
   go_enter Tryz.func200, Tryz.ntmps200
   go_wp2_with (first | (go_at_call 126; refine (HP.out _).mono ?_; rintro e w' ⟨rfl, rfl⟩) | (go_at_call 148; refine (HS.out _).mono ?_; rintro e w' ⟨rfl, rfl⟩))
   go_ret
   exact ⟨ret_b HF.out.symm, rfl⟩
  | true =>
   rw [hz, Bool.true_and] at hq
   rw [hz, if_pos rfl, htk] at HS
   have HF := Lib.hid hq; clear hq htk
   have HT := Lib.hid (fun w => i_isText r.dropLast w (by simp; omega))
   generalize r.dropLast = y at *
   generalize txtB y = b at *
   go_enter Tryz.func200, Tryz.ntmps200
   go_wp2_with (first | (go_at_call 126; refine (HP.out _).mono ?_; rintro e w' ⟨rfl, rfl⟩) | (go_at_call 148; refine (HS.out _).mono ?_; rintro e w' ⟨rfl, rfl⟩) | (go_at_call 125; refine (HT.out _).mono ?_; rintro e w' ⟨rfl, rfl⟩))
   go_ret
   exact ⟨ret_b HF.out.symm, rfl⟩
theorem i_isPlain (k l : Bs) (w : World) (hs : l.length ≤ 2000000) :
  Calls Tryz.prog 189 #[.string (S k), .string (S l)] w fun e w' => e = .returned (.bool (plainP k l)) ∧ w = w' := by
 by_cases h1 : k = [110]
 ·subst h1
  have HF := Lib.hid (show plainP [110] l = (decP l 999999).isSome by unfold plainP; rw [if_pos rfl])
  have HD := Lib.hid (fun w => i_readDecimal l 999999 w hs (by omega) (by omega))
  generalize decP l 999999 = o at *
  go_enter Tryz.func189, Tryz.ntmps189
  go_wp2_with (go_at_call 151; refine (HD.out _).mono ?_; rintro e w' ⟨rfl, rfl⟩)
  go_ret
  exact ⟨ret_b HF.out.symm, rfl⟩
 ·by_cases h2 : k = [116]
  ·subst h2
   have HF := Lib.hid (show plainP [116] l = quoteP l by unfold plainP; rw [if_neg (by decide), if_pos rfl])
   have HD := Lib.hid (fun w => i_isQuoted l w hs)
   generalize quoteP l = o at *
   go_enter Tryz.func189, Tryz.ntmps189
   go_wp2_with (go_at_call 200; refine (HD.out _).mono ?_; rintro e w' ⟨rfl, rfl⟩)
   go_ret
   exact ⟨ret_b HF.out.symm, rfl⟩
  ·by_cases h3 : k = [102]
   ·subst h3
    have HF := Lib.hid (show plainP [102] l = (l == [121, 101, 115] || l == [110, 111]) by unfold plainP; rw [if_neg (by decide), if_neg (by decide), if_pos rfl])
    cases h4 : (l == [121, 101, 115]) with
    | true =>
     go_enter Tryz.func189, Tryz.ntmps189
     go_wp2_with fail
     go_ret
     exact ⟨ret_b (by rw [HF.out, h4]; rfl), rfl⟩
    | false =>
     have H4 := Lib.hid h4
     go_enter Tryz.func189, Tryz.ntmps189
     go_wp2_with fail
     go_ret
     exact ⟨ret_b (by rw [HF.out, H4.out, Bool.false_or]), rfl⟩
   ·have b1 : (k == [110]) = false := by simp [h1]
    have b2 : (k == [116]) = false := by simp [h2]
    have b3 : (k == [102]) = false := by simp [h3]
    have HF := Lib.hid (show plainP k l = false by unfold plainP; rw [if_neg h1, if_neg h2, if_neg h3])
    clear h1 h2 h3
    go_enter Tryz.func189, Tryz.ntmps189
    go_wp2_with fail
    go_ret
    exact ⟨ret_b HF.out.symm, rfl⟩
theorem i_standOf_plain (k : Bs) (v : Value) (w : World) (h : k = [110] ∨ k = [116] ∨ k = [102]) :
  Calls Tryz.prog 42 #[.string (S k), v] w fun e w' => e = .returned (.string (S (plainV k))) ∧ w = w' := by
 have e1 : at_ [110] 0 = 110 := rfl
 have e2 : at_ [116] 0 = 116 := rfl
 have e3 : at_ [102] 0 = 102 := rfl
 rcases h with rfl | rfl | rfl
 all_goals
  go_enter Tryz.func42, Tryz.ntmps42
  go_wp2_with fail
  go_ret
  exact ⟨rfl, rfl⟩
theorem plainP_kinds {k l : Bs} (h : plainP k l = true) : k = [110] ∨ k = [116] ∨ k = [102] := by
 unfold plainP at h
 split at h
 ·left; assumption
 ·split at h
  ·right; left; assumption
  ·split at h
   ·right; right; assumption
   ·cases h
def csA (o : Option (Bs × Bs)) : Bs := match o with | some x => x.1 | none => []
def csB (o : Option (Bs × Bs)) : Bs := match o with | some x => x.2 | none => []
theorem i_cutStand (l : Bs) (w : World) (hs : l.length ≤ 2000000) :
  Calls Tryz.prog 169 #[.string (S l)] w fun e w' => e = .returned (.tuple #[.string (S (csA (cutStandP l))), .string (S (csB (cutStandP l))), .bool (cutStandP l).isSome]) ∧ Below w.heap.size w w' := by
 have HC := Lib.hid (fun w => i_Cut l 61 w hs)
 rw [show ((61 : UInt8).toNat : Int) = 61 from rfl] at HC
 cases h : cutHas 61 l with
 | false =>
  have HF := Lib.hid (cutStand_no h)
  rw [h] at HC
  clear h
  generalize cutA 61 l = a at *
  generalize cutB 61 l = b at *
  go_enter Tryz.func169, Tryz.ntmps169
  go_wp2_with fail
  refine (HC.out _).mono ?_
  rintro e w1 ⟨rfl, hb⟩
  go_wp2_with fail
  go_ret3
  exact ⟨ret_ssb (by rw [HF.out]; rfl) (by rw [HF.out]; rfl) (by rw [HF.out]; rfl), hb⟩
 | true =>
  have hF := show cutStandP l = if (plainP (cutA 61 l) (cutB 61 l) && !(cutB 61 l == plainV (cutA 61 l))) = true then some (cutA 61 l, cutB 61 l) else none by unfold cutStandP; rw [if_pos h]
  rw [h] at HC
  have hbl := cutB_len 61 l
  clear h
  generalize cutA 61 l = a at *
  generalize cutB 61 l = b at *
  have HP := Lib.hid (fun w => i_isPlain a b w (by omega))
  cases hp : plainP a b with
  | false =>
   have HF := Lib.hid (hF.trans (by rw [hp]; rfl : _ = none)); clear hF
   rw [hp] at HP
   clear hp
   go_enter Tryz.func169, Tryz.ntmps169
   go_wp2_with fail
   refine (HC.out _).mono ?_
   rintro e w1 ⟨rfl, hb⟩
   go_wp2_with (go_at_call 189; refine (HP.out _).mono ?_; rintro e w' ⟨rfl, rfl⟩)
   go_ret3
   exact ⟨ret_ssb (by rw [HF.out]; rfl) (by rw [HF.out]; rfl) (by rw [HF.out]; rfl), hb⟩
  | true =>
   have HK := Lib.hid (fun v w => i_standOf_plain a v w (plainP_kinds hp))
   rw [hp] at HP hF
   clear hp
   cases he : (b == plainV a) with
   | true =>
    have HF := Lib.hid (hF.trans (by rw [he]; rfl : _ = none)); clear hF
    generalize plainV a = p at *
    go_enter Tryz.func169, Tryz.ntmps169
    go_wp2_with fail
    refine (HC.out _).mono ?_
    rintro e w1 ⟨rfl, hb⟩
    go_wp2_with (first | (go_at_call 189; refine (HP.out _).mono ?_; rintro e w' ⟨rfl, rfl⟩) | (go_at_call 42; refine (HK.out _ _).mono ?_; rintro e w' ⟨rfl, rfl⟩))
    go_ret3
    exact ⟨ret_ssb (by rw [HF.out]; rfl) (by rw [HF.out]; rfl) (by rw [HF.out]; rfl), hb⟩
   | false =>
    have HF := Lib.hid (hF.trans (by rw [he]; rfl : _ = some (a, b))); clear hF
    generalize plainV a = p at *
    go_enter Tryz.func169, Tryz.ntmps169
    go_wp2_with fail
    refine (HC.out _).mono ?_
    rintro e w1 ⟨rfl, hb⟩
    go_wp2_with (first | (go_at_call 189; refine (HP.out _).mono ?_; rintro e w' ⟨rfl, rfl⟩) | (go_at_call 42; refine (HK.out _ _).mono ?_; rintro e w' ⟨rfl, rfl⟩))
    go_ret3
    exact ⟨ret_ssb (by rw [HF.out]; rfl) (by rw [HF.out]; rfl) (by rw [HF.out]; rfl), hb⟩
def pfv (f : Fl) : Value := .agg #[.int .i64 f.tag, .string (S f.name), .string (S f.kind), .string (S f.stand), .pointer none]
def RetPF (w : World) (o : Option Fl) (e : Ending) (w' : World) : Prop := ∃ f : Fl, e = .returned (.tuple #[pfv f, .bool o.isSome]) ∧ (∀ x, o = some x → f = x) ∧ Below w.heap.size w w'
theorem RetPF.no {w w' : World} {o : Option Fl} (f : Fl) (h : o = none) (hb : Below w.heap.size w w') : RetPF w o (.returned (.tuple #[pfv f, .bool false])) w' := ⟨f, by rw [h]; rfl, (by rw [h]; intro x hx; cases hx), hb⟩
theorem RetPF.yes {w w' : World} {o : Option Fl} (f : Fl) (h : o = some f) (hb : Below w.heap.size w w') : RetPF w o (.returned (.tuple #[pfv f, .bool true])) w' := ⟨f, by rw [h]; rfl, (by rw [h]; intro x hx; injection hx), hb⟩
theorem fieldP_zero {s : Bs} {c : Int} (h : decP (cutA 58 s) 200 = some 0) : fieldP s c = none := by unfold fieldP; rw [h]; rfl
theorem fieldP_E {s : Bs} {tag : Int} (h : decP (cutA 58 s) 200 = some tag) (h0 : tag ≠ 0) : fieldP s 69 = if isName (cutB 58 s) = true then some ⟨tag, cutB 58 s, [], []⟩ else none := by unfold fieldP; rw [h]; simp only; rw [if_neg h0, if_pos trivial]
theorem fieldP_R {s : Bs} {tag : Int} (h : decP (cutA 58 s) 200 = some tag) (h0 : tag ≠ 0) : fieldP s 82 = match cutStandP (cutB 58 (cutB 58 s)) with
      | none => none
      | some x => if isName (cutA 58 (cutB 58 s)) = true ∧ kOk x.1 = true then some ⟨tag, cutA 58 (cutB 58 s), x.1, x.2⟩ else none := by unfold fieldP; rw [h]; simp only; rw [if_neg h0, if_neg (by decide), if_pos trivial]; cases cutStandP (cutB 58 (cutB 58 s)) <;> rfl
theorem fieldP_U {s : Bs} {tag : Int} (h : decP (cutA 58 s) 200 = some tag) (h0 : tag ≠ 0) : fieldP s 85 = if isName (cutA 58 (cutB 58 s)) = true ∧ kOk (cutB 58 (cutB 58 s)) = true then some ⟨tag, cutA 58 (cutB 58 s), cutB 58 (cutB 58 s), []⟩ else none := by unfold fieldP; rw [h]; simp only; rw [if_neg h0, if_neg (by decide), if_neg (by decide)]
set_option maxHeartbeats 4000000 in
theorem i_readField_bad (l : Bs) (c : UInt8) (w : World) (hs : l.length ≤ 1000000) (h : decP (cutA 58 l) 200 = none ∨ decP (cutA 58 l) 200 = some 0) :
  Calls Tryz.prog 144 #[.string (S [c]), .string (S l)] w (RetPF w (fieldP l (c.toNat : Int))) := by
 have hF : fieldP l (c.toNat : Int) = none := by
  rcases h with h | h
  ·exact fieldP_tag h
  ·exact fieldP_zero h
 rw [hF]
 have HC := Lib.hid (fun w => i_Cut l 58 w (by omega))
 rw [show ((58 : UInt8).toNat : Int) = 58 from rfl] at HC
 have hal := cutA_len 58 l
 generalize cutA 58 l = a at *
 generalize cutB 58 l = b at *
 generalize cutHas 58 l = z at *
 have HD := Lib.hid (fun w => i_readDecimal a 200 w (by omega) (by omega) (by omega))
 clear hF
 rcases h with h | h
 all_goals
  rw [h] at HD
  clear h
  go_enter Tryz.func144, Tryz.ntmps144
  go_wp2_with fail
  refine (HC.out _).mono ?_
  rintro e w1 ⟨rfl, hb⟩
  have K := (Blk.new w 55 #[.int .i64 0, .string { data := #[] }, .string { data := #[] }, .string { data := #[] }, .pointer none]).keep hb
  have k0 := K.cell 0
  have k1 := K.cell 1
  have k2 := K.cell 2
  have k3 := K.cell 3
  have k4 := K.cell 4
  have f0 := K.frozen 0
  have f1 := K.frozen 1
  have f2 := K.frozen 2
  have f3 := K.frozen 3
  have f4 := K.frozen 4
  simp at k0 k1 k2 k3 k4
  have hlt : w.heap.size < w1.heap.size := by have := hb.size; simp at this; omega
  clear K
  go_wp2_with (go_at_call 151; refine (HD.out _).mono ?_; rintro e w' ⟨rfl, rfl⟩)
  refine bodyPost_ret (v := .tuple #[pfv ⟨0, [], [], []⟩, .bool false]) ?_ rfl ?_
  ·simp [results, Tryz.results144, go_sem, pfv, k0, k1, k2, k3, k4, f0, f1, f2, f3, f4, hlt]; rfl
  ·exact RetPF.no _ rfl (by (repeat (first | with_reducible exact Below.refl _ _ | with_reducible apply below_drew | with_reducible apply below_draws | with_reducible apply below_alloc | with_reducible apply below_set | (with_reducible refine below_trans ?_ (by assumption)) | (with_reducible refine Below.trans ?_ (by assumption)) | exact Nat.le_refl _ | omega | (simp <;> omega))))
set_option maxHeartbeats 4000000 in
theorem i_readField_E (l : Bs) (tag : Int) (w : World) (hs : l.length ≤ 1000000) (h : decP (cutA 58 l) 200 = some tag) (h0 : tag ≠ 0) :
  Calls Tryz.prog 144 #[.string (S [69]), .string (S l)] w (RetPF w (fieldP l 69)) := by
 rw [fieldP_E h h0]
 have HC := Lib.hid (fun w => i_Cut l 58 w (by omega))
 rw [show ((58 : UInt8).toNat : Int) = 58 from rfl] at HC
 have hal := cutA_len 58 l
 have hbl := cutB_len 58 l
 generalize cutA 58 l = a at *
 generalize cutB 58 l = b at *
 generalize cutHas 58 l = z at *
 have HD := Lib.hid (fun w => i_readDecimal a 200 w (by omega) (by omega) (by omega))
 rw [h] at HD
 have ht0 : (tag == 0) = false := by simp [h0]
 clear h h0
 have HN := Lib.hid (fun w => i_isName b w (by omega))
 obtain ⟨o, ho⟩ : ∃ o, (if isName b = true then some (Fl.mk tag b [] []) else none) = o := ⟨_, rfl⟩
 rw [ho]
 have HO := Lib.hid ho; clear ho
 cases hn : isName b with
 | true =>
  have HF := Lib.hid (HO.out.symm.trans (if_pos hn)); clear HO
  rw [hn] at HN
  clear hn
  go_enter Tryz.func144, Tryz.ntmps144
  go_wp2_with fail
  refine (HC.out _).mono ?_
  rintro e w1 ⟨rfl, hb⟩
  have K := (Blk.new w 55 #[.int .i64 0, .string { data := #[] }, .string { data := #[] }, .string { data := #[] }, .pointer none]).keep hb
  have k0 := K.cell 0
  have k1 := K.cell 1
  have k2 := K.cell 2
  have k3 := K.cell 3
  have k4 := K.cell 4
  have f0 := K.frozen 0
  have f1 := K.frozen 1
  have f2 := K.frozen 2
  have f3 := K.frozen 3
  have f4 := K.frozen 4
  simp at k0 k1 k2 k3 k4
  have hlt : w.heap.size < w1.heap.size := by have := hb.size; simp at this; omega
  clear K
  go_wp2_with (first | (go_at_call 151; refine (HD.out _).mono ?_; rintro e w' ⟨rfl, rfl⟩) | (go_at_call 115; refine (HN.out _).mono ?_; rintro e w' ⟨rfl, rfl⟩))
  refine bodyPost_ret (v := .tuple #[pfv ⟨tag, b, [], []⟩, .bool true]) ?_ rfl ?_
  ·simp [results, Tryz.results144, go_sem, pfv, k0, k1, k2, k3, k4, f0, f1, f2, f3, f4, hlt]; rfl
  ·exact RetPF.yes _ HF.out (by (repeat (first | with_reducible exact Below.refl _ _ | with_reducible apply below_drew | with_reducible apply below_draws | with_reducible apply below_alloc | with_reducible apply below_set | (with_reducible refine below_trans ?_ (by assumption)) | (with_reducible refine Below.trans ?_ (by assumption)) | exact Nat.le_refl _ | omega | (simp <;> omega))))
 | false =>
  have HF := Lib.hid (HO.out.symm.trans (if_neg (by rw [hn]; decide))); clear HO
  rw [hn] at HN
  clear hn
  go_enter Tryz.func144, Tryz.ntmps144
  go_wp2_with fail
  refine (HC.out _).mono ?_
  rintro e w1 ⟨rfl, hb⟩
  have K := (Blk.new w 55 #[.int .i64 0, .string { data := #[] }, .string { data := #[] }, .string { data := #[] }, .pointer none]).keep hb
  have k0 := K.cell 0
  have k1 := K.cell 1
  have k2 := K.cell 2
  have k3 := K.cell 3
  have k4 := K.cell 4
  have f0 := K.frozen 0
  have f1 := K.frozen 1
  have f2 := K.frozen 2
  have f3 := K.frozen 3
  have f4 := K.frozen 4
  simp at k0 k1 k2 k3 k4
  have hlt : w.heap.size < w1.heap.size := by have := hb.size; simp at this; omega
  clear K
  go_wp2_with (first | (go_at_call 151; refine (HD.out _).mono ?_; rintro e w' ⟨rfl, rfl⟩) | (go_at_call 115; refine (HN.out _).mono ?_; rintro e w' ⟨rfl, rfl⟩))
  refine bodyPost_ret (v := .tuple #[pfv ⟨tag, b, [], []⟩, .bool false]) ?_ rfl ?_
  ·simp [results, Tryz.results144, go_sem, pfv, k0, k1, k2, k3, k4, f0, f1, f2, f3, f4, hlt]; rfl
  ·exact RetPF.no _ HF.out (by (repeat (first | with_reducible exact Below.refl _ _ | with_reducible apply below_drew | with_reducible apply below_draws | with_reducible apply below_alloc | with_reducible apply below_set | (with_reducible refine below_trans ?_ (by assumption)) | (with_reducible refine Below.trans ?_ (by assumption)) | exact Nat.le_refl _ | omega | (simp <;> omega))))
set_option maxHeartbeats 4000000 in
theorem i_readField_U (l : Bs) (tag : Int) (w : World) (hs : l.length ≤ 1000000) (h : decP (cutA 58 l) 200 = some tag) (h0 : tag ≠ 0) :
  Calls Tryz.prog 144 #[.string (S [85]), .string (S l)] w (RetPF w (fieldP l 85)) := by
 rw [fieldP_U h h0]
 have HC := Lib.hid (fun w => i_Cut l 58 w (by omega))
 rw [show ((58 : UInt8).toNat : Int) = 58 from rfl] at HC
 have hal := cutA_len 58 l
 have hbl := cutB_len 58 l
 generalize cutA 58 l = a at *
 generalize cutB 58 l = b at *
 generalize cutHas 58 l = z at *
 have HD := Lib.hid (fun w => i_readDecimal a 200 w (by omega) (by omega) (by omega))
 rw [h] at HD
 have ht0 : (tag == 0) = false := by simp [h0]
 clear h h0
 have HC2 := Lib.hid (fun w => i_Cut b 58 w (by omega))
 rw [show ((58 : UInt8).toNat : Int) = 58 from rfl] at HC2
 have hal2 := cutA_len 58 b
 have hbl2 := cutB_len 58 b
 generalize cutA 58 b = n at *
 generalize cutB 58 b = k at *
 generalize cutHas 58 b = z2 at *
 have HN := Lib.hid (fun w => i_isName n w (by omega))
 have HK := Lib.hid (fun w => i_KindOk k w (by omega))
 obtain ⟨o, ho⟩ : ∃ o, (if isName n = true ∧ kOk k = true then some (Fl.mk tag n k []) else none) = o := ⟨_, rfl⟩
 rw [ho]
 have HO := Lib.hid ho; clear ho
 cases hn : isName n with
 | true =>
  rw [hn] at HN
  cases hk : kOk k with
  | true =>
   have HF := Lib.hid (HO.out.symm.trans (if_pos ⟨hn, hk⟩)); clear HO
   rw [hk] at HK
   clear hn hk
   go_enter Tryz.func144, Tryz.ntmps144
   go_wp2_with fail
   refine (HC.out _).mono ?_
   rintro e w1 ⟨rfl, hb⟩
   go_wp2_with (go_at_call 151; refine (HD.out _).mono ?_; rintro e w' ⟨rfl, rfl⟩)
   refine (HC2.out _).mono ?_
   rintro e w2 ⟨rfl, hb2⟩
   have K := (((Blk.new w 55 #[.int .i64 0, .string { data := #[] }, .string { data := #[] }, .string { data := #[] }, .pointer none]).keep hb).keep hb2)
   have k0 := K.cell 0
   have k1 := K.cell 1
   have k2 := K.cell 2
   have k3 := K.cell 3
   have k4 := K.cell 4
   have f0 := K.frozen 0
   have f1 := K.frozen 1
   have f2 := K.frozen 2
   have f3 := K.frozen 3
   have f4 := K.frozen 4
   simp at k0 k1 k2 k3 k4
   have hlt : w.heap.size < w2.heap.size := by have h1 := hb.size; have h2 := hb2.size; simp at h1; omega
   clear K
   go_wp2_with (first | (go_at_call 115; refine (HN.out _).mono ?_; rintro e w' ⟨rfl, rfl⟩) | (go_at_call 170; refine (HK.out _).mono ?_; rintro e w' ⟨rfl, rfl⟩))
   refine bodyPost_ret (v := .tuple #[pfv ⟨tag, n, k, []⟩, .bool true]) ?_ rfl ?_
   ·simp [results, Tryz.results144, go_sem, pfv, k0, k1, k2, k3, k4, f0, f1, f2, f3, f4, hlt]; try rfl
   ·exact RetPF.yes _ HF.out (by (repeat (first | with_reducible exact Below.refl _ _ | with_reducible apply below_drew | with_reducible apply below_draws | with_reducible apply below_alloc | with_reducible apply below_set | (with_reducible refine below_trans ?_ (by assumption)) | (with_reducible refine Below.trans ?_ (by assumption)) | exact Nat.le_refl _ | omega | (simp <;> omega))))
  | false =>
   have HF := Lib.hid (HO.out.symm.trans (if_neg (fun h => by rw [hk] at h; cases h.2))); clear HO
   rw [hk] at HK
   clear hn hk
   go_enter Tryz.func144, Tryz.ntmps144
   go_wp2_with fail
   refine (HC.out _).mono ?_
   rintro e w1 ⟨rfl, hb⟩
   go_wp2_with (go_at_call 151; refine (HD.out _).mono ?_; rintro e w' ⟨rfl, rfl⟩)
   refine (HC2.out _).mono ?_
   rintro e w2 ⟨rfl, hb2⟩
   have K := (((Blk.new w 55 #[.int .i64 0, .string { data := #[] }, .string { data := #[] }, .string { data := #[] }, .pointer none]).keep hb).keep hb2)
   have k0 := K.cell 0
   have k1 := K.cell 1
   have k2 := K.cell 2
   have k3 := K.cell 3
   have k4 := K.cell 4
   have f0 := K.frozen 0
   have f1 := K.frozen 1
   have f2 := K.frozen 2
   have f3 := K.frozen 3
   have f4 := K.frozen 4
   simp at k0 k1 k2 k3 k4
   have hlt : w.heap.size < w2.heap.size := by have h1 := hb.size; have h2 := hb2.size; simp at h1; omega
   clear K
   go_wp2_with (first | (go_at_call 115; refine (HN.out _).mono ?_; rintro e w' ⟨rfl, rfl⟩) | (go_at_call 170; refine (HK.out _).mono ?_; rintro e w' ⟨rfl, rfl⟩))
   refine bodyPost_ret (v := .tuple #[pfv ⟨0, [], [], []⟩, .bool false]) ?_ rfl ?_
   ·simp [results, Tryz.results144, go_sem, pfv, k0, k1, k2, k3, k4, f0, f1, f2, f3, f4, hlt]; try rfl
   ·exact RetPF.no _ HF.out (by (repeat (first | with_reducible exact Below.refl _ _ | with_reducible apply below_drew | with_reducible apply below_draws | with_reducible apply below_alloc | with_reducible apply below_set | (with_reducible refine below_trans ?_ (by assumption)) | (with_reducible refine Below.trans ?_ (by assumption)) | exact Nat.le_refl _ | omega | (simp <;> omega))))
 | false =>
  have HF := Lib.hid (HO.out.symm.trans (if_neg (fun h => by rw [hn] at h; cases h.1))); clear HO HK
  rw [hn] at HN
  clear hn
  go_enter Tryz.func144, Tryz.ntmps144
  go_wp2_with fail
  refine (HC.out _).mono ?_
  rintro e w1 ⟨rfl, hb⟩
  go_wp2_with (go_at_call 151; refine (HD.out _).mono ?_; rintro e w' ⟨rfl, rfl⟩)
  refine (HC2.out _).mono ?_
  rintro e w2 ⟨rfl, hb2⟩
  have K := (((Blk.new w 55 #[.int .i64 0, .string { data := #[] }, .string { data := #[] }, .string { data := #[] }, .pointer none]).keep hb).keep hb2)
  have k0 := K.cell 0
  have k1 := K.cell 1
  have k2 := K.cell 2
  have k3 := K.cell 3
  have k4 := K.cell 4
  have f0 := K.frozen 0
  have f1 := K.frozen 1
  have f2 := K.frozen 2
  have f3 := K.frozen 3
  have f4 := K.frozen 4
  simp at k0 k1 k2 k3 k4
  have hlt : w.heap.size < w2.heap.size := by have h1 := hb.size; have h2 := hb2.size; simp at h1; omega
  clear K
  go_wp2_with (first | (go_at_call 115; refine (HN.out _).mono ?_; rintro e w' ⟨rfl, rfl⟩))
  refine bodyPost_ret (v := .tuple #[pfv ⟨0, [], [], []⟩, .bool false]) ?_ rfl ?_
  ·simp [results, Tryz.results144, go_sem, pfv, k0, k1, k2, k3, k4, f0, f1, f2, f3, f4, hlt]; try rfl
  ·exact RetPF.no _ HF.out (by (repeat (first | with_reducible exact Below.refl _ _ | with_reducible apply below_drew | with_reducible apply below_draws | with_reducible apply below_alloc | with_reducible apply below_set | (with_reducible refine below_trans ?_ (by assumption)) | (with_reducible refine Below.trans ?_ (by assumption)) | exact Nat.le_refl _ | omega | (simp <;> omega))))
set_option maxHeartbeats 4000000 in
theorem i_readField_R (l : Bs) (tag : Int) (w : World) (hs : l.length ≤ 1000000) (h : decP (cutA 58 l) 200 = some tag) (h0 : tag ≠ 0) :
  Calls Tryz.prog 144 #[.string (S [82]), .string (S l)] w (RetPF w (fieldP l 82)) := by
 rw [fieldP_R h h0]
 have HC := Lib.hid (fun w => i_Cut l 58 w (by omega))
 rw [show ((58 : UInt8).toNat : Int) = 58 from rfl] at HC
 have hal := cutA_len 58 l
 have hbl := cutB_len 58 l
 generalize cutA 58 l = a at *
 generalize cutB 58 l = b at *
 generalize cutHas 58 l = z at *
 have HD := Lib.hid (fun w => i_readDecimal a 200 w (by omega) (by omega) (by omega))
 rw [h] at HD
 have ht0 : (tag == 0) = false := by simp [h0]
 clear h h0
 have HC2 := Lib.hid (fun w => i_Cut b 58 w (by omega))
 rw [show ((58 : UInt8).toNat : Int) = 58 from rfl] at HC2
 have hal2 := cutA_len 58 b
 have hbl2 := cutB_len 58 b
 generalize cutA 58 b = n at *
 generalize cutB 58 b = k at *
 generalize cutHas 58 b = z2 at *
 have HCS := Lib.hid (fun w => i_cutStand k w (by omega))
 have hcl : ∀ x, cutStandP k = some x → x.1.length ≤ 1000000 := by
  intro x hx
  unfold cutStandP at hx
  split at hx
  ·split at hx
   ·injection hx with hx; subst hx; have := cutA_len 61 k; simp only; omega
   ·cases hx
  ·injection hx with hx; subst hx; simp only; omega
 generalize cutStandP k = cs at *
 have HN := Lib.hid (fun w => i_isName n w (by omega))
 cases cs with
 | none =>
  clear hcl HN
  simp only [csA, csB] at HCS
  go_enter Tryz.func144, Tryz.ntmps144
  go_wp2_with fail
  refine (HC.out _).mono ?_
  rintro e w1 ⟨rfl, hb⟩
  go_wp2_with (go_at_call 151; refine (HD.out _).mono ?_; rintro e w' ⟨rfl, rfl⟩)
  refine (HC2.out _).mono ?_
  rintro e w2 ⟨rfl, hb2⟩
  go_wp2_with fail
  refine (HCS.out _).mono ?_
  rintro e w3 ⟨rfl, hb3⟩
  have K := (((Blk.new w 55 #[.int .i64 0, .string { data := #[] }, .string { data := #[] }, .string { data := #[] }, .pointer none]).keep hb).keep hb2).keep hb3
  have k0 := K.cell 0
  have k1 := K.cell 1
  have k2 := K.cell 2
  have k3 := K.cell 3
  have k4 := K.cell 4
  have f0 := K.frozen 0
  have f1 := K.frozen 1
  have f2 := K.frozen 2
  have f3 := K.frozen 3
  have f4 := K.frozen 4
  simp at k0 k1 k2 k3 k4
  have hlt : w.heap.size < w3.heap.size := by have h1 := hb.size; have h2 := hb2.size; have h3 := hb3.size; simp at h1; omega
  clear K
  go_wp2_with fail
  refine bodyPost_ret (v := .tuple #[pfv ⟨0, [], [], []⟩, .bool false]) ?_ rfl ?_
  ·simp [results, Tryz.results144, go_sem, pfv, k0, k1, k2, k3, k4, f0, f1, f2, f3, f4, hlt]; try rfl
  ·exact RetPF.no _ rfl (by (repeat (first | with_reducible exact Below.refl _ _ | with_reducible apply below_drew | with_reducible apply below_draws | with_reducible apply below_alloc | with_reducible apply below_set | (with_reducible refine below_trans ?_ (by assumption)) | (with_reducible refine Below.trans ?_ (by assumption)) | exact Nat.le_refl _ | omega | (simp <;> omega))))
 | some x =>
  obtain ⟨kk, ss⟩ := x
  have hkl : kk.length ≤ 1000000 := hcl _ rfl
  simp only [csA, csB] at HCS ⊢
  have HK := Lib.hid (fun w => i_KindOk kk w (by omega))
  obtain ⟨o, ho⟩ : ∃ o, (if isName n = true ∧ kOk kk = true then some (Fl.mk tag n kk ss) else none) = o := ⟨_, rfl⟩
  rw [ho]
  have HO := Lib.hid ho; clear ho hcl
  cases hn : isName n with
  | true =>
   rw [hn] at HN
   cases hk : kOk kk with
   | true =>
    have HF := Lib.hid (HO.out.symm.trans (if_pos ⟨hn, hk⟩)); clear HO
    rw [hk] at HK
    clear hn hk
    go_enter Tryz.func144, Tryz.ntmps144
    go_wp2_with fail
    refine (HC.out _).mono ?_
    rintro e w1 ⟨rfl, hb⟩
    go_wp2_with (go_at_call 151; refine (HD.out _).mono ?_; rintro e w' ⟨rfl, rfl⟩)
    refine (HC2.out _).mono ?_
    rintro e w2 ⟨rfl, hb2⟩
    go_wp2_with fail
    refine (HCS.out _).mono ?_
    rintro e w3 ⟨rfl, hb3⟩
    have K := (((Blk.new w 55 #[.int .i64 0, .string { data := #[] }, .string { data := #[] }, .string { data := #[] }, .pointer none]).keep hb).keep hb2).keep hb3
    have k0 := K.cell 0
    have k1 := K.cell 1
    have k2 := K.cell 2
    have k3 := K.cell 3
    have k4 := K.cell 4
    have f0 := K.frozen 0
    have f1 := K.frozen 1
    have f2 := K.frozen 2
    have f3 := K.frozen 3
    have f4 := K.frozen 4
    simp at k0 k1 k2 k3 k4
    have hlt : w.heap.size < w3.heap.size := by have h1 := hb.size; have h2 := hb2.size; have h3 := hb3.size; simp at h1; omega
    clear K
    go_wp2_with (first | (go_at_call 115; refine (HN.out _).mono ?_; rintro e w' ⟨rfl, rfl⟩) | (go_at_call 170; refine (HK.out _).mono ?_; rintro e w' ⟨rfl, rfl⟩))
    refine bodyPost_ret (v := .tuple #[pfv ⟨tag, n, kk, ss⟩, .bool true]) ?_ rfl ?_
    ·simp [results, Tryz.results144, go_sem, pfv, k0, k1, k2, k3, k4, f0, f1, f2, f3, f4, hlt]; try rfl
    ·exact RetPF.yes _ HF.out (by (repeat (first | with_reducible exact Below.refl _ _ | with_reducible apply below_drew | with_reducible apply below_draws | with_reducible apply below_alloc | with_reducible apply below_set | (with_reducible refine below_trans ?_ (by assumption)) | (with_reducible refine Below.trans ?_ (by assumption)) | exact Nat.le_refl _ | omega | (simp <;> omega))))
   | false =>
    have HF := Lib.hid (HO.out.symm.trans (if_neg (fun h => by rw [hk] at h; cases h.2))); clear HO
    rw [hk] at HK
    clear hn hk
    go_enter Tryz.func144, Tryz.ntmps144
    go_wp2_with fail
    refine (HC.out _).mono ?_
    rintro e w1 ⟨rfl, hb⟩
    go_wp2_with (go_at_call 151; refine (HD.out _).mono ?_; rintro e w' ⟨rfl, rfl⟩)
    refine (HC2.out _).mono ?_
    rintro e w2 ⟨rfl, hb2⟩
    go_wp2_with fail
    refine (HCS.out _).mono ?_
    rintro e w3 ⟨rfl, hb3⟩
    have K := (((Blk.new w 55 #[.int .i64 0, .string { data := #[] }, .string { data := #[] }, .string { data := #[] }, .pointer none]).keep hb).keep hb2).keep hb3
    have k0 := K.cell 0
    have k1 := K.cell 1
    have k2 := K.cell 2
    have k3 := K.cell 3
    have k4 := K.cell 4
    have f0 := K.frozen 0
    have f1 := K.frozen 1
    have f2 := K.frozen 2
    have f3 := K.frozen 3
    have f4 := K.frozen 4
    simp at k0 k1 k2 k3 k4
    have hlt : w.heap.size < w3.heap.size := by have h1 := hb.size; have h2 := hb2.size; have h3 := hb3.size; simp at h1; omega
    clear K
    go_wp2_with (first | (go_at_call 115; refine (HN.out _).mono ?_; rintro e w' ⟨rfl, rfl⟩) | (go_at_call 170; refine (HK.out _).mono ?_; rintro e w' ⟨rfl, rfl⟩))
    refine bodyPost_ret (v := .tuple #[pfv ⟨0, [], [], []⟩, .bool false]) ?_ rfl ?_
    ·simp [results, Tryz.results144, go_sem, pfv, k0, k1, k2, k3, k4, f0, f1, f2, f3, f4, hlt]; try rfl
    ·exact RetPF.no _ HF.out (by (repeat (first | with_reducible exact Below.refl _ _ | with_reducible apply below_drew | with_reducible apply below_draws | with_reducible apply below_alloc | with_reducible apply below_set | (with_reducible refine below_trans ?_ (by assumption)) | (with_reducible refine Below.trans ?_ (by assumption)) | exact Nat.le_refl _ | omega | (simp <;> omega))))
  | false =>
   have HF := Lib.hid (HO.out.symm.trans (if_neg (fun h => by rw [hn] at h; cases h.1))); clear HO HK
   rw [hn] at HN
   clear hn
   go_enter Tryz.func144, Tryz.ntmps144
   go_wp2_with fail
   refine (HC.out _).mono ?_
   rintro e w1 ⟨rfl, hb⟩
   go_wp2_with (go_at_call 151; refine (HD.out _).mono ?_; rintro e w' ⟨rfl, rfl⟩)
   refine (HC2.out _).mono ?_
   rintro e w2 ⟨rfl, hb2⟩
   go_wp2_with fail
   refine (HCS.out _).mono ?_
   rintro e w3 ⟨rfl, hb3⟩
   have K := (((Blk.new w 55 #[.int .i64 0, .string { data := #[] }, .string { data := #[] }, .string { data := #[] }, .pointer none]).keep hb).keep hb2).keep hb3
   have k0 := K.cell 0
   have k1 := K.cell 1
   have k2 := K.cell 2
   have k3 := K.cell 3
   have k4 := K.cell 4
   have f0 := K.frozen 0
   have f1 := K.frozen 1
   have f2 := K.frozen 2
   have f3 := K.frozen 3
   have f4 := K.frozen 4
   simp at k0 k1 k2 k3 k4
   have hlt : w.heap.size < w3.heap.size := by have h1 := hb.size; have h2 := hb2.size; have h3 := hb3.size; simp at h1; omega
   clear K
   go_wp2_with (first | (go_at_call 115; refine (HN.out _).mono ?_; rintro e w' ⟨rfl, rfl⟩))
   refine bodyPost_ret (v := .tuple #[pfv ⟨0, [], [], []⟩, .bool false]) ?_ rfl ?_
   ·simp [results, Tryz.results144, go_sem, pfv, k0, k1, k2, k3, k4, f0, f1, f2, f3, f4, hlt]; try rfl
   ·exact RetPF.no _ HF.out (by (repeat (first | with_reducible exact Below.refl _ _ | with_reducible apply below_drew | with_reducible apply below_draws | with_reducible apply below_alloc | with_reducible apply below_set | (with_reducible refine below_trans ?_ (by assumption)) | (with_reducible refine Below.trans ?_ (by assumption)) | exact Nat.le_refl _ | omega | (simp <;> omega))))
theorem i_readField (l : Bs) (c : UInt8) (w : World) (hs : l.length ≤ 1000000) (hc : isSort (c.toNat : Int) = true) :
  Calls Tryz.prog 144 #[.string (S [c]), .string (S l)] w (RetPF w (readField l (c.toNat : Int))) := by
 rw [← fieldP_eq l _ hc]
 cases h : decP (cutA 58 l) 200 with
 | none => exact i_readField_bad l c w hs (.inl h)
 | some tag =>
  by_cases h0 : tag = 0
  ·exact i_readField_bad l c w hs (.inr (by rw [h, h0]))
  ·have hcc : c = 82 ∨ c = 85 ∨ c = 69 := by
    unfold isSort at hc; simp at hc
    rcases hc with (hc | hc) | hc
    ·left; exact UInt8.toNat_inj.1 (by show _ = 82; omega)
    ·right; left; exact UInt8.toNat_inj.1 (by show _ = 85; omega)
    ·right; right; exact UInt8.toNat_inj.1 (by show _ = 69; omega)
   rcases hcc with rfl | rfl | rfl
   ·exact i_readField_R l tag w hs h h0
   ·exact i_readField_U l tag w hs h h0
   ·exact i_readField_E l tag w hs h h0
abbrev PF := Fl × Option Addr
def pfCells (p : PF) : List Value := [.int .i64 p.1.tag, sv p.1.name, sv p.1.kind, sv p.1.stand, .pointer p.2]
theorem pfCells_len (p : PF) : (pfCells p).length = 5 := rfl
def PFlds (w : World) (B : Nat) (v : Value) (fs : List PF) : Prop := w.ownsRow B 55 5 v fs.length (fs.flatMap pfCells)
theorem PFlds.below {w w' : World} {B : Nat} {v : Value} {fs : List PF} (h : PFlds w B v fs) (hb : Below w.heap.size w w') : PFlds w' B v fs := by
 unfold PFlds at *
 cases hv : v.ownBlock with
 | none => exact h.kept (grown_of_below hb none) (.inl hv)
 | some g => exact h.kept (row := none) (grown_of_below hb none) (.inr (by rw [hv]; simp))
theorem PFlds.mono {w : World} {B B' : Nat} {v : Value} {fs : List PF} (h : PFlds w B v fs) (hb : B' ≤ B) : PFlds w B' v fs := World.ownsRow.mono h hb
theorem PFlds.nil_ (w : World) (B : Nat) : PFlds w B (.slice none 0 0) [] := World.ownsRow_nil w B _ 5
theorem PFlds.form {w : World} {B : Nat} {v : Value} {fs : List PF} (h : PFlds w B v fs) : ∃ ao cap, v = .slice ao fs.length cap ∧ fs.length ≤ cap ∧
  (ao = none ∧ fs = [] ∨ ∃ g, ao = some ⟨g, 0, none⟩ ∧ B ≤ g ∧ g < w.heap.size) := by
 rcases h.2 with ⟨rfl, hn⟩ | ⟨g, cap, cur, rfl, hb, hg, hnc, hm, hs, ht⟩
 ·rw [hn]; exact ⟨none, 0, rfl, Nat.le_refl _, .inl ⟨rfl, List.eq_nil_of_length_eq_zero hn⟩⟩
 ·exact ⟨_, cap, rfl, hnc, .inr ⟨g, rfl, hb, (Array.getElem?_eq_some_iff.1 hg).1⟩⟩
theorem PFlds.same {w : World} {B g n cap : Nat} {fs : List PF} (h : PFlds w B (.slice (some ⟨g, 0, none⟩) n cap) fs) : n = fs.length := by
 obtain ⟨ao, c, hv, -, -⟩ := h.form; injection hv
theorem PFlds.cell {w : World} {B g n cap : Nat} {fs : List PF} (h : PFlds w B (.slice (some ⟨g, 0, none⟩) n cap) fs) (k j : Nat) (hk : k < fs.length) (hj : j < 5) : w.cell? ⟨g, k * 5 + j, none⟩ = (pfCells fs[k])[j]? := by
 obtain rfl := h.same
 rw [World.ownsRow.cellAt h (k * 5 + j) (by omega), flat_get pfCells_len fs k j hk hj]
theorem PFlds.cells5 {w : World} {B g n cap : Nat} {fs : List PF} (h : PFlds w B (.slice (some ⟨g, 0, none⟩) n cap) fs) (k : Nat) (hk : k < fs.length) :
  w.cell? ⟨g, k * 5, none⟩ = some (.int .i64 fs[k].1.tag) ∧ w.cell? ⟨g, k * 5 + 1, none⟩ = some (.string (S fs[k].1.name)) ∧ w.cell? ⟨g, k * 5 + 2, none⟩ = some (.string (S fs[k].1.kind)) ∧ w.cell? ⟨g, k * 5 + 3, none⟩ = some (.string (S fs[k].1.stand)) ∧ w.cell? ⟨g, k * 5 + 4, none⟩ = some (.pointer fs[k].2) :=
 ⟨h.cell k 0 hk (by omega), h.cell k 1 hk (by omega), h.cell k 2 hk (by omega), h.cell k 3 hk (by omega), h.cell k 4 hk (by omega)⟩
theorem PFlds.nofreeze {w : World} {B g n cap : Nat} {fs : List PF} (h : PFlds w B (.slice (some ⟨g, 0, none⟩) n cap) fs) (k : Nat) : w.frozen? ⟨g, k, none⟩ = false := by
 obtain rfl := h.same
 exact World.ownsRow.frozenAt h k
theorem info_fieldDef : (Tryz.prog.info? 55).map (fun i => (i.zero, i.size, i.bytes)) = some (some (.agg #[.int .i64 0, .string ByteArray.empty, .string ByteArray.empty, .string ByteArray.empty, .pointer none]), 5, 64) := by kernel_rfl
theorem mayP_8 {fs : List Fl} {f : Fl} (h : fs.length = 8) : mayP fs f = false := by unfold mayP; rw [h]; rfl
theorem mayP_not8 {fs : List Fl} {f : Fl} (h : fs.length ≠ 8) : mayP fs f = !clash fs f := by unfold mayP; rw [decide_eq_true h, Bool.true_and]
set_option maxHeartbeats 1000000 in
theorem i_mayFollow (v : Value) (fs : List PF) (f : Fl) (B : Nat) (w : World) (h : PFlds w B v fs) (hl : fs.length ≤ 1000000) :
  Calls Tryz.prog 145 #[v, pfv f] w fun e w' => e = .returned (.bool (mayP (fs.map (·.1)) f)) ∧ Below w.heap.size w w' := by
 obtain ⟨ao, cap, rfl, hc, hf⟩ := h.form
 obtain ⟨m, hm⟩ : ∃ m, fs.length = m := ⟨_, rfl⟩
 have hml : (fs.map (·.1)).length = m := by simpa using hm
 unfold pfv
 by_cases h8 : m = 8
 ·have HF := Lib.hid (mayP_8 (fs := fs.map (·.1)) (f := f) (by rw [hml, h8]))
  rw [hm]
  subst h8
  clear h hf hml hm
  go_enter Tryz.func145, Tryz.ntmps145
  go_wp2_with fail
  go_ret
  exact ⟨ret_b HF.out.symm, by (repeat (first | with_reducible exact Below.refl _ _ | with_reducible apply below_drew | with_reducible apply below_draws | with_reducible apply below_alloc | with_reducible apply below_set | (with_reducible refine below_trans ?_ (by assumption)) | (with_reducible refine Below.trans ?_ (by assumption)) | exact Nat.le_refl _ | omega | (simp <;> omega)))⟩
 ·have HF := Lib.hid (mayP_not8 (fs := fs.map (·.1)) (f := f) (by rw [hml]; exact h8))
  have b8 : ((m : Int) == 8) = false := by simp; omega
  rw [hm] at h hc hl ⊢
  have HM := Lib.hid hm; clear hm
  have HX := Lib.hid hf; clear hf
  have H := Lib.hid h; clear h
  have HML := Lib.hid hml; clear hml h8
  obtain ⟨X, hX⟩ : ∃ X, fs.map (·.1) = X := ⟨_, rfl⟩
  rw [hX] at HF HML ⊢
  have HXX := Lib.hid hX; clear hX
  go_enter Tryz.func145, Tryz.ntmps145
  go_wp2_with fail
  go_loopw [12] (fun i wr => ∃ k : Nat, k ≤ m ∧ i = .int .i64 k ∧ Hid (clash X f = clash (X.drop k) f) ∧ Below w.heap.size w wr ∧ Hid (Blk wr w.heap.size 55 #[.int .i64 f.tag, .string (S f.name), .string (S f.kind), .string (S f.stand), .pointer none])) (fun i _ => m - (intOf i).toNat)
  case atStart => exact ⟨0, by omega, rfl, (rfl : clash X f = clash X f), by (repeat (first | with_reducible exact Below.refl _ _ | with_reducible apply below_drew | with_reducible apply below_draws | with_reducible apply below_alloc | with_reducible apply below_set | (with_reducible refine below_trans ?_ (by assumption)) | (with_reducible refine Below.trans ?_ (by assumption)) | exact Nat.le_refl _ | omega | (simp <;> omega))), Blk.new _ _ _⟩
  case round =>
   obtain ⟨k, hk, rfl, hC, hb, hK⟩ := hrel
   by_cases hkm : k < m
   ·obtain ⟨g, rfl, hg1, hg2⟩ : ∃ g, ao = some ⟨g, 0, none⟩ ∧ B ≤ g ∧ g < w.heap.size := by
     rcases HX.out with ⟨_, h0⟩ | h0
     ·have h1 := HM.out; rw [h0] at h1; simp at h1; omega
     ·exact h0
    have hkf : k < fs.length := by rw [HM.out]; exact hkm
    have hkX : k < X.length := by rw [HML.out]; exact hkm
    obtain ⟨x0, x1, x2, x3, x4⟩ := H.out.cells5 k hkf
    have hXk : X[k] = fs[k].1 := by
     have e1 : (fs.map (·.1))[k]? = X[k]? := by rw [HXX.out]
     rw [List.getElem?_map, List.getElem?_eq_getElem hkf, List.getElem?_eq_getElem hkX] at e1
     injection e1 with e1; exact e1.symm
    have HC1 := Lib.hid (hC.out.trans (clash_in X f k hkX))
    rw [hXk] at HC1
    clear hXk
    obtain ⟨⟨g0, q0⟩, hfk⟩ : ∃ p, fs[k] = p := ⟨_, rfl⟩
    rw [hfk] at x0 x1 x2 x3 x4 HC1
    clear hfk
    simp only at x0 x1 x2 x3 x4 HC1
    unfold clash1 at HC1
    have y0 := (hb.cell (p := ⟨g, k * 5, none⟩) hg2).trans x0
    have y1 := (hb.cell (p := ⟨g, k * 5 + 1, none⟩) hg2).trans x1
    have y2 := (hb.cell (p := ⟨g, k * 5 + 2, none⟩) hg2).trans x2
    have y3 := (hb.cell (p := ⟨g, k * 5 + 3, none⟩) hg2).trans x3
    have y4 := (hb.cell (p := ⟨g, k * 5 + 4, none⟩) hg2).trans x4
    have hgw : g < wr.heap.size := by have := hb.size; omega
    have hww : w.heap.size < wr.heap.size := hK.out.lt
    have t0 := hK.out.cell 0
    have t1 := hK.out.cell 1
    simp at t0 t1
    clear x0 x1 x2 x3 x4
    by_cases hd : f.tag ≤ g0.tag
    ·have HR := Lib.hid (HF.out.trans (by rw [HC1.out, decide_eq_true hd]; rfl : _ = false))
     have hdt : decide (f.tag ≤ g0.tag) = true := decide_eq_true hd
     go_wp2_with fail
     go_ret
     exact ⟨ret_b HR.out.symm, by (repeat (first | with_reducible exact Below.refl _ _ | with_reducible apply below_drew | with_reducible apply below_draws | with_reducible apply below_alloc | with_reducible apply below_set | (with_reducible refine below_trans ?_ (by assumption)) | (with_reducible refine Below.trans ?_ (by assumption)) | exact Nat.le_refl _ | omega | (simp <;> omega)))⟩
    ·have hdt : decide (f.tag ≤ g0.tag) = false := decide_eq_false hd
     cases hnm : (g0.name == f.name) with
     | true =>
      have HR := Lib.hid (HF.out.trans (by rw [HC1.out, hnm, Bool.or_true]; rfl : _ = false))
      have hnm2 : (f.name == g0.name) = true := by rw [Bool.beq_comm]; exact hnm
      clear hnm
      go_wp2_with fail
      go_ret
      exact ⟨ret_b HR.out.symm, by (repeat (first | with_reducible exact Below.refl _ _ | with_reducible apply below_drew | with_reducible apply below_draws | with_reducible apply below_alloc | with_reducible apply below_set | (with_reducible refine below_trans ?_ (by assumption)) | (with_reducible refine Below.trans ?_ (by assumption)) | exact Nat.le_refl _ | omega | (simp <;> omega)))⟩
     | false =>
      have HR := Lib.hid (HC1.out.trans (by rw [hdt, hnm]; rfl : _ = clash (X.drop (k + 1)) f))
      have hnm2 : (f.name == g0.name) = false := by rw [Bool.beq_comm]; exact hnm
      clear hnm
      go_wp2_with fail
      go_roundw
      case rel => exact ⟨k + 1, by omega, by go_num, HR.out, by (repeat (first | with_reducible exact Below.refl _ _ | with_reducible apply below_drew | with_reducible apply below_draws | with_reducible apply below_alloc | with_reducible apply below_set | (with_reducible refine below_trans ?_ (by assumption)) | (with_reducible refine Below.trans ?_ (by assumption)) | exact Nat.le_refl _ | omega | (simp <;> omega))), hK.out.alloc _⟩
      case measure => simp [intOf]; omega
   ·have HR := Lib.hid (HF.out.trans (by rw [hC.out, clash_end X f k (by rw [HML.out]; omega)]; rfl : _ = true))
    go_wp2_with fail
    go_ret
    exact ⟨ret_b HR.out.symm, by (repeat (first | with_reducible exact Below.refl _ _ | with_reducible apply below_drew | with_reducible apply below_draws | with_reducible apply below_alloc | with_reducible apply below_set | (with_reducible refine below_trans ?_ (by assumption)) | (with_reducible refine Below.trans ?_ (by assumption)) | exact Nat.le_refl _ | omega | (simp <;> omega)))⟩
end Go.Proofs.YtcjooeklehggaaaGreatDoor
