/- Lemmas of this seat. -/
import Derived.Test.YtcjooeklehggaaaGreatDoorZAs
import Derived.Test.YtcjooeklehggaaaGreatDoorZBs
set_option linter.unusedVariables false
set_option linter.unusedSimpArgs false
set_option maxRecDepth 100000
namespace Go.Proofs.YtcjooeklehggaaaGreatDoor
open Go.ChangeShapes Go.WideShapes Go.ChangeAt Go.RowKit M
theorem k_l6in (n a b : Int) (w : World) :
  Calls Tryz.prog 122 #[.int .i64 n, .int .i64 a, .int .i64 b] w fun e w' => e = .returned (.bool (decide (a ≤ n) && decide (n ≤ b))) ∧ w = w' := by
 go_enter Tryz.func122, Tryz.ntmps122
 go_wp2
 all_goals
  go_ret
  exact ⟨by congr 2; simp <;> omega, rfl⟩
theorem k_l2Name (l : List UInt8) (w : World) (hs : l.length ≤ 2000000) :
  Calls Tryz.prog 98 #[.string (S l)] w fun e w' => e = .returned (.bool (isName l)) ∧ w = w' := by
 go_enter Tryz.func98, Tryz.ntmps98
 go_wp2
 go_loop [3] (fun i => ∃ k : Nat, k ≤ l.length ∧ i = .int .i64 k ∧ Hid (lowFrom l 0 = lowFrom l k)) (fun i => l.length - (intOf i).toNat)
 case atStart => exact ⟨0, by omega, rfl, rfl⟩
 case round =>
  obtain ⟨k, hk, rfl, hh⟩ := hrel
  by_cases hlt : k < l.length
  ·have hin := lowFrom_in l k hlt
   obtain ⟨a, ha⟩ : ∃ a, at_ l k = a := ⟨_, rfl⟩
   rw [ha] at hin
   have HI := Lib.hid hin; clear hin
   by_cases c1 : a < 97
   ·have hf : isName l = false := by unfold isName; rw [hh.out, HI.out]; simp; omega
    have HF := Lib.hid hf; clear hf
    go_wp2
    go_ret
    exact ⟨ret_b HF.out.symm, rfl⟩
   ·by_cases c2 : 122 < a
    ·have hf : isName l = false := by unfold isName; rw [hh.out, HI.out]; simp; omega
     have HF := Lib.hid hf; clear hf
     go_wp2
     go_ret
     exact ⟨ret_b HF.out.symm, rfl⟩
    ·have hf : lowFrom l k = lowFrom l (k + 1) := by rw [HI.out]; simp; omega
     have HF := Lib.hid hf; clear hf
     go_wp2
     go_round
     case rel => exact ⟨k + 1, by omega, by go_num, hh.out.trans HF.out⟩
     case measure => simp [intOf]; omega
  ·have hf : isName l = (decide (1 ≤ (l.length : Int)) && decide ((l.length : Int) ≤ 3)) := by
    unfold isName; rw [hh.out, lowFrom_end l k (by omega), Bool.and_true]; congr 1 <;> exact decide_eq_decide.2 (by omega)
   have HF := Lib.hid hf; clear hf
   go_wp2_with (go_at_call 122; refine (k_l6in _ _ _ _).mono ?_; rintro e w' ⟨rfl, rfl⟩)
   go_ret
   exact ⟨ret_b HF.out.symm, rfl⟩
theorem k_KindOk (l : List UInt8) (w : World) (hs : l.length ≤ 2000000) :
    Calls Tryz.prog 71 #[.string (S l)] w fun e w' => e = .returned (.bool (kindR l).isSome) ∧ w = w' := by
  induction l generalizing w with
  | nil =>
    go_enter Tryz.func71, Tryz.ntmps71
    go_wp2_with fail
    go_ret
    exact ⟨rfl, rfl⟩
  | cons c r ih =>
    rw [List.length_cons] at hs
    have IH := Lib.hid ih; clear ih
    by_cases hl : 12 < r.length + 1
    · have HF := Lib.hid (kindR_long (c :: r) (by simpa using hl))
      go_enter Tryz.func71, Tryz.ntmps71
      go_wp2_with fail
      go_ret
      exact ⟨ret_b (by rw [HF.out]; rfl), rfl⟩
    · by_cases c1 : c = 91 ∨ c = 63
      · have HF := Lib.hid (kindR_sign c r (by omega) c1)
        have ha : at_ (c :: r) 0 = 91 ∨ at_ (c :: r) 0 = 63 := by rcases c1 with rfl | rfl
                                                                  · exact .inl rfl
                                                                  · exact .inr rfl
        clear c1
        rcases ha with ha | ha
        all_goals
          go_enter Tryz.func71, Tryz.ntmps71
          go_wp2_with (go_at_call 71; refine (IH.out _ (by omega)).mono ?_; rintro e w' ⟨rfl, rfl⟩)
          go_ret
          exact ⟨ret_b (by rw [HF.out, Option.isSome_map]), rfl⟩
      · by_cases c2 : c = 64
        · subst c2
          have ha : at_ (64 :: r) 0 = 64 := rfl
          have HF := Lib.hid (kindR_at r (by omega))
          by_cases hr : r = []
          · subst hr
            go_enter Tryz.func71, Tryz.ntmps71
            go_wp2_with fail
            go_ret
            exact ⟨ret_b (by rw [HF.out]; rfl), rfl⟩
          · have hlen : 1 ≤ r.length := by cases r with | nil => exact absurd rfl hr | cons _ _ => simp
            have hla := last_at 64 r hr
            have htp := take_pred r
            obtain ⟨b, hb⟩ : ∃ b, at_ (64 :: r) r.length = b := ⟨_, rfl⟩
            rw [hb] at hla
            have HLA := Lib.hid hla; clear hla hr c1
            by_cases h59 : b = 59
            · have hlast := Lib.hid (HLA.out.1 h59)
              subst h59
              go_enter Tryz.func71, Tryz.ntmps71
              go_wp2_with (go_at_call 98; refine (k_l2Name _ _ (by simp; omega)).mono ?_; rintro e w' ⟨rfl, rfl⟩)
              go_ret
              exact ⟨ret_b (by rw [HF.out]; rw [hlast.out]; by_cases hn : isName r.dropLast = true <;> simp [hn]), rfl⟩
            · have hb' : (b == 59) = false := by simp [h59]
              have H59 := Lib.hid h59; clear h59
              go_enter Tryz.func71, Tryz.ntmps71
              go_wp2_with fail
              go_ret
              exact ⟨ret_b (by rw [HF.out, if_neg (fun h => H59.out (HLA.out.2 h.1))]; rfl), rfl⟩
        · have HF := Lib.hid (kindR_else c r (by omega) (fun h => c1 (.inl h)) (fun h => c1 (.inr h)) c2)
          have a1 : (at_ (c :: r) 0 == 91) = false := by
            rw [at_cons, beq_eq_false_iff_ne]; intro h; exact c1 (.inl (UInt8.toNat_inj.1 (by show _ = 91; omega)))
          have a2 : (at_ (c :: r) 0 == 63) = false := by
            rw [at_cons, beq_eq_false_iff_ne]; intro h; exact c1 (.inr (UInt8.toNat_inj.1 (by show _ = 63; omega)))
          have a3 : (at_ (c :: r) 0 == 64) = false := by
            rw [at_cons, beq_eq_false_iff_ne]; intro h; exact c2 (UInt8.toNat_inj.1 (by show _ = 64; omega))
          clear c1 c2
          cases r with
          | cons x y =>
            rw [List.length_cons] at hs hl
            go_enter Tryz.func71, Tryz.ntmps71
            go_wp2_with fail
            go_ret
            exact ⟨ret_b (by rw [HF.out]; rfl), rfl⟩
          | nil =>
            by_cases h1 : c = 110
            · subst h1
              go_enter Tryz.func71, Tryz.ntmps71
              go_wp2_with fail
              go_ret
              exact ⟨ret_b (by rw [HF.out]; rfl), rfl⟩
            · by_cases h2 : c = 116
              · subst h2
                go_enter Tryz.func71, Tryz.ntmps71
                go_wp2_with fail
                go_ret
                exact ⟨ret_b (by rw [HF.out]; rfl), rfl⟩
              · have b1 : (c == 110) = false := by simp [h1]
                have b2 : (c == 116) = false := by simp [h2]
                have H12 := Lib.hid (And.intro h1 h2); clear h1 h2
                go_enter Tryz.func71, Tryz.ntmps71
                go_wp2_with fail
                go_ret
                exact ⟨ret_b (by rw [HF.out]; have := H12.out; by_cases h3 : c = 102 <;> simp [h3, this]), rfl⟩
theorem k_l2Core (l : List UInt8) (d : Nat) (w : World) (hl : l.length ≤ 12) (hd : d < l.length) (h1 : ∀ k, k < d → at_ l k = 91 ∨ at_ l k = 63) (h2 : (at_ l d == 91) = false) (h3 : (at_ l d == 63) = false) :
  Calls Tryz.prog 73 #[.string (S l)] w fun e w' => e = .returned (.string (S (l.drop d))) ∧ w = w' := by
 have H1 := Lib.hid h1; clear h1
 go_enter Tryz.func73, Tryz.ntmps73
 go_wp2_with fail
 go_loop [0] (fun s => ∃ k : Nat, k ≤ d ∧ s = .string (S (l.drop k))) (fun s => match s with | .string s => s.size | _ => 0)
 case atStart => exact ⟨0, by omega, rfl⟩
 case round =>
  obtain ⟨k, hk, rfl⟩ := hrel
  by_cases hlt : k < d
  ·have hc := H1.out k hlt
   have ha := at_drop l k 0
   rw [Nat.add_zero] at ha
   rw [← ha] at hc
   clear ha
   rcases hc with hc | hc
   all_goals
    go_wp2_with fail
    go_round
    case rel => exact ⟨k + 1, by omega, rfl⟩
    case measure => simp [S_size]; omega
  ·obtain rfl : k = d := by omega
   have ha := at_drop l k 0
   rw [Nat.add_zero] at ha
   rw [← ha] at h2 h3
   clear ha
   go_wp2_with fail
   go_ret
   exact ⟨rfl, rfl⟩
theorem k_l2Ref_yes (n : List UInt8) (w : World) (hs : n.length ≤ 20) :
  Calls Tryz.prog 72 #[.string (S (64 :: (n ++ [59])))] w fun e w' => e = .returned (.tuple #[.string (S n), .bool true]) ∧ w = w' := by
 have ha : at_ (64 :: (n ++ [59])) 0 = 64 := rfl
 obtain ⟨c, hc⟩ : ∃ c, 64 :: (n ++ [59]) = c := ⟨_, rfl⟩
 have hl : c.length = n.length + 2 := by rw [← hc]; simp
 have he : ∀ k, k = n.length → (c.drop 1).take k = n := by rintro k rfl; rw [← hc]; simp
 rw [hc] at ha ⊢
 clear hc
 have HE := Lib.hid he; clear he
 go_enter Tryz.func72, Tryz.ntmps72
 go_wp2_with fail
 go_ret2
 exact ⟨ret_sb (by rw [← List.drop_one, HE.out _ (by omega)]) rfl, rfl⟩
theorem k_l2Ref_no (c : List UInt8) (w : World) (h : (at_ c 0 != 64) = true) (hl : 0 < c.length) (hs : c.length ≤ 2000000) :
  Calls Tryz.prog 72 #[.string (S c)] w fun e w' => e = .returned (.tuple #[.string (S []), .bool false]) ∧ w = w' := by
 go_enter Tryz.func72, Tryz.ntmps72
 go_wp2_with fail
 go_ret2
 exact ⟨rfl, rfl⟩
def RetL (w : World) (L : List (List UInt8)) (e : Ending) (w' : World) : Prop := ∃ v, e = .returned v ∧ Strs w' w.heap.size v L ∧ Below w.heap.size w w'
def RetNum (w : World) (o : Option Int) (e : Ending) (w' : World) : Prop := ∃ v : Int, e = .returned (.tuple #[.int .i64 v, .bool o.isSome]) ∧ (∀ x, o = some x → v = x) ∧ Below w.heap.size w w'
theorem RetNum.no {w : World} {o : Option Int} {v : Int} (h : o = none) : RetNum w o (.returned (.tuple #[.int .i64 v, .bool false])) w := ⟨v, by rw [h]; rfl, (by rw [h]; intro x hx; cases hx), Below.refl _ _⟩
theorem k_l3Cut (l : List UInt8) (c : Int) (w : World) (hs : l.length ≤ 2000000) (c0 : 0 ≤ c) (c1 : c < 256) :
  Calls Tryz.prog 93 #[.string (S l), .int .u8 c] w (RetL w (cutL c l)) := by
 go_enter Tryz.func93, Tryz.ntmps93
 go_wp2_with fail
 go_loopw [5, 6, 7] (fun o f i wr => ∃ (L : List Bs) (a k : Nat), k ≤ l.length ∧ a ≤ k ∧ L.length ≤ k ∧ f = .int .i64 a ∧ i = .int .i64 k ∧ Hid (cutL c l = L ++ pre ((l.drop a).take (k - a)) (cutL c (l.drop k))) ∧ Hid (Strs wr w.heap.size o L) ∧ Below w.heap.size w wr) (fun _ _ i _ => l.length - (intOf i).toNat)
 case atStart => exact ⟨[], 0, 0, by omega, by omega, by simp, rfl, rfl, (show cutL c l = [] ++ pre [] (cutL c l) by rw [pre_nil _ (cutL_ne c l), List.nil_append]), Strs_none w, by (repeat (first | exact Below.refl _ _ | apply below_drew | apply below_draws | apply below_alloc | (refine below_trans ?_ (by assumption)) | (refine Below.trans ?_ (by assumption))))⟩
 case round =>
  obtain ⟨L, a, k, hk, ha, hL, rfl, rfl, hC, hS, hb⟩ := hrel
  have hsz := hb.size
  have hle : a ≤ l.length := by omega
  by_cases hlt : k < l.length
  ·obtain ⟨x, hx⟩ : ∃ x, at_ l k = x := ⟨_, rfl⟩
   by_cases hc : x = c
   ·have HY := Lib.hid (hC.out.trans (by rw [cutL_yes c l k hlt (hx.trans hc), Nat.sub_self, List.take_zero, pre_nil _ (cutL_ne _ _)]; simp only [pre, List.append_nil, List.append_assoc, List.cons_append, List.nil_append] : _ = (L ++ [(l.drop a).take (k - a)]) ++ pre ((l.drop (k + 1)).take ((k + 1) - (k + 1))) (cutL c (l.drop (k + 1)))))
    subst hc
    go_wp2_with (first | (at_builtin; refine app_str rfl _ _ rfl _ _ L rfl (hS.out.below (by (repeat (first | exact Below.refl _ _ | apply below_drew | apply below_draws | apply below_alloc | (refine below_trans ?_ (by assumption)) | (refine Below.trans ?_ (by assumption)))))) ⟨wr.heap.size, 0, none⟩ ((l.drop a).take (k - a)) rfl ?c1 (by omega) ?c2 ?_))
    case c1 => simp [go_sem]
    case c2 => simp; omega
    intro v' w' hS' hb' _
    have HS' := Lib.hid hS'; clear hS'
    go_wp2
    go_roundw
    case rel => exact ⟨_, k + 1, k + 1, by omega, by omega, by simp; omega, by go_num, by go_num, HY.out, HS'.out, Below.trans (by (repeat (first | exact Below.refl _ _ | apply below_drew | apply below_draws | apply below_alloc | (refine below_trans ?_ (by assumption)) | (refine Below.trans ?_ (by assumption))))) hb'⟩
    case measure => simp [intOf]; omega
   ·have HY := Lib.hid (hC.out.trans (by rw [cutL_no c l k hlt (fun h => hc (hx.symm.trans h)), pre_pre _ _ _ (cutL_ne _ _), piece_snoc l a k hlt ha] : _ = L ++ pre ((l.drop a).take (k + 1 - a)) (cutL c (l.drop (k + 1)))))
    have hcb : (x == c) = false := by simp [hc]
    go_wp2_with fail
    go_roundw
    case rel => exact ⟨L, a, k + 1, by omega, by omega, by omega, rfl, by go_num, HY.out, hS.out, hb⟩
    case measure => simp [intOf]; omega
  ·obtain rfl : k = l.length := by omega
   have HY := Lib.hid (hC.out.trans (by rw [List.drop_of_length_le (Nat.le_refl _), List.take_of_length_le (by simp)]; simp [cutL, pre] : _ = L ++ [l.drop a]))
   go_wp2_with (first | (at_builtin; refine app_str rfl _ _ rfl _ _ L rfl (hS.out.below (by (repeat (first | exact Below.refl _ _ | apply below_drew | apply below_draws | apply below_alloc | (refine below_trans ?_ (by assumption)) | (refine Below.trans ?_ (by assumption)))))) ⟨wr.heap.size, 0, none⟩ (l.drop a) rfl ?c1 (by omega) ?c2 ?_))
   case c1 => simp [go_sem]
   case c2 => simp; omega
   intro v' w' hS' hb' _
   have HS' := Lib.hid hS'; clear hS'
   go_wp2
   go_ret
   exact ⟨v', rfl, by rw [HY.out]; exact HS'.out, Below.trans (by (repeat (first | exact Below.refl _ _ | apply below_drew | apply below_draws | apply below_alloc | (refine below_trans ?_ (by assumption)) | (refine Below.trans ?_ (by assumption))))) hb'⟩
theorem k_l6Dec (m : Nat) : ∀ (n : Int) (w : World), n.toNat ≤ m → 0 ≤ n → n ≤ 100000000 →
  Calls Tryz.prog 76 #[.int .i64 n] w fun e w' => e = .returned (.string (S (dec n))) ∧ Below w.heap.size w w' := by
 induction m with
 | zero =>
  intro n w hm h0 h1
  obtain rfl : n = 0 := by omega
  have hc := conv1
  have hc1 := cellIs_some
  have hc2 := cellB_some
  go_enter Tryz.func76, Tryz.ntmps76
  go_wp2_with fail
  go_ret
  exact ⟨ret_s (by rw [dec_lo 0 (by omega) (by omega)]; rfl), by (repeat (first | exact Below.refl _ _ | apply below_drew | apply below_draws | apply below_alloc | (refine below_trans ?_ (by assumption)) | (refine Below.trans ?_ (by assumption))))⟩
 | succ m ih =>
  intro n w hm h0 h1
  have hc := conv1
  have hc1 := cellIs_some
  have hc2 := cellB_some
  by_cases hlt : n < 10
  ·have HD := Lib.hid (dec_lo n h0 hlt)
   have a2 : IntKind.i64.wrap (48 + n) = 48 + n := IntWalk.i64_in _ (by omega)
   have a3 : IntKind.u8.wrap (48 + n) = 48 + n := IntWalk.u8_in _ (by omega)
   clear ih
   go_enter Tryz.func76, Tryz.ntmps76
   go_wp2_with fail
   go_ret
   exact ⟨ret_s (by rw [HD.out]), by (repeat (first | exact Below.refl _ _ | apply below_drew | apply below_draws | apply below_alloc | (refine below_trans ?_ (by assumption)) | (refine Below.trans ?_ (by assumption))))⟩
  ·have HD := Lib.hid (dec_hi n (by omega))
   have hdl := dec_len (n / 10)
   have IH := Lib.hid (fun w => ih (n / 10) w (by omega) (by omega) (by omega)); clear ih
   obtain ⟨q, hq⟩ : ∃ q, dec (n / 10) = q := ⟨_, rfl⟩
   rw [hq] at IH HD hdl
   clear hq
   have a1 : n.tmod 10 = n % 10 := IntWalk.rem_in _ _ (by omega)
   have a4 : n.tdiv 10 = n / 10 := Int.tdiv_eq_ediv_of_nonneg (by omega)
   have a2 : IntKind.i64.wrap (48 + n % 10) = 48 + n % 10 := IntWalk.i64_in _ (by omega)
   have a3 : IntKind.u8.wrap (48 + n % 10) = 48 + n % 10 := IntWalk.u8_in _ (by omega)
   have hcat := cat_run q [B8 (48 + n % 10)] (by simp; omega)
   have a5 : IntKind.i64.wrap (n / 10) = n / 10 := IntWalk.i64_in _ (by omega)
   go_enter Tryz.func76, Tryz.ntmps76
   go_wp2_with fail
   go_region_with (go_at_call 76; refine (IH.out _).mono ?_; rintro e w' ⟨rfl, hb⟩; obtain ⟨hce, hfr⟩ := bcell hb)
   all_goals
    go_wp2
    go_ret
    exact ⟨ret_s (by rw [HD.out]), by (repeat (first | exact Below.refl _ _ | apply below_drew | apply below_draws | apply below_alloc | (refine below_trans ?_ (by assumption)) | (refine Below.trans ?_ (by assumption))))⟩
theorem k_l3Num (l : List UInt8) (top : Int) (w : World) (hs : l.length ≤ 2000000) (t0 : 0 ≤ top) (t1 : top ≤ 999999) :
  Calls Tryz.prog 112 #[.string (S l), .int .i64 top] w (RetNum w (numL l top)) := by
 go_enter Tryz.func112, Tryz.ntmps112
 go_wp2_with fail
 go_loop [6, 7] (fun n i => ∃ k : Nat, k ≤ l.length ∧ k ≤ 6 ∧ i = .int .i64 k ∧ n = .int .i64 (valN l k) ∧ Hid (digsTo l k)) (fun _ i => l.length - (intOf i).toNat)
 case atStart => exact ⟨0, by omega, by omega, rfl, rfl, fun j hj => by omega⟩
 case round =>
  obtain ⟨k, hk, hk6, rfl, rfl, hd⟩ := hrel
  obtain ⟨v0, v1⟩ := valN_bd l k hd.out hk6
  have hp : (10 : Int) ^ k ≤ 1000000 := by
   obtain rfl | rfl | rfl | rfl | rfl | rfl | rfl : k = 0 ∨ k = 1 ∨ k = 2 ∨ k = 3 ∨ k = 4 ∨ k = 5 ∨ k = 6 := by omega
   all_goals decide
  have v2 : valN l k < 1000000 := by omega
  clear v1 hp
  obtain ⟨n, hn⟩ : ∃ n, valN l k = n := ⟨_, rfl⟩
  rw [hn] at v0 v2 ⊢
  have HN := Lib.hid hn; clear hn
  by_cases hlt : k < l.length
  ·obtain ⟨a, ha⟩ : ∃ a, at_ l k = a := ⟨_, rfl⟩
   have HA := Lib.hid ha
   have no : ∀ (h : ¬ (k < 6 ∧ 48 ≤ a ∧ a ≤ 57)), numL l top = none := by
    intro h; unfold numL; rw [if_neg]; rintro ⟨h1, h2, -⟩; have := h2 k hlt; omega
   have NO := Lib.hid no; clear no
   by_cases c1 : a < 48
   ·have HF := Lib.hid (NO.out (by omega))
    go_wp2_with fail
    go_ret2
    exact RetNum.no HF.out
   ·by_cases c2 : 57 < a
    ·have HF := Lib.hid (NO.out (by omega))
     go_wp2_with fail
     go_ret2
     exact RetNum.no HF.out
    ·by_cases c3 : 5 < k
     ·have HF := Lib.hid (NO.out (by omega))
      go_wp2_with fail
      go_ret2
      exact RetNum.no HF.out
     ·have HV := Lib.hid (show valN l (k + 1) = 10 * n + (a - 48) by rw [valN, HA.out, HN.out])
      have HD := Lib.hid (show digsTo l (k + 1) from fun j hj => by
       by_cases e : j = k
       ·subst e; rw [HA.out]; omega
       ·exact hd.out j (by omega))
      go_wp2_with fail
      go_round
      case rel => exact ⟨k + 1, by omega, by omega, by go_num, by rw [HV.out], HD.out⟩
      case measure => simp [intOf]; omega
  ·obtain rfl : k = l.length := by omega
   have hall : l.length ≤ 6 ∧ (∀ j, j < l.length → 48 ≤ at_ l j ∧ at_ l j ≤ 57) := ⟨hk6, hd.out⟩
   have HALL := Lib.hid hall; clear hall
   have HC := Lib.hid (fun w => k_l6Dec 1000000 n w (by omega) v0 (by omega))
   obtain ⟨q, hq⟩ : ∃ q, dec n = q := ⟨_, rfl⟩
   rw [hq] at HC
   have HQ := Lib.hid hq; clear hq
   by_cases he : l = q
   ·have hb : (l == q) = true := by simp [he]
    by_cases ht : n ≤ top
    ·have HF := Lib.hid (show numL l top = some n by unfold numL; rw [HN.out, HQ.out, if_pos ⟨HALL.out.1, HALL.out.2, he, ht⟩])
     clear he
     go_wp2_with (go_at_call 76; refine (HC.out _).mono ?_; rintro e w' ⟨rfl, hb⟩)
     go_ret2
     exact ⟨n, by rw [HF.out]; rfl, (by rw [HF.out]; intro x hx; injection hx), by (repeat (first | exact Below.refl _ _ | apply below_drew | apply below_draws | apply below_alloc | (refine below_trans ?_ (by assumption)) | (refine Below.trans ?_ (by assumption))))⟩
    ·have HF := Lib.hid (show numL l top = none by unfold numL; rw [HN.out, if_neg (fun h => ht h.2.2.2)])
     clear he
     go_wp2_with (go_at_call 76; refine (HC.out _).mono ?_; rintro e w' ⟨rfl, hb⟩)
     go_ret2
     exact ⟨n, ret_ib rfl (by rw [HF.out]; simp; omega), (by rw [HF.out]; intro x hx; cases hx), by (repeat (first | exact Below.refl _ _ | apply below_drew | apply below_draws | apply below_alloc | (refine below_trans ?_ (by assumption)) | (refine Below.trans ?_ (by assumption))))⟩
   ·have hb : (l == q) = false := by simp [he]
    have HF := Lib.hid (show numL l top = none by unfold numL; rw [HN.out, HQ.out, if_neg (fun h => he h.2.2.1)])
    clear he
    go_wp2_with (go_at_call 76; refine (HC.out _).mono ?_; rintro e w' ⟨rfl, hb⟩)
    go_ret2
    exact ⟨n, by rw [HF.out]; rfl, (by rw [HF.out]; intro x hx; cases hx), by (repeat (first | exact Below.refl _ _ | apply below_drew | apply below_draws | apply below_alloc | (refine below_trans ?_ (by assumption)) | (refine Below.trans ?_ (by assumption))))⟩
theorem textFrom_in (l : Bs) (f k : Nat) (h : 0 < f) : textFrom l f k = (plainC (at_ l k) && textFrom l (f - 1) (k + 1)) := by
 cases f with | zero => omega | succ f => rfl
theorem k_l3Text (l : List UInt8) (w : World) (hs : l.length ≤ 2000000) :
  Calls Tryz.prog 113 #[.string (S l)] w fun e w' => e = .returned (.bool (textL l)) ∧ w = w' := by
 by_cases h1 : l.length < 2
 ·have HF := Lib.hid (show textL l = false by unfold textL; rw [decide_eq_false (by omega)]; rfl)
  go_enter Tryz.func113, Tryz.ntmps113
  go_wp2_with fail
  go_ret
  exact ⟨ret_b HF.out.symm, rfl⟩
 ·by_cases h2 : 14 < l.length
  ·have HF := Lib.hid (show textL l = false by unfold textL; rw [decide_eq_false (by omega : ¬ l.length ≤ 14)]; simp)
   go_enter Tryz.func113, Tryz.ntmps113
   go_wp2_with fail
   go_ret
   exact ⟨ret_b HF.out.symm, rfl⟩
  ·have hT : textL l = ((at_ l 0 == 39) && (at_ l (l.length - 1) == 39) && textFrom l (l.length - 2) 1) := by
    unfold textL; rw [decide_eq_true (by omega : 2 ≤ l.length), decide_eq_true (by omega : l.length ≤ 14)]; rfl
   have e1 : ((l.length : Int) - 1).toNat = l.length - 1 := by omega
   obtain ⟨a, ha⟩ : ∃ a, at_ l 0 = a := ⟨_, rfl⟩
   obtain ⟨b, hb⟩ : ∃ b, at_ l (l.length - 1) = b := ⟨_, rfl⟩
   rw [ha, hb] at hT
   have HT := Lib.hid hT; clear hT
   by_cases c1 : a = 39
   ·by_cases c2 : b = 39
    ·have b1 : (a != 39) = false := by simp [c1]
     have b2 : (b != 39) = false := by simp [c2]
     have HT2 := Lib.hid (HT.out.trans (show _ = textFrom l (l.length - 2) 1 by simp [c1, c2]))
     clear c1 c2
     go_enter Tryz.func113, Tryz.ntmps113
     go_wp2_with fail
     go_loop [3, 4] (fun i _ => ∃ k : Nat, 1 ≤ k ∧ k ≤ l.length - 1 ∧ i = .int .i64 k ∧ Hid (textFrom l (l.length - 2) 1 = textFrom l (l.length - 1 - k) k)) (fun i _ => l.length - (intOf i).toNat)
     case atStart => exact ⟨1, by omega, by omega, rfl, (show textFrom l (l.length - 2) 1 = textFrom l (l.length - 1 - 1) 1 by rfl)⟩
     case round =>
      obtain ⟨k, k1, hk, rfl, hh⟩ := hrel
      by_cases hlt : k < l.length - 1
      ·have hkl : k < l.length := by omega
       have hin := textFrom_in l (l.length - 1 - k) k (by omega)
       obtain ⟨c, hc⟩ : ∃ c, at_ l k = c := ⟨_, rfl⟩
       rw [hc] at hin
       have HI := Lib.hid (hh.out.trans hin); clear hin
       by_cases hp : c = 32 ∨ (48 ≤ c ∧ c ≤ 57) ∨ (97 ≤ c ∧ c ≤ 122)
       ·have HN := Lib.hid (HI.out.trans (show _ = textFrom l (l.length - 1 - (k + 1)) (k + 1) by rw [show plainC c = true by unfold plainC; simp; omega, Bool.true_and, Nat.sub_sub]))
        by_cases hp1 : c = 32
        ·have q1 : (c != 32) = false := by simp [hp1]
         clear hp hp1
         go_wp2_with fail
         go_round
         case rel => exact ⟨k + 1, by omega, by omega, by go_num, HN.out⟩
         case measure => simp [intOf]; omega
        ·have q1 : (c != 32) = true := by simp [hp1]
         have hp2 : (48 ≤ c ∧ c ≤ 57) ∨ (97 ≤ c ∧ c ≤ 122) := by omega
         clear hp hp1
         rcases hp2 with ⟨q2, q3⟩ | ⟨q2, q3⟩
         ·go_wp2_with fail
          go_round
          case rel => exact ⟨k + 1, by omega, by omega, by go_num, HN.out⟩
          case measure => simp [intOf]; omega
         ·have q4 : ¬ c < 48 := by omega
          go_wp2_with fail
          go_round
          case rel => exact ⟨k + 1, by omega, by omega, by go_num, HN.out⟩
          case measure => simp [intOf]; omega
       ·have HN := Lib.hid (HT2.out.trans (HI.out.trans (show _ = false by rw [show plainC c = false by unfold plainC; simp; omega, Bool.false_and])))
        have q1 : (c != 32) = true := by simp; omega
        have hcs : c < 48 ∨ (57 < c ∧ c < 97) ∨ 122 < c := by omega
        clear hp
        rcases hcs with q2 | ⟨q2, q3⟩ | q2
        all_goals
         go_wp2_with fail
         go_ret
         exact ⟨ret_b HN.out.symm, rfl⟩
      ·have HN := Lib.hid (HT2.out.trans (hh.out.trans (by rw [show l.length - 1 - k = 0 by omega, textFrom])))
       go_wp2_with fail
       go_ret
       exact ⟨ret_b HN.out.symm, rfl⟩
    ·have b1 : (a != 39) = false := by simp [c1]
     have b2 : (b != 39) = true := by simp [c2]
     have HT2 := Lib.hid (HT.out.trans (show _ = false by simp [c2]))
     clear c1 c2
     go_enter Tryz.func113, Tryz.ntmps113
     go_wp2_with fail
     go_ret
     exact ⟨ret_b HT2.out.symm, rfl⟩
   ·have b1 : (a != 39) = true := by simp [c1]
    have HT2 := Lib.hid (HT.out.trans (show _ = false by simp [c1]))
    clear c1
    go_enter Tryz.func113, Tryz.ntmps113
    go_wp2_with fail
    go_ret
    exact ⟨ret_b HT2.out.symm, rfl⟩
theorem k_l3Plain (l : List UInt8) (w : World) :
  Calls Tryz.prog 75 #[.string (S l)] w fun e w' => e = .returned (.string (S (plainV l))) ∧ w = w' := by
 by_cases h1 : l = [110]
 ·subst h1
  go_enter Tryz.func75, Tryz.ntmps75
  go_wp2_with fail
  go_ret
  exact ⟨rfl, rfl⟩
 ·by_cases h2 : l = [116]
  ·subst h2
   go_enter Tryz.func75, Tryz.ntmps75
   go_wp2_with fail
   go_ret
   exact ⟨rfl, rfl⟩
  ·by_cases h3 : l = [102]
   ·subst h3
    go_enter Tryz.func75, Tryz.ntmps75
    go_wp2_with fail
    go_ret
    exact ⟨rfl, rfl⟩
   ·have b1 : (l == [110]) = false := by simp [h1]
    have b2 : (l == [116]) = false := by simp [h2]
    have b3 : (l == [102]) = false := by simp [h3]
    have HF := Lib.hid (show plainV l = [] by unfold plainV; rw [if_neg h1, if_neg h2, if_neg h3])
    clear h1 h2 h3
    go_enter Tryz.func75, Tryz.ntmps75
    go_wp2_with fail
    go_ret
    exact ⟨ret_s (by rw [HF.out]; rfl), rfl⟩
theorem k_l3Stand (k l : List UInt8) (w : World) (hs : l.length ≤ 2000000) :
  Calls Tryz.prog 147 #[.string (S k), .string (S l)] w fun e w' => e = .returned (.bool (standB k l)) ∧ Below w.heap.size w w' := by
 by_cases h1 : k = [110]
 ·subst h1
  cases hn : (numL l 999999).isSome with
  | true =>
   have HF := Lib.hid (show standB [110] l = (l != [48]) by unfold standB; rw [if_pos rfl, hn]; rfl)
   have HN := Lib.hid hn; clear hn
   go_enter Tryz.func147, Tryz.ntmps147
   go_wp2_with fail
   refine (k_l3Num l 999999 _ hs (by omega) (by omega)).mono ?_
   rintro e w1 ⟨v, rfl, -, hb⟩
   rw [HN.out]
   go_wp2_with fail
   go_ret
   exact ⟨ret_b HF.out.symm, by (repeat (first | exact Below.refl _ _ | apply below_drew | apply below_draws | apply below_alloc | (refine below_trans ?_ (by assumption)) | (refine Below.trans ?_ (by assumption))))⟩
  | false =>
   have HF := Lib.hid (show standB [110] l = false by unfold standB; rw [if_pos rfl, hn]; rfl)
   have HN := Lib.hid hn; clear hn
   go_enter Tryz.func147, Tryz.ntmps147
   go_wp2_with fail
   refine (k_l3Num l 999999 _ hs (by omega) (by omega)).mono ?_
   rintro e w1 ⟨v, rfl, -, hb⟩
   rw [HN.out]
   go_wp2_with fail
   go_ret
   exact ⟨ret_b HF.out.symm, by (repeat (first | exact Below.refl _ _ | apply below_drew | apply below_draws | apply below_alloc | (refine below_trans ?_ (by assumption)) | (refine Below.trans ?_ (by assumption))))⟩
 ·by_cases h2 : k = [116]
  ·subst h2
   cases hn : textL l with
   | true =>
    have HF := Lib.hid (show standB [116] l = (l != [39, 39]) by unfold standB; rw [if_neg (by decide), if_pos rfl, hn]; rfl)
    have HN := Lib.hid hn; clear hn
    go_enter Tryz.func147, Tryz.ntmps147
    go_wp2_with (go_at_call 113; refine (k_l3Text l _ hs).mono ?_; rw [HN.out]; rintro e w' ⟨rfl, rfl⟩)
    go_ret
    exact ⟨ret_b HF.out.symm, by (repeat (first | exact Below.refl _ _ | apply below_drew | apply below_draws | apply below_alloc | (refine below_trans ?_ (by assumption)) | (refine Below.trans ?_ (by assumption))))⟩
   | false =>
    have HF := Lib.hid (show standB [116] l = false by unfold standB; rw [if_neg (by decide), if_pos rfl, hn]; rfl)
    have HN := Lib.hid hn; clear hn
    go_enter Tryz.func147, Tryz.ntmps147
    go_wp2_with (go_at_call 113; refine (k_l3Text l _ hs).mono ?_; rw [HN.out]; rintro e w' ⟨rfl, rfl⟩)
    go_ret
    exact ⟨ret_b HF.out.symm, by (repeat (first | exact Below.refl _ _ | apply below_drew | apply below_draws | apply below_alloc | (refine below_trans ?_ (by assumption)) | (refine Below.trans ?_ (by assumption))))⟩
  ·by_cases h3 : k = [102]
   ·subst h3
    go_enter Tryz.func147, Tryz.ntmps147
    go_wp2_with fail
    go_ret
    exact ⟨rfl, by (repeat (first | exact Below.refl _ _ | apply below_drew | apply below_draws | apply below_alloc | (refine below_trans ?_ (by assumption)) | (refine Below.trans ?_ (by assumption))))⟩
   ·have b1 : (k == [110]) = false := by simp [h1]
    have b2 : (k == [116]) = false := by simp [h2]
    have b3 : (k == [102]) = false := by simp [h3]
    have HF := Lib.hid (show standB k l = false by unfold standB; rw [if_neg h1, if_neg h2, if_neg h3])
    clear h1 h2 h3
    go_enter Tryz.func147, Tryz.ntmps147
    go_wp2_with fail
    go_ret
    exact ⟨ret_b HF.out.symm, by (repeat (first | exact Below.refl _ _ | apply below_drew | apply below_draws | apply below_alloc | (refine below_trans ?_ (by assumption)) | (refine Below.trans ?_ (by assumption))))⟩
theorem RetT.no {w w' : World} {B : Nat} {o : Option Ty} (t : Ty) (v : Value) (h : o = none) (hf : Flds w' B v t.fields) (hb : Below w.heap.size w w') : RetT w B o (.returned (.tuple #[tv t v, .bool false])) w' := ⟨t, v, by rw [h]; rfl, (by rw [h]; intro x hx; cases hx), hf, hb⟩
theorem RetT.yes {w w' : World} {B : Nat} {o : Option Ty} (t : Ty) (v : Value) (h : o = some t) (hf : Flds w' B v t.fields) (hb : Below w.heap.size w w') : RetT w B o (.returned (.tuple #[tv t v, .bool true])) w' := ⟨t, v, by rw [h]; rfl, (by rw [h]; intro x hx; injection hx), hf, hb⟩
theorem k_find (v : Value) (ps : List (Ty × Value)) (B : Nat) (n : Bs) (w : World) (h : Tys w B v ps) (hl : ps.length ≤ 1000000) (hB : B ≤ w.heap.size) :
  Calls Tryz.prog 67 #[v, .string (S n)] w (RetT w B (find (ps.map (·.1)) n)) := by
 obtain ⟨ao, cap, rfl, hc, hf⟩ := h.form
 obtain ⟨m, hm⟩ : ∃ m, ps.length = m := ⟨_, rfl⟩
 obtain ⟨o, ho⟩ : ∃ o, find (ps.map (·.1)) n = o := ⟨_, rfl⟩
 rw [ho]
 rw [hm] at hc hl h ⊢
 have HO := Lib.hid ho; clear ho
 have H := Lib.hid h; clear h
 have HM := Lib.hid hm; clear hm
 have HF := Lib.hid hf; clear hf
 go_enter Tryz.func67, Tryz.ntmps67
 go_wp2_with fail
 go_loop [6] (fun i => ∃ k : Nat, k ≤ m ∧ i = .int .i64 k ∧ Hid (o = find ((ps.map (·.1)).drop k) n)) (fun i => m - (intOf i).toNat)
 case atStart => exact ⟨0, by omega, rfl, HO.out.symm⟩
 case round =>
  obtain ⟨k, hk, rfl, hh⟩ := hrel
  by_cases hlt : k < m
  ·obtain ⟨g, rfl, hg1, hg2⟩ : ∃ g, ao = some ⟨g, 0, none⟩ ∧ B ≤ g ∧ g < w.heap.size := by
    rcases HF.out with ⟨_, h0⟩ | h0
    ·have h1 := HM.out; rw [h0] at h1; simp at h1; omega
    ·exact h0
   have hkl : k < ps.length := by rw [HM.out]; exact hlt
   obtain ⟨t, a, c, he, hF, c0, c1, c2⟩ := H.out.cells3 k hkl
   have hX : k < (ps.map (·.1)).length := by simpa using hkl
   have hXk : (ps.map (·.1))[k] = t := by rw [List.getElem_map, he]
   have HFF := Lib.hid hF; clear hF
   cases hnm : (t.name == n) with
   | true =>
    have HR := Lib.hid (hh.out.trans (find_yes _ n k hX (by rw [hXk]; exact hnm)))
    rw [hXk] at HR
    clear he hXk
    go_wp2_with fail
    refine bodyPost_ret (v := .tuple #[tv t (.slice a t.fields.length c), .bool true]) ?_ rfl ?_
    ·simp [results, Tryz.results67, go_sem, tv]
    ·exact RetT.yes t _ HR.out (HFF.out.below (by (repeat (first | with_reducible exact Below.refl _ _ | with_reducible apply below_drew | with_reducible apply below_draws | with_reducible apply below_alloc | with_reducible apply below_set | (with_reducible refine below_trans ?_ (by assumption)) | (with_reducible refine Below.trans ?_ (by assumption)) | exact Nat.le_refl _ | omega | (simp <;> omega))))) (by (repeat (first | with_reducible exact Below.refl _ _ | with_reducible apply below_drew | with_reducible apply below_draws | with_reducible apply below_alloc | with_reducible apply below_set | (with_reducible refine below_trans ?_ (by assumption)) | (with_reducible refine Below.trans ?_ (by assumption)) | exact Nat.le_refl _ | omega | (simp <;> omega))))
   | false =>
    have HR := Lib.hid (hh.out.trans (find_no _ n k hX (by rw [hXk]; exact hnm)))
    clear he hXk
    go_wp2_with fail
    go_round
    case rel => exact ⟨k + 1, by omega, by go_num, HR.out⟩
    case measure => simp [intOf]; omega
  ·have HR := Lib.hid (hh.out.trans (find_end _ n k (by simp; have := HM.out; omega)))
   go_wp2_with fail
   refine bodyPost_ret (v := .tuple #[tv ⟨0, [], []⟩ (.slice none 0 0), .bool false]) ?_ rfl ?_
   ·simp [results, Tryz.results67, go_sem, tv]; rfl
   ·exact RetT.no _ _ HR.out (Flds.nil_ _ _) (by (repeat (first | with_reducible exact Below.refl _ _ | with_reducible apply below_drew | with_reducible apply below_draws | with_reducible apply below_alloc | with_reducible apply below_set | (with_reducible refine below_trans ?_ (by assumption)) | (with_reducible refine Below.trans ?_ (by assumption)) | exact Nat.le_refl _ | omega | (simp <;> omega))))
theorem refT_at {X : List Ty} {n : Bs} (h : kindR (64 :: (n ++ [59])) = some (n, 0)) (hn : n ≠ []) : refT X (64 :: (n ++ [59])) = find X n := by
 unfold refT; rw [h]; simp only; rw [if_neg (by simp [hn])]
theorem refT_no {X : List Ty} {l n : Bs} {d : Nat} (h : kindR l = some (n, d)) (hn : n = [] ∨ d ≠ 0) : refT X l = none := by
 unfold refT; rw [h]; simp only; rw [if_pos hn]
theorem ref_ways {l : Bs} (h : kOk l = true) : (∃ n, n ≠ [] ∧ n.length ≤ 12 ∧ l = 64 :: (n ++ [59]) ∧ ∀ X, refT X l = find X n) ∨ ((at_ l 0 != 64) = true ∧ 0 < l.length ∧ l.length ≤ 12 ∧ ∀ X, refT X l = none) := by
 rcases kind_cases l with hk | ⟨n, d, hk, hl, hd, h1, h2⟩
 ·simp [kOk, hk] at h
 ·by_cases h0 : d = 0
  ·subst h0
   rcases h2 with ⟨hn, -, e, -⟩ | ⟨hn, h2⟩
   ·simp only [List.drop_zero] at e
    left
    refine ⟨n, hn, ?_, e, fun X => ?_⟩
    ·rw [e] at hl; simp at hl; omega
    ·rw [e]; exact refT_at (by rw [← e]; exact hk) hn
   ·right
    refine ⟨?_, by omega, hl, fun X => refT_no hk (.inl hn)⟩
    rcases h2 with ⟨-, e⟩ | ⟨-, e⟩ | ⟨-, e⟩ <;> (rw [e]; rfl)
  ·right
   refine ⟨?_, by omega, hl, fun X => refT_no hk (.inr h0)⟩
   rcases h1 0 (by omega) with e | e <;> (rw [e]; rfl)
theorem k_ref (v : Value) (ps : List (Ty × Value)) (B : Nat) (k : Bs) (w : World) (h : Tys w B v ps) (hl : ps.length ≤ 1000000) (hB : B ≤ w.heap.size) (hk : kOk k = true) :
  Calls Tryz.prog 74 #[v, .string (S k)] w (RetT w B (refT (ps.map (·.1)) k)) := by
 rcases ref_ways hk with ⟨n, hn, hnl, rfl, hr⟩ | ⟨h64, h0, hkl, hr⟩
 ·rw [hr]
  clear hr hk hn
  have H := Lib.hid h
  have HV := Lib.hid h.form; clear h
  obtain ⟨o, ho⟩ : ∃ o, find (ps.map (·.1)) n = o := ⟨_, rfl⟩
  have HC := Lib.hid (fun w (h : Tys w B v ps) (hB : B ≤ w.heap.size) => k_find v ps B n w h hl hB)
  rw [ho] at HC ⊢
  clear ho
  go_enter Tryz.func74, Tryz.ntmps74
  go_wp2_with (go_at_call 72; refine (k_l2Ref_yes n _ (by omega)).mono ?_; rintro e w' ⟨rfl, rfl⟩)
  refine (HC.out _ (H.out.below (by (repeat (first | with_reducible exact Below.refl _ _ | with_reducible apply below_drew | with_reducible apply below_draws | with_reducible apply below_alloc | with_reducible apply below_set | (with_reducible refine below_trans ?_ (by assumption)) | (with_reducible refine Below.trans ?_ (by assumption)) | exact Nat.le_refl _ | omega | (simp <;> omega))))) (by simp; omega)).mono ?_
  rintro e w2 ⟨t, fv, rfl, ht, hf, hb⟩
  obtain ⟨a, c, rfl, -, -⟩ := hf.form
  have hz := hb.size
  simp at hz
  have hlt : w.heap.size < w2.heap.size := by omega
  have K := (Blk.new w 61 #[.int .u8 0, .string { data := #[] }, .slice none 0 0]).keep hb
  have k0 := K.cell 0
  have k1 := K.cell 1
  have k2 := K.cell 2
  have f0 := K.frozen 0
  have f1 := K.frozen 1
  have f2 := K.frozen 2
  simp at k0 k1 k2
  have HF := Lib.hid hf; clear hf
  have HT := Lib.hid ht; clear ht
  have HK := Lib.hid K; clear K
  unfold tv
  go_wp2_with fail
  refine bodyPost_ret (v := .tuple #[tv t (.slice a t.fields.length c), .bool o.isSome]) ?_ rfl ?_
  ·simp [results, Tryz.results74, go_sem, tv, k0, k1, k2, f0, f1, f2, hlt]
  ·exact ⟨t, _, rfl, HT.out, HF.out.grown HK.out (by decide) (grown_set (grown_set (grown_set (grown_self _ _)))), by (repeat (first | with_reducible exact Below.refl _ _ | with_reducible apply below_drew | with_reducible apply below_draws | with_reducible apply below_alloc | with_reducible apply below_set | (with_reducible refine below_trans ?_ (by assumption)) | (with_reducible refine Below.trans ?_ (by assumption)) | exact Nat.le_refl _ | omega | (simp <;> omega)))⟩
 ·rw [hr]
  clear hr hk h
  go_enter Tryz.func74, Tryz.ntmps74
  go_wp2_with (go_at_call 72; refine (k_l2Ref_no k _ h64 h0 (by omega)).mono ?_; rintro e w' ⟨rfl, rfl⟩)
  refine bodyPost_ret (v := .tuple #[tv ⟨0, [], []⟩ (.slice none 0 0), .bool false]) ?_ rfl ?_
  ·simp [results, Tryz.results74, go_sem, tv]; rfl
  ·exact RetT.no _ _ rfl (Flds.nil_ _ _) (by (repeat (first | with_reducible exact Below.refl _ _ | with_reducible apply below_drew | with_reducible apply below_draws | with_reducible apply below_alloc | with_reducible apply below_set | (with_reducible refine below_trans ?_ (by assumption)) | (with_reducible refine Below.trans ?_ (by assumption)) | exact Nat.le_refl _ | omega | (simp <;> omega))))
def TyBlk (w : World) (b : Nat) (t : Ty) (v : Value) : Prop := Blk w b 61 #[.int .u8 t.sort, .string (S t.name), v]
theorem k_ends (v : Value) (ps : List (Ty × Value)) (B : Nat) (w : World) (t0 : Ty) (a0 : Option Addr) (c0 : Nat) (h : Tys w B v ps) (h0 : Flds w B (.slice a0 t0.fields.length c0) t0.fields) (hl : ps.length ≤ 1000000) (hB : B ≤ w.heap.size)
  (hg : ∀ t ∈ ps.map (·.1), GoodT t) (hg0 : GoodT t0) :
  Calls Tryz.prog 119 #[v, tv t0 (.slice a0 t0.fields.length c0)] w fun e w' => e = .returned (.bool (endsB (ps.map (·.1)) t0)) ∧ Below w.heap.size w w' := by
 obtain ⟨av, cv', rfl, -, -⟩ := h.form
 obtain ⟨m, hm⟩ : ∃ m, ps.length = m := ⟨_, rfl⟩
 have hXl : (ps.map (·.1)).length = m := by simpa using hm
 unfold endsB
 rw [hXl]
 have HC := Lib.hid (fun k (hk : kOk k = true) w (h : Tys w B (.slice av m cv') ps) (hB : B ≤ w.heap.size) => k_ref (.slice av m cv') ps B k w h hl hB hk)
 rw [hm] at h hl ⊢
 have HG := Lib.hid hg; clear hg
 have HG0 := Lib.hid hg0; clear hg0
 have H := Lib.hid h; clear h
 have H0 := Lib.hid h0; clear h0
 clear hXl hm
 generalize (ps.map (·.1)) = X at *
 obtain ⟨r, hr⟩ : ∃ r, endsF X (m + 1) t0 = r := ⟨_, rfl⟩
 rw [hr]
 have HR := Lib.hid hr; clear hr
 unfold tv
 go_enter Tryz.func119, Tryz.ntmps119
 go_wp2_with fail
 go_loopw [5] (fun n wr => ∃ (k : Nat) (t : Ty) (a : Option Addr) (c : Nat), k ≤ m + 1 ∧ n = .int .i64 k ∧ Hid (TyBlk wr w.heap.size t (.slice a t.fields.length c)) ∧ Hid (Flds wr B (.slice a t.fields.length c) t.fields) ∧ Hid (Tys wr B (.slice av m cv') ps) ∧ Hid (GoodT t) ∧ Hid (r = endsF X (m + 1 - k) t) ∧ Below w.heap.size w wr ∧ w.heap.size < wr.heap.size) (fun n _ => m + 1 - (intOf n).toNat)
 case atStart => exact ⟨0, t0, a0, c0, by omega, rfl, Blk.new _ _ _, H0.out.below (by (repeat (first | with_reducible exact Below.refl _ _ | with_reducible apply below_drew | with_reducible apply below_draws | with_reducible apply below_alloc | with_reducible apply below_set | (with_reducible refine below_trans ?_ (by assumption)) | (with_reducible refine Below.trans ?_ (by assumption)) | exact Nat.le_refl _ | omega | (simp <;> omega)))), H.out.below (by (repeat (first | with_reducible exact Below.refl _ _ | with_reducible apply below_drew | with_reducible apply below_draws | with_reducible apply below_alloc | with_reducible apply below_set | (with_reducible refine below_trans ?_ (by assumption)) | (with_reducible refine Below.trans ?_ (by assumption)) | exact Nat.le_refl _ | omega | (simp <;> omega)))), HG0.out, HR.out.symm, by (repeat (first | with_reducible exact Below.refl _ _ | with_reducible apply below_drew | with_reducible apply below_draws | with_reducible apply below_alloc | with_reducible apply below_set | (with_reducible refine below_trans ?_ (by assumption)) | (with_reducible refine Below.trans ?_ (by assumption)) | exact Nat.le_refl _ | omega | (simp <;> omega))), by simp⟩
 case round =>
  obtain ⟨k, t, a, c, hk, rfl, hT, hF, hS, hG, hE, hb, hlt⟩ := hrel
  have b0 := hT.out.cell 0
  have b1 := hT.out.cell 1
  have b2 := hT.out.cell 2
  have f0 := hT.out.frozen 0
  have f1 := hT.out.frozen 1
  have f2 := hT.out.frozen 2
  simp at b0 b1 b2
  by_cases hkm : k ≤ m
  ·by_cases hs : t.sort = 85
   ·obtain ⟨-, -, -, hgf, hgk⟩ := hG.out
    have hne : t.fields ≠ [] := hgf (by omega)
    have hpos : 0 < t.fields.length := List.length_pos_iff.2 hne
    have hf0 : t.fields.getD 0 default = t.fields[0] := by rw [List.getD_eq_getElem?_getD, List.getElem?_eq_getElem hpos]; rfl
    have hko : kOk t.fields[0].kind = true := (hgk _ (List.getElem_mem hpos)).2.2.2.2.2.1 (by omega)
    obtain ⟨g, rfl, hg1, hg2⟩ : ∃ g, a = some ⟨g, 0, none⟩ ∧ B ≤ g ∧ g < wr.heap.size := by
     obtain ⟨ao, c', hv, -, hh⟩ := hF.out.form
     injection hv with hv
     rcases hh with ⟨_, h0⟩ | ⟨g, hh, h1, h2⟩
     ·exact absurd h0 hne
     ·exact ⟨g, hv.trans hh, h1, h2⟩
    obtain ⟨-, -, q2, -⟩ := hF.out.cells4 0 hpos
    rw [Nat.zero_mul, Nat.zero_add] at q2
    have hs' : (t.sort != 85) = false := by simp [hs]
    have HS0 := Lib.hid hs; clear hs
    obtain ⟨kd, hkd⟩ : ∃ kd, t.fields[0].kind = kd := ⟨_, rfl⟩
    rw [hkd] at q2 hko
    have HKD := Lib.hid (show (t.fields.getD 0 default).kind = kd by rw [hf0, hkd])
    have HKO := Lib.hid hko
    clear hkd hko hf0 hgf hgk hne
    go_wp2_with fail
    refine (HC.out kd HKO.out _ (hS.out.below (by (repeat (first | with_reducible exact Below.refl _ _ | with_reducible apply below_drew | with_reducible apply below_draws | with_reducible apply below_alloc | with_reducible apply below_set | (with_reducible refine below_trans ?_ (by assumption)) | (with_reducible refine Below.trans ?_ (by assumption)) | exact Nat.le_refl _ | omega | (simp <;> omega))))) (by omega)).mono ?_
    rintro e w2 ⟨u, fv, rfl, hu, hfu, hb2⟩
    obtain ⟨au, cu, rfl, -, -⟩ := hfu.form
    have HT2 := Lib.hid (Blk.keep hT.out hb2)
    have HFU := Lib.hid hfu; clear hfu
    have HB2 := Lib.hid (hS.out.below hb2)
    have hlt2 : wr.heap.size ≤ w2.heap.size := hb2.size
    obtain ⟨o, ho⟩ : ∃ o, refT X kd = o := ⟨_, rfl⟩
    rw [ho] at hu ⊢
    clear q2 b0 b1 b2 f0 f1 f2
    cases o with
    | none =>
     have HQ := Lib.hid (hE.out.trans (by rw [show m + 1 - k = (m - k) + 1 by omega]; exact endsF_none X _ t HS0.out (by rw [HKD.out]; exact ho) : endsF X (m + 1 - k) t = true))
     clear ho hu
     unfold tv
     go_wp2_with fail
     go_ret
     exact ⟨ret_b HQ.out.symm, by (repeat (first | with_reducible exact Below.refl _ _ | with_reducible apply below_drew | with_reducible apply below_draws | with_reducible apply below_alloc | with_reducible apply below_set | (with_reducible refine below_trans ?_ (by assumption)) | (with_reducible refine Below.trans ?_ (by assumption)) | exact Nat.le_refl _ | omega | (simp <;> omega)))⟩
    | some u' =>
     obtain rfl : u = u' := hu _ rfl
     have HQ := Lib.hid (hE.out.trans (by rw [show m + 1 - k = (m - k) + 1 by omega, show m - k = m + 1 - (k + 1) by omega]; exact endsF_more X _ t u HS0.out (by rw [HKD.out]; exact ho) : endsF X (m + 1 - k) t = endsF X (m + 1 - (k + 1)) u))
     have HGU := Lib.hid (HG.out u (refT_mem0 ho))
     clear ho hu
     have b0 := HT2.out.cell 0
     have b1 := HT2.out.cell 1
     have b2 := HT2.out.cell 2
     have f0 := HT2.out.frozen 0
     have f1 := HT2.out.frozen 1
     have f2 := HT2.out.frozen 2
     simp at b0 b1 b2
     have hlt3 : w.heap.size < w2.heap.size := by omega
     have hne3 : ¬ w2.heap.size = w.heap.size := by omega
     unfold tv
     go_wp2_with fail
     go_roundw
     case rel =>
      refine ⟨k + 1, u, au, cu, by omega, by go_num, ?_, ?_, ?_, HGU.out, HQ.out, ?_, ?_⟩
      ·exact Blk.alloc (((HT2.out.set_ 0 _).set_ 1 _).set_ 2 _) _
      ·exact (HFU.out.grown HT2.out (by decide) (grown_set (grown_set (grown_set (grown_self _ _))))).below (below_alloc (Below.refl _ _) _)
      ·exact (HB2.out.far H.out.block HT2.out (by decide) (grown_set (grown_set (grown_set (grown_self _ _))))).below (below_alloc (Below.refl _ _) _)
      ·(repeat (first | with_reducible exact Below.refl _ _ | with_reducible apply below_drew | with_reducible apply below_draws | with_reducible apply below_alloc | with_reducible apply below_set | (with_reducible refine below_trans ?_ (by assumption)) | (with_reducible refine Below.trans ?_ (by assumption)) | exact Nat.le_refl _ | omega | (simp <;> omega)))
      ·simp; omega
     case measure => simp [intOf]; omega
   ·have HQ := Lib.hid (hE.out.trans (by rw [show m + 1 - k = (m - k) + 1 by omega]; exact endsF_other X _ t hs : endsF X (m + 1 - k) t = true))
    have hs' : (t.sort != 85) = true := by simp [hs]
    clear hs
    go_wp2_with fail
    go_ret
    exact ⟨ret_b HQ.out.symm, hb⟩
  ·have HQ := Lib.hid (hE.out.trans (by rw [show m + 1 - k = 0 by omega]; rfl : endsF X (m + 1 - k) t = false))
   go_wp2_with fail
   go_ret
   exact ⟨ret_b HQ.out.symm, hb⟩
def RetRef (w : World) (o : Option Bs) (e : Ending) (w' : World) : Prop := e = .returned (.tuple #[.string (S (o.getD [])), .bool o.isSome]) ∧ w = w'
theorem core_ways {l : Bs} (h : kOk l = true) : ∃ d, l.length ≤ 12 ∧ d < l.length ∧ (∀ k, k < d → at_ l k = 91 ∨ at_ l k = 63) ∧ (at_ l d == 91) = false ∧ (at_ l d == 63) = false ∧
  ((∃ n, n.length ≤ 12 ∧ l.drop d = 64 :: (n ++ [59]) ∧ coreName l = some n) ∨ ((at_ (l.drop d) 0 != 64) = true ∧ 0 < (l.drop d).length ∧ coreName l = none)) := by
 rcases kind_cases l with hk | ⟨n, d, hk, hl, hd, h1, h2⟩
 ·simp [kOk, hk] at h
 ·have hb : (at_ l d == 91) = false ∧ (at_ l d == 63) = false := by
   rcases h2 with ⟨_, _, _, h⟩ | ⟨_, ⟨_, h⟩ | ⟨_, h⟩ | ⟨_, h⟩⟩ <;> rw [h] <;> exact ⟨rfl, rfl⟩
  refine ⟨d, hl, hd, h1, hb.1, hb.2, ?_⟩
  have e0 : at_ (l.drop d) 0 = at_ l d := by rw [at_drop, Nat.add_zero]
  rcases h2 with ⟨hn, -, e, -⟩ | ⟨hn, h2⟩
  ·left
   refine ⟨n, ?_, e, by unfold coreName; rw [hk]; simp only; rw [if_neg hn]⟩
   have := congrArg List.length e; simp at this; omega
  ·right
   refine ⟨?_, by simp; omega, by unfold coreName; rw [hk]; simp only; rw [if_pos hn]⟩
   rw [e0]
   rcases h2 with ⟨-, e⟩ | ⟨-, e⟩ | ⟨-, e⟩ <;> (rw [e]; rfl)
theorem k_coreRef (l : Bs) (d : Nat) (h : (∃ n, n.length ≤ 12 ∧ l.drop d = 64 :: (n ++ [59]) ∧ coreName l = some n) ∨ ((at_ (l.drop d) 0 != 64) = true ∧ 0 < (l.drop d).length ∧ coreName l = none)) (hl : l.length ≤ 12) (w : World) :
  Calls Tryz.prog 72 #[.string (S (l.drop d))] w (RetRef w (coreName l)) := by
 rcases h with ⟨n, hn, e, ho⟩ | ⟨h1, h2, ho⟩
 ·rw [e, ho]; exact k_l2Ref_yes n w (by omega)
 ·rw [ho]; exact k_l2Ref_no _ w h1 h2 (by simp; omega)
theorem all_in {p : Fl → Bool} (fs : List Fl) (j : Nat) (h : j < fs.length) : (fs.drop j).all p = (p fs[j] && (fs.drop (j + 1)).all p) := by
 rw [List.drop_eq_getElem_cons h, List.all_cons]
theorem all_end {α : Type} {p : α → Bool} (fs : List α) (j : Nat) (h : fs.length ≤ j) : (fs.drop j).all p = true := by
 rw [List.drop_of_length_le h]; rfl
theorem any_in (X : List Ty) (n : Bs) (j : Nat) (h : j < X.length) : hasName (X.drop j) n = ((X[j].name == n) || hasName (X.drop (j + 1)) n) := by
 unfold hasName; rw [List.drop_eq_getElem_cons h, List.any_cons]
theorem vfrom_in (X : List Ty) (k : Nat) (h : k < X.length) : validFrom X (X.take k) (X.drop k) = (typeOk X (X.take k) X[k] && validFrom X (X.take (k + 1)) (X.drop (k + 1))) := by
 rw [List.drop_eq_getElem_cons h, validFrom, List.take_succ_eq_append_getElem h]
theorem vfrom_end (X : List Ty) (k : Nat) (h : X.length ≤ k) : validFrom X (X.take k) (X.drop k) = true := by
 rw [List.drop_of_length_le h, validFrom]
set_option maxHeartbeats 4000000 in
theorem k_valid (v : Value) (ps : List (Ty × Value)) (B : Nat) (w : World) (h : Tys w B v ps) (hl : ps.length ≤ 1000000) (hB : B ≤ w.heap.size) (hg : ∀ t ∈ ps.map (·.1), GoodT t) :
  Calls Tryz.prog 95 #[v] w fun e w' => e = .returned (.bool (validB (ps.map (·.1)))) ∧ Below w.heap.size w w' := by
 obtain ⟨av, cv', rfl, -, hfv⟩ := h.form
 obtain ⟨m, hm⟩ : ∃ m, ps.length = m := ⟨_, rfl⟩
 have hXl : (ps.map (·.1)).length = m := by simpa using hm
 have HCf := Lib.hid (fun n w (h : Tys w B (.slice av m cv') ps) (hB : B ≤ w.heap.size) => k_find (.slice av m cv') ps B n w h hl hB)
 have HCe := Lib.hid (fun w (t0 : Ty) (a0 : Option Addr) (c0 : Nat) (h : Tys w B (.slice av m cv') ps) (h0 : Flds w B (.slice a0 t0.fields.length c0) t0.fields) (hB : B ≤ w.heap.size) (hg0 : GoodT t0) => k_ends (.slice av m cv') ps B w t0 a0 c0 h h0 hl hB hg hg0)
 have HE := Lib.hid (show ∀ k t v, ps[k]? = some (t, v) → (ps.map (·.1))[k]? = some t from fun k t v e => by rw [List.getElem?_map, e]; rfl)
 rw [hm] at h hl ⊢
 have HG := Lib.hid hg; clear hg
 have H := Lib.hid h; clear h
 have HFV := Lib.hid hfv; clear hfv
 have HM := Lib.hid hm; clear hm
 have HXL := Lib.hid hXl; clear hXl
 generalize (ps.map (·.1)) = X at *
 obtain ⟨r, hr⟩ : ∃ r, validB X = r := ⟨_, rfl⟩
 rw [hr]
 have HR := Lib.hid hr; clear hr
 go_enter Tryz.func95, Tryz.ntmps95
 go_wp2_with fail
 go_loopw [3] (fun i wr => ∃ k : Nat, k ≤ m ∧ i = .int .i64 k ∧ Hid (Tys wr B (.slice av m cv') ps) ∧ Hid (validFrom X [] X = validFrom X (X.take k) (X.drop k)) ∧ Below w.heap.size w wr) (fun i _ => m - (intOf i).toNat)
 case atStart => exact ⟨0, by omega, rfl, H.out, (show validFrom X [] X = validFrom X (X.take 0) (X.drop 0) by simp), by (repeat (first | with_reducible exact Below.refl _ _ | with_reducible apply below_drew | with_reducible apply below_draws | with_reducible apply below_alloc | with_reducible apply below_set | (with_reducible refine below_trans ?_ (by assumption)) | (with_reducible refine Below.trans ?_ (by assumption)) | exact Nat.le_refl _ | omega | (simp <;> omega)))⟩
 case round =>
  obtain ⟨k, hk, rfl, hS, hV, hb⟩ := hrel
  by_cases hkm : k < m
  ·obtain ⟨g, rfl, hg1, hg2⟩ : ∃ g, av = some ⟨g, 0, none⟩ ∧ B ≤ g ∧ g < w.heap.size := by
    rcases HFV.out with ⟨_, h0⟩ | h0
    ·have h1 := HM.out; rw [h0] at h1; simp at h1; omega
    ·exact h0
   have hgr : g < wr.heap.size := by have := hb.size; omega
   have hkX : k < X.length := by rw [HXL.out]; exact hkm
   obtain ⟨t, a, c, he, hF, x0, x1, x2⟩ := hS.out.cells3 k (by rw [HM.out]; exact hkm)
   have hXk : X[k] = t := by
    have := HE.out k t _ (by rw [List.getElem?_eq_getElem (by rw [HM.out]; exact hkm), he])
    rw [List.getElem?_eq_getElem hkX] at this; injection this
   have HXK := Lib.hid hXk
   have hgt : GoodT t := by rw [← hXk]; exact HG.out _ (List.getElem_mem hkX)
   have HGT := Lib.hid hgt; clear hgt
   have HFF := Lib.hid hF; clear hF
   have HV1 := Lib.hid (hV.out.trans (vfrom_in X k hkX))
   rw [hXk] at HV1
   clear he hXk
   obtain ⟨wo, rfl⟩ : ∃ wo : World, wo = wr := ⟨_, rfl⟩
   go_wp2_with fail
   go_loopw [4] (fun i wr => ∃ j q : Nat, j ≤ k ∧ i = .int .i64 j ∧ wr = wo.drewN q ∧ Hid (hasName (X.take k) t.name = hasName ((X.take k).drop j) t.name)) (fun i _ => k - (intOf i).toNat)
   case atStart => exact ⟨0, 0, by omega, rfl, rfl, (rfl : hasName (X.take k) t.name = hasName (X.take k) t.name)⟩
   case round =>
    obtain ⟨j, q, hj, rfl, rfl, hA⟩ := hrel
    by_cases hjk : j < k
    ·obtain ⟨t2, a2, c2, he2, -, -, y1, -⟩ := hS.out.cells3 j (by rw [HM.out]; omega)
     have hjX : j < X.length := by rw [HXL.out]; omega
     have hjT : j < (X.take k).length := by simp; omega
     have hXj : X[j] = t2 := by
      have := HE.out j t2 _ (by rw [List.getElem?_eq_getElem (by rw [HM.out]; omega), he2])
      rw [List.getElem?_eq_getElem hjX] at this; injection this
     have HA1 := Lib.hid (hA.out.trans (any_in (X.take k) t.name j hjT))
     rw [List.getElem_take, hXj] at HA1
     clear he2 hXj
     cases hnm : (t2.name == t.name) with
     | true =>
      have HF0 := Lib.hid (show r = false by
       have h1 := HA1.out; rw [hnm, Bool.true_or] at h1
       rw [← HR.out]; unfold validB; rw [HV1.out]; unfold typeOk
       rw [show ((X.take k).any fun u => u.name == t.name) = true from h1]; rfl)
      go_wp2_with fail
      go_quiet (fail)
      go_wp2_with fail
      go_ret
      exact ⟨ret_b HF0.out.symm, below_drewN (by (repeat (first | with_reducible exact Below.refl _ _ | with_reducible apply below_drew | with_reducible apply below_draws | with_reducible apply below_alloc | with_reducible apply below_set | (with_reducible refine below_trans ?_ (by assumption)) | (with_reducible refine Below.trans ?_ (by assumption)) | exact Nat.le_refl _ | omega | (simp <;> omega)))) _⟩
     | false =>
      have HA2 := Lib.hid (HA1.out.trans (by rw [hnm, Bool.false_or] : _ = hasName ((X.take k).drop (j + 1)) t.name))
      go_wp2_with fail
      go_quiet (fail)
      go_wp2_with fail
      go_roundw
      case rel => exact ⟨j + 1, _, by omega, by go_num, rfl, HA2.out⟩
      case measure => simp [intOf]; omega
    ·have HA1 := Lib.hid (hA.out.trans (by unfold hasName; rw [List.drop_of_length_le (by simp; omega)]; rfl : _ = false))
     have hbq : Below wo.heap.size wo (wo.drewN q) := below_drewN (Below.refl _ _) q
     have HS2 := Lib.hid (hS.out.below hbq)
     have HF2 := Lib.hid (HFF.out.below hbq)
     have z0 : (wo.drewN q).cell? ⟨g, k * 3, none⟩ = some (.int .u8 t.sort) := x0
     have z1 : (wo.drewN q).cell? ⟨g, k * 3 + 1, none⟩ = some (.string (S t.name)) := x1
     have z2 : (wo.drewN q).cell? ⟨g, k * 3 + 2, none⟩ = some (.slice a t.fields.length c) := x2
     have hbp : Below w.heap.size w (wo.drewN q) := below_drewN hb q
     have hgp : g < (wo.drewN q).heap.size := hgr
     have Z := Lib.hid (And.intro z0 (And.intro z1 z2))
     clear z0 z1 z2 x0 x1 x2 hbq hA hb hgr hS HFF
     generalize wo.drewN q = wp at *
     have hfl8 : t.fields.length ≤ 8 := HGT.out.2.2.1
     have hB2 : B ≤ wp.heap.size := by have := hbp.size; omega
     go_wp2_with fail
     go_loopw [5] (fun i wr => ∃ j : Nat, j ≤ t.fields.length ∧ i = .int .i64 j ∧ Hid (t.fields.all (fieldOk X) = (t.fields.drop j).all (fieldOk X)) ∧ Below wp.heap.size wp wr) (fun i _ => t.fields.length - (intOf i).toNat)
     case atStart => exact ⟨0, by omega, rfl, (rfl : t.fields.all (fieldOk X) = t.fields.all (fieldOk X)), Below.refl _ _⟩
     case round =>
      obtain ⟨j, hj, rfl, hL, hbr⟩ := hrel
      have x0 : wr.cell? ⟨g, k * 3, none⟩ = some (.int .u8 t.sort) := (hbr.cell (p := ⟨g, k * 3, none⟩) hgp).trans Z.out.1
      have x2 : wr.cell? ⟨g, k * 3 + 2, none⟩ = some (.slice a t.fields.length c) := (hbr.cell (p := ⟨g, k * 3 + 2, none⟩) hgp).trans Z.out.2.2
      have hsz := hbr.size
      by_cases hjl : j < t.fields.length
      ·by_cases h69 : t.sort = 69
       ·have hs9 : (t.sort != 69) = false := by simp [h69]
        have HV2 := Lib.hid (HV1.out.trans (by
         have h1 := HA1.out
         unfold typeOk; rw [show ((X.take k).any fun u => u.name == t.name) = false from h1, h69]; rfl : _ = validFrom X (X.take (k + 1)) (X.drop (k + 1))))
        clear h69
        go_wp2_with fail
        go_roundw
        case rel => exact ⟨k + 1, by omega, by go_num, HS2.out.below hbr, HV2.out, hbp.trans (hbr.mono (by have := hbp.size; omega))⟩
        case measure => simp [intOf]; omega
       ·have hs9 : (t.sort != 69) = true := by simp [h69]
        obtain ⟨-, -, -, -, hgk⟩ := HGT.out
        have hgf := hgk _ (List.getElem_mem hjl)
        have hko : kOk t.fields[j].kind = true := hgf.2.2.2.2.2.1 h69
        obtain ⟨gf, rfl, hgf1, hgf2⟩ : ∃ gf, a = some ⟨gf, 0, none⟩ ∧ B ≤ gf ∧ gf < wp.heap.size := by
         obtain ⟨ao, c', hv, -, hh⟩ := HF2.out.form
         injection hv with hv
         rcases hh with ⟨_, h0⟩ | ⟨g, hh, h1, h2⟩
         ·rw [h0] at hjl; simp at hjl
         ·exact ⟨g, hv.trans hh, h1, h2⟩
        obtain ⟨-, -, q2, -⟩ := (HF2.out.below hbr).cells4 j hjl
        have HL1 := Lib.hid (hL.out.trans (all_in t.fields j hjl))
        have HB1 := Lib.hid (show (hasName (X.take k) t.name = false) ∧ (t.sort == 69) = false from ⟨HA1.out, by simp [h69]⟩)
        clear hgk hgf h69
        obtain ⟨fk, hfk⟩ : ∃ fk, t.fields[j] = fk := ⟨_, rfl⟩
        rw [hfk] at q2 hko HL1
        clear hfk
        obtain ⟨d, hd1, hd2, hd3, hd4, hd5, hd6⟩ := core_ways hko
        have HD3 := Lib.hid hd3; clear hd3
        have HD6 := Lib.hid hd6; clear hd6
        have HD4 := Lib.hid hd4; clear hd4
        have HD5 := Lib.hid hd5; clear hd5
        clear hko
        obtain ⟨o, ho⟩ : ∃ o, coreName fk.kind = o := ⟨_, rfl⟩
        have HRF := Lib.hid (fun w => k_coreRef fk.kind d HD6.out hd1 w)
        rw [ho] at HRF
        have HO := Lib.hid ho; clear ho
        clear HD6
        go_wp2_with (first | (go_at_call 73; refine (k_l2Core _ d _ hd1 hd2 HD3.out HD4.out HD5.out).mono ?_; rintro e w' ⟨rfl, rfl⟩) | (go_at_call 72; refine (HRF.out _).mono ?_; rintro e w' ⟨rfl, rfl⟩))
        refine (HCf.out (o.getD []) _ (HS2.out.below hbr) (by omega)).mono ?_
        rintro e w2 ⟨u, fv, rfl, hu, hfu, hb2⟩
        obtain ⟨au, cu, rfl, -, -⟩ := hfu.form
        clear hfu hu
        unfold tv
        have hb3 : Below wp.heap.size wp w2 := hbr.trans (hb2.mono hsz)
        cases o with
        | none =>
         have HL2 := Lib.hid (HL1.out.trans (by rw [show fieldOk X fk = true by unfold fieldOk; rw [HO.out], Bool.true_and] : _ = (t.fields.drop (j + 1)).all (fieldOk X)))
         go_wp2_with fail
         go_roundw
         case rel => exact ⟨j + 1, by omega, by go_num, HL2.out, below_alloc hb3 _⟩
         case measure => simp [intOf]; omega
        | some n =>
         simp only [Option.getD_some]
         obtain ⟨y, hy⟩ : ∃ y, find X n = y := ⟨_, rfl⟩
         rw [hy]
         have HFO := Lib.hid (show fieldOk X fk = y.isSome by unfold fieldOk; rw [HO.out, ← hy])
         clear hy
         cases y with
         | none =>
          have HF0 := Lib.hid (show r = false by
           rw [← HR.out]; unfold validB; rw [HV1.out]; unfold typeOk
           rw [show ((X.take k).any fun u => u.name == t.name) = false from HB1.out.1, HB1.out.2, HL1.out, HFO.out]; rfl)
          go_wp2_with fail
          go_ret
          exact ⟨ret_b HF0.out.symm, hbp.trans ((below_alloc hb3 _).mono (by have := hbp.size; omega))⟩
         | some y =>
          have HL2 := Lib.hid (HL1.out.trans (by rw [HFO.out]; rfl : _ = (t.fields.drop (j + 1)).all (fieldOk X)))
          go_wp2_with fail
          go_roundw
          case rel => exact ⟨j + 1, by omega, by go_num, HL2.out, below_alloc hb3 _⟩
          case measure => simp [intOf]; omega
      ·have HL1 := Lib.hid (hL.out.trans (all_end _ j (by omega)))
       have HV2 := Lib.hid (HV1.out.trans (by
        have h1 := HA1.out
        unfold typeOk; rw [show ((X.take k).any fun u => u.name == t.name) = false from h1, HL1.out]; simp : _ = validFrom X (X.take (k + 1)) (X.drop (k + 1))))
       go_wp2_with fail
       go_roundw
       case rel => exact ⟨k + 1, by omega, by go_num, HS2.out.below hbr, HV2.out, hbp.trans (hbr.mono (by have := hbp.size; omega))⟩
       case measure => simp [intOf]; omega
  ·obtain rfl : m = k := by omega
   have HVE := Lib.hid (hV.out.trans (vfrom_end X m (by rw [HXL.out]; omega)))
   obtain ⟨wo, rfl⟩ : ∃ wo : World, wo = wr := ⟨_, rfl⟩
   have HRR := Lib.hid (show r = X.all (endsB X) by rw [← HR.out]; unfold validB; rw [HVE.out]; rfl)
   go_wp2_with fail
   go_loopw [10] (fun i wr => ∃ j : Nat, j ≤ m ∧ i = .int .i64 j ∧ Hid (Tys wr B (.slice av m cv') ps) ∧ Hid (r = (X.drop j).all (endsB X)) ∧ Below w.heap.size w wr) (fun i _ => m - (intOf i).toNat)
   case atStart => exact ⟨0, by omega, rfl, hS.out, HRR.out, hb⟩
   case round =>
    obtain ⟨j, hj, rfl, hS1, hE, hb1⟩ := hrel
    by_cases hjm : j < m
    ·obtain ⟨g, rfl, hg1, hg2⟩ : ∃ g, av = some ⟨g, 0, none⟩ ∧ B ≤ g ∧ g < w.heap.size := by
      rcases HFV.out with ⟨_, h0⟩ | h0
      ·have h1 := HM.out; rw [h0] at h1; simp at h1; omega
      ·exact h0
     have hgr : g < wr.heap.size := by have := hb1.size; omega
     have hjX : j < X.length := by rw [HXL.out]; exact hjm
     obtain ⟨t, a, c, he, hF, x0, x1, x2⟩ := hS1.out.cells3 j (by rw [HM.out]; exact hjm)
     have hXj : X[j] = t := by
      have := HE.out j t _ (by rw [List.getElem?_eq_getElem (by rw [HM.out]; exact hjm), he])
      rw [List.getElem?_eq_getElem hjX] at this; injection this
     have HGT := Lib.hid (show GoodT t by rw [← hXj]; exact HG.out _ (List.getElem_mem hjX))
     have HFF := Lib.hid hF; clear hF
     have HE1 := Lib.hid (hE.out.trans (by rw [List.drop_eq_getElem_cons hjX, List.all_cons, hXj] : _ = (endsB X t && (X.drop (j + 1)).all (endsB X))))
     clear he hXj
     obtain ⟨b, hbb⟩ : ∃ b, endsB X t = b := ⟨_, rfl⟩
     have HCE := Lib.hid (HCe.out wr t a c hS1.out HFF.out (by have := hb1.size; omega) HGT.out)
     rw [hbb] at HE1 HCE
     clear hbb
     unfold tv at HCE
     go_wp2_with fail
     refine HCE.out.mono ?_
     rintro e w2 ⟨rfl, hb2⟩
     cases b with
     | true =>
      go_wp2_with fail
      go_roundw
      case rel => exact ⟨j + 1, by omega, by go_num, hS1.out.below hb2, HE1.out, by (repeat (first | with_reducible exact Below.refl _ _ | with_reducible apply below_drew | with_reducible apply below_draws | with_reducible apply below_alloc | with_reducible apply below_set | (with_reducible refine below_trans ?_ (by assumption)) | (with_reducible refine Below.trans ?_ (by assumption)) | exact Nat.le_refl _ | omega | (simp <;> omega)))⟩
      case measure => simp [intOf]; omega
     | false =>
      go_wp2_with fail
      go_ret
      exact ⟨ret_b HE1.out.symm, by (repeat (first | with_reducible exact Below.refl _ _ | with_reducible apply below_drew | with_reducible apply below_draws | with_reducible apply below_alloc | with_reducible apply below_set | (with_reducible refine below_trans ?_ (by assumption)) | (with_reducible refine Below.trans ?_ (by assumption)) | exact Nat.le_refl _ | omega | (simp <;> omega)))⟩
    ·have HE1 := Lib.hid (hE.out.trans (all_end X j (by rw [HXL.out]; omega)))
     go_wp2_with fail
     go_ret
     exact ⟨ret_b HE1.out.symm, by (repeat (first | with_reducible exact Below.refl _ _ | with_reducible apply below_drew | with_reducible apply below_draws | with_reducible apply below_alloc | with_reducible apply below_set | (with_reducible refine below_trans ?_ (by assumption)) | (with_reducible refine Below.trans ?_ (by assumption)) | exact Nat.le_refl _ | omega | (simp <;> omega)))⟩
theorem readType_none {s : Bs} (h : ¬ (1 ≤ eqAt s ∧ eqAt s < s.length)) : readType s = none := by unfold readType; rw [if_neg h]
theorem readType_bad {s : Bs} (h : 1 ≤ eqAt s ∧ eqAt s < s.length) (h2 : ¬ (isName ((s.drop 1).take (eqAt s - 1)) = true ∧ isSort (at_ s 0) = true)) : readType s = none := by unfold readType; rw [if_pos h, if_neg h2]
theorem readType_empty {s : Bs} (h : 1 ≤ eqAt s ∧ eqAt s < s.length) (h2 : isName ((s.drop 1).take (eqAt s - 1)) = true ∧ isSort (at_ s 0) = true) (h3 : s.drop (eqAt s + 1) = []) :
  readType s = if at_ s 0 = 82 then some ⟨82, (s.drop 1).take (eqAt s - 1), []⟩ else none := by unfold readType; rw [if_pos h, if_pos h2, if_pos h3]
theorem readType_on {s : Bs} (h : 1 ≤ eqAt s ∧ eqAt s < s.length) (h2 : isName ((s.drop 1).take (eqAt s - 1)) = true ∧ isSort (at_ s 0) = true) (h3 : s.drop (eqAt s + 1) ≠ []) :
  readType s = tyOf (at_ s 0) ((s.drop 1).take (eqAt s - 1)) (readFields (at_ s 0) (cutL 44 (s.drop (eqAt s + 1))) []) := by unfold readType; rw [if_pos h, if_pos h2, if_neg h3]
set_option maxHeartbeats 4000000 in
theorem k_type1 (l : Bs) (w : World) (B : Nat) (hs : l.length ≤ 1000000) (h : ¬ (1 ≤ eqAt l ∧ eqAt l < l.length)) :
  Calls Tryz.prog 94 #[.string (S l)] w (RetT w B (readType l)) := by
 rw [readType_none h]
 have HE := Lib.hid h; clear h
 go_enter Tryz.func94, Tryz.ntmps94
 go_wp2_with fail
 go_loop [4] (fun i => ∃ k : Nat, k ≤ l.length ∧ k ≤ eqAt l ∧ i = .int .i64 k) (fun i => l.length - (intOf i).toNat)
 case atStart => exact ⟨0, by omega, by omega, rfl⟩
 case round =>
  obtain ⟨k, hk, hk2, rfl⟩ := hrel
  by_cases hlt : k < l.length
  ·by_cases hc : at_ l k = 61
   ·have he := eqAt_yes l k hk2 hlt hc
    have hk0 : ¬ (1 : Int) ≤ k := fun h1 => HE.out ⟨by omega, by omega⟩
    have hb : (at_ l k != 61) = false := by simp [hc]
    have hk1 : ¬ 1 ≤ k := by omega
    clear hc
    go_wp2_with fail
    refine bodyPost_ret (v := .tuple #[tv ⟨0, [], []⟩ (.slice none 0 0), .bool false]) ?_ rfl ?_
    ·simp [results, Tryz.results94, go_sem, tv]; rfl
    ·exact RetT.no _ _ rfl (Flds.nil_ _ _) (by (repeat (first | with_reducible exact Below.refl _ _ | with_reducible apply below_drew | with_reducible apply below_draws | with_reducible apply below_alloc | with_reducible apply below_set | (with_reducible refine below_trans ?_ (by assumption)) | (with_reducible refine Below.trans ?_ (by assumption)) | exact Nat.le_refl _ | omega | (simp <;> omega))))
   ·have hn := eqAt_no l k hk2 hlt hc
    have hb : (at_ l k != 61) = true := by simp [hc]
    clear hc
    go_wp2_with fail
    go_round
    case rel => exact ⟨k + 1, by omega, hn, by go_num⟩
    case measure => simp [intOf]; omega
  ·go_wp2_with fail
   all_goals
    refine bodyPost_ret (v := .tuple #[tv ⟨0, [], []⟩ (.slice none 0 0), .bool false]) ?_ rfl ?_
    ·simp [results, Tryz.results94, go_sem, tv]; rfl
    ·exact RetT.no _ _ rfl (Flds.nil_ _ _) (by (repeat (first | with_reducible exact Below.refl _ _ | with_reducible apply below_drew | with_reducible apply below_draws | with_reducible apply below_alloc | with_reducible apply below_set | (with_reducible refine below_trans ?_ (by assumption)) | (with_reducible refine Below.trans ?_ (by assumption)) | exact Nat.le_refl _ | omega | (simp <;> omega))))
set_option maxHeartbeats 4000000 in
theorem k_type2 (l : Bs) (w : World) (B : Nat) (hs : l.length ≤ 1000000) (h : 1 ≤ eqAt l ∧ eqAt l < l.length) (h2 : ¬ (isName ((l.drop 1).take (eqAt l - 1)) = true ∧ isSort (at_ l 0) = true)) :
  Calls Tryz.prog 94 #[.string (S l)] w (RetT w B (readType l)) := by
 rw [readType_bad h h2]
 obtain ⟨he1, he2⟩ := h
 obtain ⟨e, hE⟩ : ∃ e, eqAt l = e := ⟨_, rfl⟩
 rw [hE] at he1 he2 h2
 have HE := Lib.hid hE; clear hE
 have H2 := Lib.hid h2; clear h2
 go_enter Tryz.func94, Tryz.ntmps94
 go_wp2_with fail
 go_loop [4] (fun i => ∃ k : Nat, k ≤ l.length ∧ k ≤ e ∧ i = .int .i64 k) (fun i => l.length - (intOf i).toNat)
 case atStart => exact ⟨0, by omega, by omega, rfl⟩
 case round =>
  obtain ⟨k, hk, hk2, rfl⟩ := hrel
  have hlt : k < l.length := by omega
  by_cases hc : at_ l k = 61
  ·obtain rfl : k = e := by have := eqAt_yes l k (by rw [HE.out]; exact hk2) hlt hc; rw [HE.out] at this; exact this.symm
   have hb : (at_ l k != 61) = false := by simp [hc]
   have hl0 : 0 < l.length := by omega
   clear hc
   obtain ⟨c, hcc⟩ : ∃ c, at_ l 0 = c := ⟨_, rfl⟩
   have hln : (l.tail.take (k - 1)).length ≤ 2000000 := by simp; omega
   have hnm : ∃ n, (l.drop 1).take (k - 1) = n := ⟨_, rfl⟩
   obtain ⟨n, hn⟩ := hnm
   rw [hn] at H2
   rw [hcc] at H2
   have ex : (S l).extract 1 k = S n := by rw [S_ext, hn]
   have hnl : n.length ≤ 2000000 := by rw [← hn]; simp; omega
   have HCC := Lib.hid hcc
   have HN := Lib.hid hn; clear hn
   cases hi : isName n with
   | false =>
    have HI := Lib.hid hi; clear hi
    go_wp2_with fail
    go_region
    all_goals
     go_wp2_with (go_at_call 98; refine (k_l2Name n _ hnl).mono ?_; rw [HI.out]; rintro e w' ⟨rfl, rfl⟩)
     refine bodyPost_ret (v := .tuple #[tv ⟨c, n, []⟩ (.slice none 0 0), .bool false]) ?_ rfl ?_
     ·simp [results, Tryz.results94, go_sem, tv]
     ·exact RetT.no _ _ rfl (Flds.nil_ _ _) (by (repeat (first | with_reducible exact Below.refl _ _ | with_reducible apply below_drew | with_reducible apply below_draws | with_reducible apply below_alloc | with_reducible apply below_set | (with_reducible refine below_trans ?_ (by assumption)) | (with_reducible refine Below.trans ?_ (by assumption)) | exact Nat.le_refl _ | omega | (simp <;> omega))))
   | true =>
    have hsort : isSort c = false := by
     have := H2.out; rw [hi] at this; cases hx : isSort c with
     | false => rfl
     | true => exact absurd ⟨rfl, hx⟩ this
    have hq : (c != 82) = true ∧ (c != 85) = true ∧ (c != 69) = true := by
     unfold isSort at hsort; simp at hsort; simp; omega
    obtain ⟨q1, q2, q3⟩ := hq
    have HI := Lib.hid hi; clear hi hsort
    go_wp2_with fail
    go_region
    all_goals
     go_wp2_with (go_at_call 98; refine (k_l2Name n _ hnl).mono ?_; rw [HI.out]; rintro e w' ⟨rfl, rfl⟩)
     refine bodyPost_ret (v := .tuple #[tv ⟨c, n, []⟩ (.slice none 0 0), .bool false]) ?_ rfl ?_
     ·simp [results, Tryz.results94, go_sem, tv]
     ·exact RetT.no _ _ rfl (Flds.nil_ _ _) (by (repeat (first | with_reducible exact Below.refl _ _ | with_reducible apply below_drew | with_reducible apply below_draws | with_reducible apply below_alloc | with_reducible apply below_set | (with_reducible refine below_trans ?_ (by assumption)) | (with_reducible refine Below.trans ?_ (by assumption)) | exact Nat.le_refl _ | omega | (simp <;> omega))))
  ·have hn := eqAt_no l k (by rw [HE.out]; exact hk2) hlt hc
   rw [HE.out] at hn
   have hb : (at_ l k != 61) = true := by simp [hc]
   clear hc
   go_wp2_with fail
   go_round
   case rel => exact ⟨k + 1, by omega, hn, by go_num⟩
   case measure => simp [intOf]; omega
set_option maxHeartbeats 4000000 in
theorem k_type3 (l : Bs) (w : World) (B : Nat) (hs : l.length ≤ 1000000) (h : 1 ≤ eqAt l ∧ eqAt l < l.length) (h2 : isName ((l.drop 1).take (eqAt l - 1)) = true ∧ isSort (at_ l 0) = true) (h3 : l.drop (eqAt l + 1) = []) :
  Calls Tryz.prog 94 #[.string (S l)] w (RetT w B (readType l)) := by
 rw [readType_empty h h2 h3]
 obtain ⟨he1, he2⟩ := h
 obtain ⟨e, hE⟩ : ∃ e, eqAt l = e := ⟨_, rfl⟩
 rw [hE] at he1 he2 h2 h3 ⊢
 have HE := Lib.hid hE; clear hE
 have hel : l.length = e + 1 := by have := congrArg List.length h3; simp at this; omega
 have HL := Lib.hid hel
 have H3 := Lib.hid h3; clear h3
 have hll : e < l.length := by omega
 clear hel
 obtain ⟨c, hcc⟩ : ∃ c, at_ l 0 = c := ⟨_, rfl⟩
 obtain ⟨n, hn⟩ : ∃ n, (l.drop 1).take (e - 1) = n := ⟨_, rfl⟩
 rw [hcc, hn] at h2 ⊢
 have ex : (S l).extract 1 e = S n := by rw [S_ext, hn]
 have hnl : n.length ≤ 2000000 := by rw [← hn]; simp; omega
 have HI := Lib.hid h2.1
 have hsort := h2.2
 have HCC := Lib.hid hcc; clear hn h2
 obtain ⟨o, ho⟩ : ∃ o, (if c = 82 then some (Ty.mk 82 n []) else none) = o := ⟨_, rfl⟩
 rw [ho]
 have HO := Lib.hid ho; clear ho
 have HSO := Lib.hid hsort; clear hsort
 go_enter Tryz.func94, Tryz.ntmps94
 go_wp2_with fail
 go_loop [4] (fun i => ∃ k : Nat, k ≤ l.length ∧ k ≤ e ∧ i = .int .i64 k) (fun i => l.length - (intOf i).toNat)
 case atStart => exact ⟨0, by omega, by omega, rfl⟩
 case round =>
  obtain ⟨k, hk, hk2, rfl⟩ := hrel
  have hlt : k < l.length := by omega
  by_cases hc : at_ l k = 61
  ·obtain rfl : k = e := by have := eqAt_yes l k (by rw [HE.out]; exact hk2) hlt hc; rw [HE.out] at this; exact this.symm
   have hb : (at_ l k != 61) = false := by simp [hc]
   have hl0 : 0 < l.length := by omega
   clear hc
   have ht : (l.drop (k + 1) == []) = true := by rw [H3.out]; rfl
   by_cases hc82 : c = 82
   ·subst hc82
    have HY := Lib.hid (HO.out.symm.trans (if_pos rfl))
    go_wp2_with fail
    go_region
    all_goals
     go_wp2_with (go_at_call 98; refine (k_l2Name n _ hnl).mono ?_; rw [HI.out]; rintro e w' ⟨rfl, rfl⟩)
     go_region
     all_goals
      go_wp2_with fail
      refine bodyPost_ret (v := .tuple #[tv ⟨82, n, []⟩ (.slice none 0 0), .bool true]) ?_ rfl ?_
      ·simp [results, Tryz.results94, go_sem, tv]
      ·exact RetT.yes _ _ HY.out (Flds.nil_ _ _) (by (repeat (first | with_reducible exact Below.refl _ _ | with_reducible apply below_drew | with_reducible apply below_draws | with_reducible apply below_alloc | with_reducible apply below_set | (with_reducible refine below_trans ?_ (by assumption)) | (with_reducible refine Below.trans ?_ (by assumption)) | exact Nat.le_refl _ | omega | (simp <;> omega))))
   ·have hq : c = 85 ∨ c = 69 := by have := HSO.out; unfold isSort at this; simp at this; omega
    have HN := Lib.hid (HO.out.symm.trans (if_neg hc82))
    clear hc82 HO HSO
    rcases hq with rfl | rfl
    ·go_wp2_with fail
     go_region
     all_goals
      go_wp2_with (go_at_call 98; refine (k_l2Name n _ hnl).mono ?_; rw [HI.out]; rintro e w' ⟨rfl, rfl⟩)
      go_region
      all_goals
       go_wp2_with fail
       refine bodyPost_ret (v := .tuple #[tv ⟨85, n, []⟩ (.slice none 0 0), .bool false]) ?_ rfl ?_
       ·simp [results, Tryz.results94, go_sem, tv]
       ·exact RetT.no _ _ HN.out (Flds.nil_ _ _) (by (repeat (first | with_reducible exact Below.refl _ _ | with_reducible apply below_drew | with_reducible apply below_draws | with_reducible apply below_alloc | with_reducible apply below_set | (with_reducible refine below_trans ?_ (by assumption)) | (with_reducible refine Below.trans ?_ (by assumption)) | exact Nat.le_refl _ | omega | (simp <;> omega))))
    ·go_wp2_with fail
     go_region
     all_goals
      go_wp2_with (go_at_call 98; refine (k_l2Name n _ hnl).mono ?_; rw [HI.out]; rintro e w' ⟨rfl, rfl⟩)
      go_region
      all_goals
       go_wp2_with fail
       refine bodyPost_ret (v := .tuple #[tv ⟨69, n, []⟩ (.slice none 0 0), .bool false]) ?_ rfl ?_
       ·simp [results, Tryz.results94, go_sem, tv]
       ·exact RetT.no _ _ HN.out (Flds.nil_ _ _) (by (repeat (first | with_reducible exact Below.refl _ _ | with_reducible apply below_drew | with_reducible apply below_draws | with_reducible apply below_alloc | with_reducible apply below_set | (with_reducible refine below_trans ?_ (by assumption)) | (with_reducible refine Below.trans ?_ (by assumption)) | exact Nat.le_refl _ | omega | (simp <;> omega))))
  ·have hn := eqAt_no l k (by rw [HE.out]; exact hk2) hlt hc
   rw [HE.out] at hn
   have hb : (at_ l k != 61) = true := by simp [hc]
   clear hc
   go_wp2_with fail
   go_round
   case rel => exact ⟨k + 1, by omega, hn, by go_num⟩
   case measure => simp [intOf]; omega
end Go.Proofs.YtcjooeklehggaaaGreatDoor
