/- Lemmas of this seat. -/
import Derived.Test.YtcjooeklehggaaaGreatDoorYXs
import Derived.Test.YtcjooeklehggaaaGreatDoorDBs
import Derived.Test.YtcjooeklehggaaaGreatDoorLBs
set_option linter.unusedVariables false
set_option linter.unusedSimpArgs false
set_option maxRecDepth 100000
namespace Go.Proofs.YtcjooeklehggaaaGreatDoor
open Go.ChangeShapes Go.WideShapes Go.ChangeAt Go.RowKit M
set_option maxHeartbeats 4000000 in
theorem walk_FnSetOrder (a0 : Option Addr) (len0 cap0 : Nat) (z0 : List Int) (a1 : Option Addr) (len1 cap1 : Nat) (z1 : List Int) (w : World) (h0 : IsRow .u8 w a0 len0 cap0 z0) (h1' : IsRow .u8 w a1 len1 cap1 z1) (hT : Tab w) :
  Calls Tryz.prog 9 #[.slice a0 len0 cap0, .slice a1 len1 cap1] w fun e w' => e = .returned (.bool true) ∧ Below w.heap.size w w' := by
 have H := Lib.hid h0; clear h0 h1'
 have HTB := Lib.hid hT; clear hT
 by_cases hl : len0 ≤ 1048576
 case neg =>
  go_enter Tryz.func9, Tryz.ntmps9
  go_wp2_with fail
  go_ret
  exact ⟨rfl, by (repeat (first | exact Below.refl _ _ | apply below_drew | apply below_draws | apply below_alloc | (refine below_trans ?_ (by assumption)) | (refine Below.trans ?_ (by assumption))))⟩
 by_cases hl1 : len1 ≤ 1048576
 case neg =>
  go_enter Tryz.func9, Tryz.ntmps9
  go_wp2_with fail
  go_ret
  exact ⟨rfl, by (repeat (first | exact Below.refl _ _ | apply below_drew | apply below_draws | apply below_alloc | (refine below_trans ?_ (by assumption)) | (refine Below.trans ?_ (by assumption))))⟩
 go_enter Tryz.func9, Tryz.ntmps9
 go_wp2_with fail
 refine (d_DrawValueSet H.out).mono ?_
 rintro e w1 ⟨l, k, s, g, u, rfl, hl2, hk2, hs2, g0, g7, hu2, hb1⟩
 have HI := Lib.hid (i_ValueSet l k s g u w1 (by omega) (by omega) (by omega) (by omega) (HTB.out.below hb1))
 have HS := Lib.hid (fun w => k_ValueSet l k s g u w (by omega) (by omega) (by omega) (by omega))
 rw [setO_P] at HS
 unfold RetSB at HS
 unfold RetSP at HI
 have HSET := Lib.hid (fun (c : Bs) (t : Int) (d : Bs) (w' : World) (hb : Below w.heap.size w w') (hc : c.length ≤ 1000000) (hd : d.length ≤ 1000000) => i_ValueSet l k c t d w' (by omega) (by omega) (by omega) (by omega) (HTB.out.below hb))
 unfold RetSP at HSET
 have HORD := Lib.hid (fun (x other y z v : Bs) (t : Int) (ht : t ≠ g) (a : setP l k s g u = some x) (b : setP l k x t other = some y) (c : setP l k s t other = some z) (d : setP l k z g u = some v) => law_order ht a b c d)
 have HLEN := Lib.hid (fun (c d x : Bs) (t : Int) (h : setP l k c t d = some x) => set_len h)
 obtain ⟨o, ho⟩ : ∃ o, setP l k s g u = o := ⟨_, rfl⟩
 rw [ho] at HI HS
 have HO := Lib.hid ho
 clear ho
 cases o with
 | none =>
  clear HORD HSET HLEN HO
  go_wp2_with fail
  refine HI.out.mono ?_
  rintro e w2 ⟨rfl, hb2⟩
  go_wp2_with fail
  refine (HS.out _).mono ?_
  rintro e w3 ⟨rfl, hb3⟩
  go_wp2_with fail
  go_ret
  exact ⟨rfl, by (repeat (first | exact Below.refl _ _ | apply below_drew | apply below_draws | apply below_alloc | (refine below_trans ?_ (by assumption)) | (refine Below.trans ?_ (by assumption))))⟩
 | some x =>
  have hx4 := HLEN.out s u x g HO.out
  go_wp2_with fail
  refine HI.out.mono ?_
  rintro e w2 ⟨rfl, hb2⟩
  go_wp2_with fail
  refine (HS.out _).mono ?_
  rintro e w3 ⟨rfl, hb3⟩
  have HB3 := Lib.hid (show Below w.heap.size w w3 by (repeat (first | exact Below.refl _ _ | apply below_drew | apply below_draws | apply below_alloc | (refine below_trans ?_ (by assumption)) | (refine Below.trans ?_ (by assumption)))))
  clear hb1 hb2 hb3 HI HS
  go_wp2_with fail
  go_loopw [14] (fun i wr => ∃ j : Int, i = .int .i64 j ∧ 1 ≤ j ∧ j ≤ 10 ∧ Hid (Below w.heap.size w wr)) (fun i _ => 20 - (intOf i).toNat)
  case atStart => exact ⟨1, rfl, by omega, by omega, HB3.out⟩
  case round =>
   obtain ⟨j, rfl, j0, j1, hbr⟩ := hrel
   clear HB3
   by_cases hj : j < 10
   ·have e1 : IntKind.i64.wrap ((len1 : Int) + j) = (len1 : Int) + j := IntWalk.i64_in _ (by omega)
    have e2 : ((len1 : Int) + j).tmod 5 = ((len1 : Int) + j) % 5 := IntWalk.rem_in _ _ (by omega)
    have v0 : 0 ≤ ((len1 : Int) + j) % 5 := Int.emod_nonneg _ (by omega)
    have v1 : ((len1 : Int) + j) % 5 < 5 := Int.emod_lt_of_pos _ (by omega)
    obtain ⟨v, hv⟩ : ∃ v, ((len1 : Int) + j) % 5 = v := ⟨_, rfl⟩
    rw [hv] at e2 v0 v1
    obtain ⟨y, hy, hy'⟩ := idxS [[53], [121, 101, 115], [39, 104, 105, 39], [91, 93], [45]] v v0 v1
    have hy2 : ∀ h, ([.string { data := #[53] }, .string { data := #[121, 101, 115] }, .string { data := #[39, 104, 105, 39] }, .string { data := #[91, 93] }, .string { data := #[45] }] : List Value)[v.toNat]'h = .string (S y) := hy'
    have hyl : y.length ≤ 4 := by simp at hy; rcases hy with rfl | rfl | rfl | rfl | rfl <;> simp
    have HA := Lib.hid (fun w' hb => HSET.out x j y w' hb (by omega) (by omega))
    have HB := Lib.hid (fun w' hb => HSET.out s j y w' hb (by omega) (by omega))
    have HC := Lib.hid (fun (z : Bs) w' hb (hz : z.length ≤ 400) => HSET.out z g u w' hb (by omega) (by omega))
    have hg8 : g ≤ 100 := by omega
    have HJ := Lib.hid (fun (y1 z1 v1 : Bs) (ht : j ≠ g) b c d => HORD.out x y y1 z1 v1 j ht HO.out b c d)
    have HL2 := Lib.hid (fun (z : Bs) (h : setP l k s j y = some z) => HLEN.out s y z j h)
    clear hy hy' hv HORD HLEN HSET
    obtain ⟨oy, hoy⟩ : ∃ oy, setP l k x j y = oy := ⟨_, rfl⟩
    obtain ⟨oz, hoz⟩ : ∃ oz, setP l k s j y = oz := ⟨_, rfl⟩
    rw [hoy] at HA HJ
    rw [hoz] at HB HJ HL2
    have hzl : (oz.getD []).length ≤ 400 := by
     cases oz with
     | none => simp
     | some z => exact HL2.out z rfl
    have HC2 := Lib.hid (fun w' hb => HC.out (oz.getD []) w' hb hzl)
    obtain ⟨ov, hov⟩ : ∃ ov, setP l k (oz.getD []) g u = ov := ⟨_, rfl⟩
    rw [hov] at HC2
    have HEQ : j ≠ g → ∀ y1 z1 v1, oy = some y1 → oz = some z1 → ov = some v1 → y1 = v1 := by
     intro ht y1 z1 v1 a b c
     subst a; subst b; subst c
     exact HJ.out y1 z1 v1 ht rfl rfl hov
    have hb9 : j = g ∨ ¬ j = g ∧ (oy = none ∨ oz = none ∨ ov = none ∨ ∃ y1, oy = some y1 ∧ ov = some y1) := by
     by_cases h : j = g
     ·exact .inl h
     ·refine .inr ⟨h, ?_⟩
      cases oy with
      | none => exact .inl rfl
      | some y1 =>
       cases oz with
       | none => exact .inr (.inl rfl)
       | some z1 =>
        cases ov with
        | none => exact .inr (.inr (.inl rfl))
        | some v1 => exact .inr (.inr (.inr ⟨y1, rfl, by rw [HEQ h y1 z1 v1 rfl rfl rfl]⟩))
    have HE9 := Lib.hid hb9
    clear HC HJ HL2 hoy hoz hov HEQ hb9 HO
    go_wp2_with fail
    clear hy2
    refine (HA.out _ (by first | exact hbr.out | exact below_alloc hbr.out _)).mono ?_
    rintro e w7 ⟨rfl, hb7⟩
    have HB7 := Lib.hid (below_trans (below_alloc hbr.out _) hb7)
    clear hb7 HA
    go_wp2_with fail
    refine (HB.out _ HB7.out).mono ?_
    rintro e w8 ⟨rfl, hb8⟩
    have HB8 := Lib.hid (below_trans HB7.out hb8)
    clear hb8 HB HB7
    go_wp2_with fail
    refine (HC2.out _ HB8.out).mono ?_
    rintro e w9 ⟨rfl, hb9⟩
    have HB9 := Lib.hid (below_trans HB8.out hb9)
    clear hb9 HC2 HB8 hzl
    rcases HE9.out with hjg | ⟨hjg, rfl | rfl | rfl | ⟨y1, rfl, rfl⟩⟩
    ·have q1 : (j == g) = true := by simp [hjg]
     have q2 : (j != g) = false := by simp [hjg]
     generalize oy.isSome = b1 at *
     generalize oz.isSome = b2 at *
     generalize ov.isSome = b3 at *
     go_wp2_with fail
     go_roundw
     case rel => exact ⟨j + 1, by go_num, by omega, by omega, HB9.out⟩
     case measure => simp [intOf]; omega
    ·have q1 : (j == g) = false := by simp [hjg]
     have q2 : (j != g) = true := by simp [hjg]
     generalize oz.isSome = b2 at *
     generalize ov.isSome = b3 at *
     go_wp2_with fail
     go_roundw
     case rel => exact ⟨j + 1, by go_num, by omega, by omega, HB9.out⟩
     case measure => simp [intOf]; omega
    ·have q1 : (j == g) = false := by simp [hjg]
     have q2 : (j != g) = true := by simp [hjg]
     generalize oy.isSome = b1 at *
     generalize ov.isSome = b3 at *
     cases b1
     all_goals
      go_wp2_with fail
      go_roundw
      case rel => exact ⟨j + 1, by go_num, by omega, by omega, HB9.out⟩
      case measure => simp [intOf]; omega
    ·have q1 : (j == g) = false := by simp [hjg]
     have q2 : (j != g) = true := by simp [hjg]
     generalize oy.isSome = b1 at *
     generalize oz.isSome = b2 at *
     cases b1 <;> cases b2
     all_goals
      go_wp2_with fail
      go_roundw
      case rel => exact ⟨j + 1, by go_num, by omega, by omega, HB9.out⟩
      case measure => simp [intOf]; omega
    ·have q1 : (j == g) = false := by simp [hjg]
     have q2 : (j != g) = true := by simp [hjg]
     generalize oz.isSome = b2 at *
     cases b2
     all_goals
      go_wp2_with fail
      go_roundw
      case rel => exact ⟨j + 1, by go_num, by omega, by omega, HB9.out⟩
      case measure => simp [intOf]; omega
   ·go_wp2_with fail
    go_ret
    exact ⟨rfl, hbr.out⟩
end Go.Proofs.YtcjooeklehggaaaGreatDoor
