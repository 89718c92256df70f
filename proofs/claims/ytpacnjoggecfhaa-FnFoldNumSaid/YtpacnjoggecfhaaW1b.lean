/- The other laws of chapter 1. -/
import Derived.Test.YtpacnjoggecfhaaI1b
import Derived.Test.YtpacnjoggecfhaaM1c
import Derived.Test.YtpacnjoggecfhaaD1
namespace Go.Proofs.Ytpacnjoggecfhaa
open Go.ChangeShapes Go.WideShapes Go.ChangeAt Go.RowKit M

theorem walk_FnNumSize (a0 : Option Addr) (len0 cap0 : Nat) (z0 : List Int) (w : World) (h0 : IsRow .u8 w a0 len0 cap0 z0) :
    Calls Try.prog 5 #[.slice a0 len0 cap0] w fun e w' => e = .returned (.bool true) ∧ Below w.heap.size w w' := by
  have H := Lib.hid h0; clear h0
  by_cases hl : len0 ≤ 1048576
  · go_enter Try.func5, Try.ntmps5
    go_wp2_with fail
    refine (drawNumSize H.out).mono ?_
    rintro e w1 ⟨⟨n, rfl⟩, hb⟩
    obtain ⟨s1, s2, s3⟩ := size_told n
    have S1 := Lib.hid s1; clear s1
    go_wp2_with (first | (go_at_call 21; refine (specNumSize _ _).mono ?_; rintro e w' ⟨rfl, hb⟩) | (go_at_call 17; refine (implNumSize _ _).mono ?_; rintro e w' ⟨rfl, hb⟩) | (go_at_call 14; refine (implNumPut _ _).mono ?_; rw [← S1.out]; rintro e w' ⟨rfl, hb⟩))
    go_ret
    exact ⟨rfl, by (repeat (first | exact Below.refl _ _ | apply below_drew | apply below_draws | apply below_alloc | (refine below_trans ?_ (by assumption)) | (refine Below.trans ?_ (by assumption))))⟩
  · go_enter Try.func5, Try.ntmps5
    go_wp2_with fail
    go_ret
    exact ⟨rfl, by (repeat (first | exact Below.refl _ _ | apply below_drew | apply below_draws | apply below_alloc | (refine below_trans ?_ (by assumption)) | (refine Below.trans ?_ (by assumption))))⟩
theorem walk_FnFoldNum (a0 : Option Addr) (len0 cap0 : Nat) (z0 : List Int) (w : World) (h0 : IsRow .u8 w a0 len0 cap0 z0) :
    Calls Try.prog 6 #[.slice a0 len0 cap0] w fun e w' => e = .returned (.bool true) ∧ Below w.heap.size w w' := by
  have H := Lib.hid h0; clear h0
  by_cases hl : len0 ≤ 1048576
  · go_enter Try.func6, Try.ntmps6
    go_wp2_with fail
    refine (drawFoldNum H.out).mono ?_
    rintro e w1 ⟨⟨n, rfl⟩, hb⟩
    cases hf : foldB n with
    | true =>
      obtain ⟨s1, s2, s3⟩ := open_fold n hf
      have S1 := Lib.hid (And.intro hf (And.intro s1 s2)); clear s1 s2 hf
      go_wp2_with (first | (go_at_call 24; refine (specFoldNum _ _).mono ?_; rw [S1.out.1]; rintro e w' ⟨rfl, rfl⟩) | (go_at_call 23; refine (implFoldNum _ _).mono ?_; rw [S1.out.1]; rintro e w' ⟨rfl, rfl⟩) | (go_at_call 25; refine (implOpenNum _ _).mono ?_; rw [S1.out.2.1, S1.out.2.2]; rintro e w' ⟨rfl, rfl⟩))
      go_ret
      exact ⟨rfl, by (repeat (first | exact Below.refl _ _ | apply below_drew | apply below_draws | apply below_alloc | (refine below_trans ?_ (by assumption)) | (refine Below.trans ?_ (by assumption))))⟩
    | false =>
      have S1 := Lib.hid hf; clear hf
      go_wp2_with (first | (go_at_call 24; refine (specFoldNum _ _).mono ?_; rw [S1.out]; rintro e w' ⟨rfl, rfl⟩) | (go_at_call 23; refine (implFoldNum _ _).mono ?_; rw [S1.out]; rintro e w' ⟨rfl, rfl⟩))
      go_ret
      exact ⟨rfl, by (repeat (first | exact Below.refl _ _ | apply below_drew | apply below_draws | apply below_alloc | (refine below_trans ?_ (by assumption)) | (refine Below.trans ?_ (by assumption))))⟩
  · go_enter Try.func6, Try.ntmps6
    go_wp2_with fail
    go_ret
    exact ⟨rfl, by (repeat (first | exact Below.refl _ _ | apply below_drew | apply below_draws | apply below_alloc | (refine below_trans ?_ (by assumption)) | (refine Below.trans ?_ (by assumption))))⟩
theorem walk_FnOpenNum (a0 : Option Addr) (len0 cap0 : Nat) (z0 : List Int) (w : World) (h0 : IsRow .u8 w a0 len0 cap0 z0) :
    Calls Try.prog 7 #[.slice a0 len0 cap0] w fun e w' => e = .returned (.bool true) ∧ Below w.heap.size w w' := by
  have H := Lib.hid h0; clear h0
  by_cases hl : len0 ≤ 1048576
  · go_enter Try.func7, Try.ntmps7
    go_wp2_with fail
    refine (drawOpenNum H.out).mono ?_
    rintro e w1 ⟨⟨n, rfl⟩, hb⟩
    cases hf : openB n with
    | true =>
      obtain ⟨s1, s2⟩ := fold_open n hf
      have S1 := Lib.hid (And.intro hf (And.intro s1 s2)); clear s1 s2 hf
      go_wp2_with (first | (go_at_call 27; refine (specOpenNum _ _).mono ?_; rw [S1.out.1]; rintro e w' ⟨rfl, rfl⟩) | (go_at_call 25; refine (implOpenNum _ _).mono ?_; rw [S1.out.1]; rintro e w' ⟨rfl, rfl⟩) | (go_at_call 23; refine (implFoldNum _ _).mono ?_; rw [S1.out.2.1, S1.out.2.2]; rintro e w' ⟨rfl, rfl⟩))
      go_ret
      exact ⟨rfl, by (repeat (first | exact Below.refl _ _ | apply below_drew | apply below_draws | apply below_alloc | (refine below_trans ?_ (by assumption)) | (refine Below.trans ?_ (by assumption))))⟩
    | false =>
      have S1 := Lib.hid hf; clear hf
      go_wp2_with (first | (go_at_call 27; refine (specOpenNum _ _).mono ?_; rw [S1.out]; rintro e w' ⟨rfl, rfl⟩) | (go_at_call 25; refine (implOpenNum _ _).mono ?_; rw [S1.out]; rintro e w' ⟨rfl, rfl⟩))
      go_ret
      exact ⟨rfl, by (repeat (first | exact Below.refl _ _ | apply below_drew | apply below_draws | apply below_alloc | (refine below_trans ?_ (by assumption)) | (refine Below.trans ?_ (by assumption))))⟩
  · go_enter Try.func7, Try.ntmps7
    go_wp2_with fail
    go_ret
    exact ⟨rfl, by (repeat (first | exact Below.refl _ _ | apply below_drew | apply below_draws | apply below_alloc | (refine below_trans ?_ (by assumption)) | (refine Below.trans ?_ (by assumption))))⟩
theorem walk_FnNumGet (a0 : Option Addr) (len0 cap0 : Nat) (z0 : List Int) (w : World) (h0 : IsRow .u8 w a0 len0 cap0 z0) :
    Calls Try.prog 4 #[.slice a0 len0 cap0] w fun e w' => e = .returned (.bool true) ∧ Below w.heap.size w w' := by
  have H := Lib.hid h0; clear h0
  by_cases hl : len0 ≤ 1048576
  · go_enter Try.func4, Try.ntmps4
    go_wp2_with fail
    refine (drawNumGet H.out).mono ?_
    rintro e w1 ⟨⟨l, hl10, rfl⟩, hb⟩
    have hs : (S l).size ≤ 2000000 := by rw [S_size]; omega
    have P := put_get l
    obtain ⟨g, hg⟩ : ∃ g, numGet l = g := ⟨_, rfl⟩
    rw [hg] at P
    have HG := Lib.hid hg; clear hg
    obtain ⟨n, r, ok⟩ := g
    cases ok with
    | true =>
      obtain ⟨p1, p2⟩ := P rfl
      have hlen : (numPut n).length + r.length ≤ 10 := by rw [← List.length_append, p2]; exact hl10
      have hcat : ∀ w, (Op.stringOp .add (S (numPut n)) (S r)).run Try.prog w = .ok (.string (S l)) w := fun w => by rw [cat_run _ _ (by omega), p2]
      have PP := Lib.hid p1; clear p1 p2 P
      go_wp2_with (first | (go_at_call 19; refine (specNumGet _ _ hs).mono ?_; rw [S_toList, HG.out]; rintro e w' ⟨rfl, hb⟩) | (go_at_call 16; refine (implNumGet _ _ hs).mono ?_; rw [S_toList, HG.out]; rintro e w' ⟨rfl, hb⟩) | (go_at_call 14; refine (implNumPut _ _).mono ?_; rw [PP.out]; rintro e w' ⟨rfl, hb⟩))
      go_ret
      exact ⟨rfl, by (repeat (first | exact Below.refl _ _ | apply below_drew | apply below_draws | apply below_alloc | (refine below_trans ?_ (by assumption)) | (refine Below.trans ?_ (by assumption))))⟩
    | false =>
      clear P
      go_wp2_with (first | (go_at_call 19; refine (specNumGet _ _ hs).mono ?_; rw [S_toList, HG.out]; rintro e w' ⟨rfl, hb⟩) | (go_at_call 16; refine (implNumGet _ _ hs).mono ?_; rw [S_toList, HG.out]; rintro e w' ⟨rfl, hb⟩))
      go_ret
      exact ⟨rfl, by (repeat (first | exact Below.refl _ _ | apply below_drew | apply below_draws | apply below_alloc | (refine below_trans ?_ (by assumption)) | (refine Below.trans ?_ (by assumption))))⟩
  · go_enter Try.func4, Try.ntmps4
    go_wp2_with fail
    go_ret
    exact ⟨rfl, by (repeat (first | exact Below.refl _ _ | apply below_drew | apply below_draws | apply below_alloc | (refine below_trans ?_ (by assumption)) | (refine Below.trans ?_ (by assumption))))⟩
end Go.Proofs.Ytpacnjoggecfhaa
