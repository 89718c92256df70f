/- What the laws of chapter 1 draw. -/
import Derived.Test.YtpacnjoggecfhaaR1
import Derived.Test.YtpacnjoggecfhaaS1
namespace Go.Proofs.Ytpacnjoggecfhaa
open Go.ChangeShapes Go.WideShapes Go.ChangeAt Go.RowKit M

theorem drawNumSize {w : World} {ao : Option Addr} {len cap : Nat} {z : List Int} (h : IsRow .u8 w ao len cap z) :
    Calls Try.prog 20 #[.slice ao len cap] w fun e w' => (∃ n : Int, e = .returned (.int .i64 n)) ∧ Below w.heap.size w w' := by
  have H := Lib.hid h; clear h
  go_enter Try.func20, Try.ntmps20
  go_wp2_with fail
  refine (l6open_any H.out).mono ?_
  rintro e w1 ⟨len', rfl, hr, rfl⟩
  have HR := Lib.hid hr; clear hr
  go_wp2_with fail
  refine (pick_abs (HR.out.below (by (repeat (first | exact Below.refl _ _ | apply below_drew | apply below_draws | apply below_alloc | (refine below_trans ?_ (by assumption)) | (refine Below.trans ?_ (by assumption)))))) (by omega) _ (by omega) (by omega)).mono ?_
  rintro e w2 ⟨v, rfl, v0, v1, HR2, hz, hc, hf, hb⟩
  obtain ⟨x, hx⟩ := idxI [0, 127, 128, 16383, 16384, 999999, 1000000, -1] v v0 v1
  have hx' : ∀ h, ([.int .i64 0, .int .i64 127, .int .i64 128, .int .i64 16383, .int .i64 16384, .int .i64 999999, .int .i64 1000000, .int .i64 (-1)] : List Value)[v.toNat]'h = .int .i64 x := hx
  clear hx
  go_wp2_with fail
  go_ret
  exact ⟨⟨_, rfl⟩, by (repeat (first | exact Below.refl _ _ | apply below_drew | apply below_draws | apply below_alloc | (refine below_trans ?_ (by assumption)) | (refine Below.trans ?_ (by assumption))))⟩

theorem drawFoldNum {w : World} {ao : Option Addr} {len cap : Nat} {z : List Int} (h : IsRow .u8 w ao len cap z) :
    Calls Try.prog 22 #[.slice ao len cap] w fun e w' => (∃ n : Int, e = .returned (.int .i64 n)) ∧ Below w.heap.size w w' := by
  have H := Lib.hid h; clear h
  go_enter Try.func22, Try.ntmps22
  go_wp2_with fail
  refine (l6open_any H.out).mono ?_
  rintro e w1 ⟨len', rfl, hr, rfl⟩
  have HR := Lib.hid hr; clear hr
  go_wp2_with fail
  refine (pick_abs (HR.out.below (by (repeat (first | exact Below.refl _ _ | apply below_drew | apply below_draws | apply below_alloc | (refine below_trans ?_ (by assumption)) | (refine Below.trans ?_ (by assumption)))))) (by omega) _ (by omega) (by omega)).mono ?_
  rintro e w2 ⟨u, rfl, u0, u1, HR2, hz, hc, hf, hb⟩
  go_wp2_with fail
  refine (pick_abs (HR2.out.below (by (repeat (first | exact Below.refl _ _ | apply below_drew | apply below_draws | apply below_alloc | (refine below_trans ?_ (by assumption)) | (refine Below.trans ?_ (by assumption)))))) (by omega) _ (by omega) (by omega)).mono ?_
  rintro e w3 ⟨v, rfl, v0, v1, HR3, hz3, hc3, hf3, hb3⟩
  obtain ⟨x, hx⟩ := idxI [0, -1, 1, 499999, -499999, 500000, -500000, u - 128] v v0 v1
  have hx' : ∀ h, ([.int .i64 0, .int .i64 (-1), .int .i64 1, .int .i64 499999, .int .i64 (-499999), .int .i64 500000, .int .i64 (-500000), .int .i64 (u - 128)] : List Value)[v.toNat]'h = .int .i64 x := hx
  clear hx
  go_wp2_with fail
  go_ret
  exact ⟨⟨_, rfl⟩, by (repeat (first | exact Below.refl _ _ | apply below_drew | apply below_draws | apply below_alloc | (refine below_trans ?_ (by assumption)) | (refine Below.trans ?_ (by assumption))))⟩
theorem drawOpenNum {w : World} {ao : Option Addr} {len cap : Nat} {z : List Int} (h : IsRow .u8 w ao len cap z) :
    Calls Try.prog 26 #[.slice ao len cap] w fun e w' => (∃ n : Int, e = .returned (.int .i64 n)) ∧ Below w.heap.size w w' := by
  have H := Lib.hid h; clear h
  go_enter Try.func26, Try.ntmps26
  go_wp2_with fail
  refine (l6open_any H.out).mono ?_
  rintro e w1 ⟨len', rfl, hr, rfl⟩
  have HR := Lib.hid hr; clear hr
  go_wp2_with fail
  refine (pick_abs (HR.out.below (by (repeat (first | exact Below.refl _ _ | apply below_drew | apply below_draws | apply below_alloc | (refine below_trans ?_ (by assumption)) | (refine Below.trans ?_ (by assumption)))))) (by omega) _ (by omega) (by omega)).mono ?_
  rintro e w2 ⟨u, rfl, u0, u1, HR2, hz, hc, hf, hb⟩
  go_wp2_with fail
  refine (pick_abs (HR2.out.below (by (repeat (first | exact Below.refl _ _ | apply below_drew | apply below_draws | apply below_alloc | (refine below_trans ?_ (by assumption)) | (refine Below.trans ?_ (by assumption)))))) (by omega) _ (by omega) (by omega)).mono ?_
  rintro e w3 ⟨v, rfl, v0, v1, HR3, hz3, hc3, hf3, hb3⟩
  obtain ⟨x, hx⟩ := idxI [0, 1, 2, 999998, 999997, 999999, -1, u] v v0 v1
  have hx' : ∀ h, ([.int .i64 0, .int .i64 1, .int .i64 2, .int .i64 999998, .int .i64 999997, .int .i64 999999, .int .i64 (-1), .int .i64 u] : List Value)[v.toNat]'h = .int .i64 x := hx
  clear hx
  go_wp2_with fail
  go_ret
  exact ⟨⟨_, rfl⟩, by (repeat (first | exact Below.refl _ _ | apply below_drew | apply below_draws | apply below_alloc | (refine below_trans ?_ (by assumption)) | (refine Below.trans ?_ (by assumption))))⟩
theorem drawNumPut {w : World} {ao : Option Addr} {len cap : Nat} {z : List Int} (h : IsRow .u8 w ao len cap z) :
    Calls Try.prog 13 #[.slice ao len cap] w fun e w' => (∃ n : Int, e = .returned (.int .i64 n)) ∧ Below w.heap.size w w' := by
  have H := Lib.hid h; clear h
  go_enter Try.func13, Try.ntmps13
  go_wp2_with fail
  refine (l6open_any H.out).mono ?_
  rintro e w1 ⟨len', rfl, hr, rfl⟩
  have HR := Lib.hid hr; clear hr
  go_wp2_with fail
  refine (pick_abs (HR.out.below (by (repeat (first | exact Below.refl _ _ | apply below_drew | apply below_draws | apply below_alloc | (refine below_trans ?_ (by assumption)) | (refine Below.trans ?_ (by assumption)))))) (by omega) _ (by omega) (by omega)).mono ?_
  rintro e w2 ⟨u, rfl, u0, u1, HR2, hz, hc, hf, hb⟩
  go_wp2_with fail
  refine (pick_abs (HR2.out.below (by (repeat (first | exact Below.refl _ _ | apply below_drew | apply below_draws | apply below_alloc | (refine below_trans ?_ (by assumption)) | (refine Below.trans ?_ (by assumption)))))) (by omega) _ (by omega) (by omega)).mono ?_
  rintro e w3 ⟨t, rfl, t0, t1, HR3, hz3, hc3, hf3, hb3⟩
  have m0 : 0 ≤ u * t := Int.mul_nonneg u0 t0
  have m1 : u * t ≤ 256 * 256 := Int.mul_le_mul (by omega) (by omega) t0 (by omega)
  go_wp2_with fail
  refine (pick_abs (HR3.out.below (by (repeat (first | exact Below.refl _ _ | apply below_drew | apply below_draws | apply below_alloc | (refine below_trans ?_ (by assumption)) | (refine Below.trans ?_ (by assumption)))))) (by omega) _ (by omega) (by omega)).mono ?_
  rintro e w4 ⟨v, rfl, v0, v1, HR4, hz4, hc4, hf4, hb4⟩
  obtain ⟨x, hx⟩ := idxI [0, 127, 128, 16383, 16384, 999999, 1000000, -1, u * t] v v0 v1
  have hx' : ∀ h, ([.int .i64 0, .int .i64 127, .int .i64 128, .int .i64 16383, .int .i64 16384, .int .i64 999999, .int .i64 1000000, .int .i64 (-1), .int .i64 (u * t)] : List Value)[v.toNat]'h = .int .i64 x := hx
  clear hx
  go_wp2_with fail
  go_ret
  exact ⟨⟨_, rfl⟩, by (repeat (first | exact Below.refl _ _ | apply below_drew | apply below_draws | apply below_alloc | (refine below_trans ?_ (by assumption)) | (refine Below.trans ?_ (by assumption))))⟩

theorem numPut_len (n : Int) : (numPut n).length ≤ 3 := by
  unfold numPut numBytes
  split
  · split
    · simp
    · split <;> simp
  · simp
theorem drawNumGet {w : World} {ao : Option Addr} {len cap : Nat} {z : List Int} (h : IsRow .u8 w ao len cap z) :
    Calls Try.prog 18 #[.slice ao len cap] w fun e w' => (∃ l : List UInt8, l.length ≤ 10 ∧ e = .returned (.string (S l))) ∧ Below w.heap.size w w' := by
  have H := Lib.hid h; clear h
  go_enter Try.func18, Try.ntmps18
  go_wp2_with fail
  refine (l6open_any H.out).mono ?_
  rintro e w1 ⟨len', rfl, hr, rfl⟩
  have HR := Lib.hid hr; clear hr
  go_wp2_with fail
  refine (pick_abs (HR.out.below (by (repeat (first | exact Below.refl _ _ | apply below_drew | apply below_draws | apply below_alloc | (refine below_trans ?_ (by assumption)) | (refine Below.trans ?_ (by assumption)))))) (by omega) _ (by omega) (by omega)).mono ?_
  rintro e w2 ⟨u, rfl, u0, u1, HR2, hz, hc, hf, hb⟩
  go_wp2_with fail
  refine (pick_abs (HR2.out.below (by (repeat (first | exact Below.refl _ _ | apply below_drew | apply below_draws | apply below_alloc | (refine below_trans ?_ (by assumption)) | (refine Below.trans ?_ (by assumption)))))) (by omega) _ (by omega) (by omega)).mono ?_
  rintro e w3 ⟨t, rfl, t0, t1, HR3, hz3, hc3, hf3, hb3⟩
  have m0 : 0 ≤ u * t := Int.mul_nonneg u0 t0
  have m1 : u * t ≤ 256 * 256 := Int.mul_le_mul (by omega) (by omega) t0 (by omega)
  go_wp2_with fail
  refine (specNumPut _ _).mono ?_
  rintro e w4 ⟨rfl, hb4⟩
  have g4 : w.heap.size < w4.heap.size := by have := hb4.size; simp [hz3, hz] at this; omega
  have n0 : ¬ w4.heap.size = w.heap.size := by omega
  have n1 : ¬ w4.heap.size + 1 = w.heap.size := by omega
  have hl := numPut_len (u * t)
  generalize numPut (u * t) = L at *
  go_wp2_with fail
  refine (pick_abs (HR3.out.below (by (repeat (first | exact Below.refl _ _ | apply below_drew | apply below_draws | apply below_alloc | (refine below_trans ?_ (by assumption)) | (refine Below.trans ?_ (by assumption)))))) (by omega) _ (by omega) (by omega)).mono ?_
  rintro e w5 ⟨v, rfl, v0, v1, HR5, hz5, hc5, hf5, hb5⟩
  by_cases hv : v = 0
  · subst hv
    go_wp2_with fail
    refine (pick_abs (HR5.out.below (by (repeat (first | exact Below.refl _ _ | apply below_drew | apply below_draws | apply below_alloc | (refine below_trans ?_ (by assumption)) | (refine Below.trans ?_ (by assumption)))))) (by omega) _ (by omega) (by omega)).mono ?_
    rintro e w6 ⟨x, rfl, x0, x1, HR6, hz6, hc6, hf6, hb6⟩
    go_wp2_with fail
    refine (pick_abs (HR6.out.below (by (repeat (first | exact Below.refl _ _ | apply below_drew | apply below_draws | apply below_alloc | (refine below_trans ?_ (by assumption)) | (refine Below.trans ?_ (by assumption)))))) (by omega) _ (by omega) (by omega)).mono ?_
    rintro e w7 ⟨y, rfl, y0, y1, HR7, hz7, hc7, hf7, hb7⟩
    go_wp2_with fail
    refine (pick_abs (HR7.out.below (by (repeat (first | exact Below.refl _ _ | apply below_drew | apply below_draws | apply below_alloc | (refine below_trans ?_ (by assumption)) | (refine Below.trans ?_ (by assumption)))))) (by omega) _ (by omega) (by omega)).mono ?_
    rintro e w8 ⟨zz, rfl, z0, z1, HR8, hz8, hc8, hf8, hb8⟩
    have k1 := conv3
    have k2 := cellIs_some
    have k3 := cellB_some
    go_wp2_with fail
    clear k1 k2 k3
    refine (pick_abs (HR8.out.below (by (repeat (first | exact Below.refl _ _ | apply below_drew | apply below_draws | apply below_alloc | (refine below_trans ?_ (by assumption)) | (refine Below.trans ?_ (by assumption)))))) (by omega) _ (by omega) (by omega)).mono ?_
    rintro e w9 ⟨r, rfl, r0, r1, HR9, hz9, hc9, hf9, hb9⟩
    obtain ⟨q, hq, hx⟩ := idxS [[], [120]] r r0 r1
    have hx' : ∀ h, ([.string { data := #[] }, .string { data := #[120] }] : List Value)[r.toNat]'h = .string (S q) := hx
    have hql : q.length ≤ 1 := by simp at hq; rcases hq with rfl | rfl <;> simp
    have hcat := cat_run [B8 x, B8 y, B8 zz] q (by simp; omega)
    clear hx hq
    go_wp2_with fail
    go_ret
    exact ⟨⟨_, by simp; omega, rfl⟩, by (repeat (first | exact Below.refl _ _ | apply below_drew | apply below_draws | apply below_alloc | (refine below_trans ?_ (by assumption)) | (refine Below.trans ?_ (by assumption))))⟩
  · have hv' : (v == 0) = false := by simp [hv]
    have HV := Lib.hid hv; clear hv
    go_wp2_with fail
    refine (pick_abs (HR5.out.below (by (repeat (first | exact Below.refl _ _ | apply below_drew | apply below_draws | apply below_alloc | (refine below_trans ?_ (by assumption)) | (refine Below.trans ?_ (by assumption)))))) (by omega) _ (by omega) (by omega)).mono ?_
    rintro e w9 ⟨r, rfl, r0, r1, HR9, hz9, hc9, hf9, hb9⟩
    obtain ⟨q, hq, hx⟩ := idxS [[], [120]] r r0 r1
    have hx' : ∀ h, ([.string { data := #[] }, .string { data := #[120] }] : List Value)[r.toNat]'h = .string (S q) := hx
    have hql : q.length ≤ 1 := by simp at hq; rcases hq with rfl | rfl <;> simp
    have hcat := cat_run L q (by omega)
    clear hx hq
    go_wp2_with fail
    go_ret
    exact ⟨⟨_, by simp; omega, rfl⟩, by (repeat (first | exact Below.refl _ _ | apply below_drew | apply below_draws | apply below_alloc | (refine below_trans ?_ (by assumption)) | (refine Below.trans ?_ (by assumption))))⟩
end Go.Proofs.Ytpacnjoggecfhaa
