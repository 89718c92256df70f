/- Lemmas of this seat. -/
import Derived.Test.YtcjooeklehggaaaGreatDoorZPs
import Derived.Test.YtcjooeklehggaaaGreatDoorDAs
set_option linter.unusedVariables false
set_option linter.unusedSimpArgs false
set_option maxRecDepth 100000
namespace Go.Proofs.YtcjooeklehggaaaGreatDoor
open Go.ChangeShapes Go.WideShapes Go.ChangeAt Go.RowKit M
theorem fldS_len (l n : Bs) (tag : Int) : (f2 (fldS l n tag)).length ≤ 12 := by
 unfold fldS
 cases hof : ofS l with
 | none => simp [f2]
 | some X =>
  simp only
  cases hf : find X n with
  | none => simp [f2]
  | some t =>
   simp only
   cases hv : fieldT t tag with
   | none => simp [f2]
   | some f =>
    simp only
    split
    ·simp [f2]
    ·exact ((ofS_some hof).1 t (find_mem hf).1 |>.2.2.2.2 f (fieldT_mem hv)).2.2.2.2.1
set_option maxHeartbeats 4000000 in
theorem d_DrawValueSet {w : World} {ao : Option Addr} {len cap : Nat} {z : List Int} (h : IsRow .u8 w ao len cap z) :
  Calls Tryz.prog 27 #[.slice ao len cap] w (Drew5 6 w) := by
 have H := Lib.hid h; clear h
 go_enter Tryz.func27, Tryz.ntmps27
 go_wp2_with fail
 refine (l6open_any H.out).mono ?_
 rintro e w1 ⟨len', rfl, hr, rfl⟩
 have HR := Lib.hid hr; clear hr
 go_wp2_with fail
 refine (l91Three (HR.out.below (by (repeat (first | exact Below.refl _ _ | apply below_drew | apply below_draws | apply below_alloc | (refine below_trans ?_ (by assumption)) | (refine Below.trans ?_ (by assumption)))))) (by omega)).mono ?_
 rintro e w2 ⟨l, k, s, p2, rfl, hl, hk, hs, hp, HR2, hg2⟩
 have HG2 := Lib.hid hg2; clear hg2
 have hsz : w.heap.size + 1 ≤ w2.heap.size := by have := HG2.out.size; simpa using this
 go_wp2_with fail
 refine (pick_g HR2.out (by omega) _ (by omega) (by omega)).mono ?_
 rintro e w3 ⟨g, rfl, g0, g1, HR3, hz3, hc3, hf3, hg3⟩
 have HG3 := Lib.hid (only_trans HG2.out hg3.out)
 have hlt3 := HR3.out.lt
 have n3 : ¬ w3.heap.size = w.heap.size := by omega
 have hs3 : w.heap.size + 1 ≤ w3.heap.size := by omega
 clear hg3 hc3 hf3 hz3
 go_wp2_with fail
 refine (pick_g (HR3.out.below (by (repeat (first | exact Below.refl _ _ | apply below_drew | apply below_draws | apply below_alloc | (refine below_trans ?_ (by assumption)) | (refine Below.trans ?_ (by assumption)))))) (by omega) _ (by omega) (by omega)).mono ?_
 rintro e w4 ⟨u, rfl, u0, u1, HR4, hz4, hc4, hf4, hg4⟩
 obtain ⟨y, hy, hy'⟩ := idxS [[53], [48], [121, 101, 115], [110, 111], [39, 104, 105, 39], [39, 39], [91, 93], [45], [123, 125]] u u0 u1
 have hy2 : ∀ h, ([.string { data := #[53] }, .string { data := #[48] }, .string { data := #[121, 101, 115] }, .string { data := #[110, 111] }, .string { data := #[39, 104, 105, 39] }, .string { data := #[39, 39] }, .string { data := #[91, 93] }, .string { data := #[45] }, .string { data := #[123, 125] }] : List Value)[u.toNat]'h = .string (S y) := hy'
 have hyl : y.length ≤ 4 := by simp at hy; rcases hy with rfl | rfl | rfl | rfl | rfl | rfl | rfl | rfl | rfl <;> simp
 have HG4 := Lib.hid (only_trans (only_alloc HG3.out _) hg4.out)
 have hs4 : w.heap.size + 1 ≤ w4.heap.size := by have := hg4.out.size; simp at this; omega
 clear hy hy' hg4 hz4
 have HG4' := Lib.hid (show (w.alloc (.cells #[.slice ao len' cap, .int .i64 0] 105)).grownBy w4 (some w.heap.size) from HG4.out)
 have HFIN := Lib.hid (fun (W : World) (u : Bs) (hu : u.length ≤ 700000) (hg : (w.alloc (.cells #[.slice ao len' cap, .int .i64 0] 105)).grownBy W (some w.heap.size)) =>
  (⟨l, k, s, g, u, rfl, hl, by omega, hs, g0, g1, hu, (below_alloc (Below.refl _ w) _).trans (below_of_only hg (Nat.le_refl _) (by simp))⟩ : Drew5 6 w (.returned (.tuple #[.string (S l), .string (S k), .string (S s), .int .i64 g, .string (S u)])) W))
 by_cases h3 : k.length = 3
 case neg =>
  have h3' : ¬ ((k.length : Int) = 3) := by omega
  go_wp2_with fail
  refine bodyPost_ret (results_tmp5d rfl _ _ _) rfl ?_
  exact HFIN.out _ y (by omega) HG4.out
 have h3' : (k.length : Int) = 3 := by omega
 have hk0 : 0 < k.length := by omega
 by_cases h64 : at_ k 0 = 64
 case neg =>
  have e64 : (at_ k 0 == 64) = false := by simp [h64]
  go_wp2_with fail
  refine bodyPost_ret (results_tmp5d rfl _ _ _) rfl ?_
  exact HFIN.out _ y (by omega) HG4.out
 have e64 : (at_ k 0 == 64) = true := by simp [h64]
 have HKF := Lib.hid (fun (n : Bs) (w : World) => (k_SchemaField l n g w (by omega)).mono (fun e w' he => (⟨_, _, _, _, fldS_len l n g, he.1, he.2⟩ : ∃ (r1 r2 r3 : Bs) (ok : Bool), r2.length ≤ 12 ∧ e = .returned (.tuple #[.string (S r1), .string (S r2), .string (S r3), .bool ok]) ∧ Below w.heap.size w w')))
 go_wp2_with fail
 clear hy2 hc4 hf4
 refine (pick_g HR4.out (by omega) _ (by omega) (by omega)).mono ?_
 rintro e w5 ⟨m, rfl, m0, m1, HR5, hz5, hc5, hf5, hg5⟩
 have HG5 := Lib.hid (only_trans HG4.out hg5.out)
 clear hg5 hc5 hf5 hz5
 by_cases hm : 0 < m
 case neg =>
  go_wp2_with fail
  refine bodyPost_ret (results_tmp5d rfl _ _ _) rfl ?_
  exact HFIN.out _ y (by omega) HG5.out
 go_wp2_with fail
 refine (HKF.out _ _).mono ?_
 rintro e w6 ⟨r1, r2, r3, ok, hr2, rfl, hb6⟩
 have HR6 := Lib.hid (HR5.out.below hb6)
 have HG6 := Lib.hid (only_beh HG5.out hb6)
 clear hb6 HKF
 cases ok with
 | false =>
  go_wp2_with fail
  refine bodyPost_ret (results_tmp5d rfl _ _ _) rfl ?_
  exact HFIN.out _ y (by omega) HG6.out
 | true =>
  by_cases hn : r2 = []
  ·subst hn
   go_wp2_with fail
   refine bodyPost_ret (results_tmp5d rfl _ _ _) rfl ?_
   exact HFIN.out _ y (by omega) HG6.out
  ·have q1 : (r2 == []) = false := by simpa using hn
   have q2 : r2.isEmpty = false := by simpa using hn
   have q3 : (r2 != []) = true := by simpa using hn
   go_wp2_with fail
   refine (l91Of l r2 (by omega) (by omega) HR6.out (by omega)).mono ?_
   rintro e w7 ⟨u', p7, rfl, hu, hp7, hp7', HR7, hg7⟩
   have HG7 := Lib.hid (only_trans HG6.out hg7)
   clear hg7
   go_wp2_with fail
   refine bodyPost_ret (results_tmp5d rfl _ _ _) rfl ?_
   exact HFIN.out _ u' hu HG7.out
end Go.Proofs.YtcjooeklehggaaaGreatDoor
