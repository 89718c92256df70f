/- Lemmas of this seat. -/
import Derived.Test.YtcjooeklehggaaaGreatDoorZBs
import Derived.Test.YtcjooeklehggaaaGreatDoorZCs
set_option linter.unusedVariables false
set_option linter.unusedSimpArgs false
set_option maxRecDepth 100000
namespace Go.Proofs.YtcjooeklehggaaaGreatDoor
open Go.ChangeShapes Go.WideShapes Go.ChangeAt Go.RowKit M
def fv (f : Fl) : Value := .agg #[.int .i64 f.tag, .string (S f.name), .string (S f.kind), .string (S f.stand)]
def RetF (w : World) (o : Option Fl) (e : Ending) (w' : World) : Prop := ∃ f : Fl, e = .returned (.tuple #[fv f, .bool o.isSome]) ∧ (∀ x, o = some x → f = x) ∧ Below w.heap.size w w'
theorem Strs.some {w : World} {B : Nat} {v : Value} {L : List (List UInt8)} (h : Strs w B v L) (hn : L ≠ []) : ∃ g cap, v = .slice (some ⟨g, 0, none⟩) L.length cap ∧ L.length ≤ cap ∧ B ≤ g ∧ g < w.heap.size := by
 obtain ⟨ao, cap, rfl, hc, ⟨_, h0⟩ | ⟨g, rfl, h1, h2⟩⟩ := h.form
 ·exact absurd h0 hn
 ·exact ⟨g, cap, rfl, hc, h1, h2⟩
theorem RetF.no {w w' : World} {o : Option Fl} (f : Fl) (h : o = none) (hb : Below w.heap.size w w') : RetF w o (.returned (.tuple #[fv f, .bool false])) w' := ⟨f, by rw [h]; rfl, (by rw [h]; intro x hx; cases hx), hb⟩
theorem RetF.yes {w w' : World} {o : Option Fl} (f : Fl) (h : o = some f) (hb : Below w.heap.size w w') : RetF w o (.returned (.tuple #[fv f, .bool true])) w' := ⟨f, by rw [h]; rfl, (by rw [h]; intro x hx; injection hx), hb⟩
theorem RetF.of_if {w w' : World} {o : Option Fl} {b : Bool} (f : Fl) (h : o = if b = true then some f else none) (hb : Below w.heap.size w w') : RetF w o (.returned (.tuple #[fv f, .bool b])) w' := by
 cases b with
 | true => exact RetF.yes f (by simpa using h) hb
 | false => exact RetF.no f (by simpa using h) hb
set_option maxHeartbeats 40000000 in
theorem k_l3ReadField (l : List UInt8) (c : Int) (w : World) (hs : l.length ≤ 1000000) (c0 : 0 ≤ c) (c1 : c < 256) :
  Calls Tryz.prog 118 #[.string (S l), .int .u8 c] w (RetF w (readField l c)) := by
 have hne := cutL_ne 58 l
 have h0 := cutL_get 58 l 0
 have h1 := cutL_get 58 l 1
 have h2 := cutL_get 58 l 2
 unfold readField
 have HC := Lib.hid (fun w => k_l3Cut l 58 w (by omega) (by omega) (by omega))
 generalize cutL 58 l = L at *
 have HC2 := Lib.hid (fun w => k_l3Cut (L.getD 2 []) 61 w (by omega) (by omega) (by omega))
 have HNE2 := Lib.hid (cutL_ne 61 (L.getD 2 []))
 have hb0 := cutL_get 61 (L.getD 2 []) 0
 have hb1 := cutL_get 61 (L.getD 2 []) 1
 generalize cutL 61 (L.getD 2 []) = K at *
 have HNE := Lib.hid hne; clear hne
 obtain ⟨o, ho⟩ : ∃ o, fieldOf L K c = o := ⟨_, rfl⟩
 rw [ho]
 have HO := Lib.hid ho; clear ho
 go_enter Tryz.func118, Tryz.ntmps118
 go_wp2_with fail
 refine (HC.out _).mono ?_
 rintro e w1 ⟨v, rfl, hS, hb⟩
 obtain ⟨g, cap, rfl, hcap, hg1, hg2⟩ := hS.some HNE.out
 have HS := Lib.hid hS; clear hS
 have HK1 := Lib.hid ((Blk.new w 65 #[.int .i64 0, .string { data := #[] }, .string { data := #[] }, .string { data := #[] }]).keep hb)
 obtain ⟨n, hn⟩ : ∃ n, L.length = n := ⟨_, rfl⟩
 rw [hn] at hcap HS ⊢
 have HN := Lib.hid hn; clear hn
 have hw0 : w.heap.size < w1.heap.size := by have := hb.size; simp at this; omega
 by_cases c69 : c = 69
 ·subst c69
  by_cases hn2 : n = 2
  ·subst hn2
   have x0 := HS.out.cell 0 (by rw [HN.out]; omega)
   have x1 := HS.out.cell 1 (by rw [HN.out]; omega)
   obtain ⟨p0, hp0⟩ : ∃ p, L.getD 0 [] = p := ⟨_, rfl⟩
   obtain ⟨p1, hp1⟩ : ∃ p, L.getD 1 [] = p := ⟨_, rfl⟩
   rw [hp0] at x0 h0
   rw [hp1] at x1 h1
   have HP := Lib.hid (And.intro hp0 hp1); clear hp0 hp1
   go_wp2_with fail
   refine (k_l3Num p0 200 _ (by omega) (by omega) (by omega)).mono ?_
   rintro e w2 ⟨tag, rfl, htag, hb2⟩
   have hw2 : w1.heap.size ≤ w2.heap.size := hb2.size
   have HK2 := Lib.hid (HK1.out.keep hb2)
   have k0 : w2.cell? ⟨w.heap.size, 0, none⟩ = some (.int .i64 0) := HK2.out.cell 0
   have k1 : w2.cell? ⟨w.heap.size, 1, none⟩ = some (.string { data := #[] }) := HK2.out.cell 1
   have k2 : w2.cell? ⟨w.heap.size, 2, none⟩ = some (.string { data := #[] }) := HK2.out.cell 2
   have k3 : w2.cell? ⟨w.heap.size, 3, none⟩ = some (.string { data := #[] }) := HK2.out.cell 3
   have f0 := HK2.out.frozen 0
   have f1 := HK2.out.frozen 1
   have f2 := HK2.out.frozen 2
   have f3 := HK2.out.frozen 3
   have hlt2 : w.heap.size < w2.heap.size := by omega
   have hg3 : g < w2.heap.size := by omega
   have hne : ¬ w2.heap.size = w.heap.size := by omega
   have hneg : ¬ w2.heap.size = g := by omega
   have hne' : ¬ w.heap.size = w2.heap.size := by omega
   have y1 : w2.cell? ⟨g, 1, none⟩ = some (.string (S p1)) := by rw [← x1]; exact hb2.cell (p := ⟨g, 1, none⟩) hg2
   cases hnm : numL p0 200 with
   | none =>
    have HF := Lib.hid (HO.out.symm.trans (field_num (by rw [HP.out.1]; exact hnm)))
    clear hnm htag
    go_wp2_with fail
    refine bodyPost_ret (v := .tuple #[fv ⟨tag, p1, [], []⟩, .bool false]) ?_ rfl ?_
    ·simp [results, Tryz.results118, go_sem, fv, k0, k1, k2, k3, f0, f1, f2, f3, hlt2, hne, hne']; rfl
    ·exact RetF.no _ HF.out (by (repeat (first | with_reducible exact Below.refl _ _ | with_reducible apply below_drew | with_reducible apply below_draws | with_reducible apply below_alloc | with_reducible apply below_set | (with_reducible refine below_trans ?_ (by assumption)) | (with_reducible refine Below.trans ?_ (by assumption)) | exact Nat.le_refl _ | omega | (simp <;> omega))))
   | some x =>
    obtain rfl : tag = x := htag x hnm
    clear htag
    have HX := Lib.hid (show numL (L.getD 0 []) 200 = some tag by rw [HP.out.1]; exact hnm)
    clear hnm
    by_cases ht1 : tag < 1
    ·have HF := Lib.hid (HO.out.symm.trans (field_bad HX.out (fun h => by omega)))
     go_wp2_with fail
     refine bodyPost_ret (v := .tuple #[fv ⟨tag, p1, [], []⟩, .bool false]) ?_ rfl ?_
     ·simp [results, Tryz.results118, go_sem, fv, k0, k1, k2, k3, f0, f1, f2, f3, hlt2, hne, hne']; rfl
     ·exact RetF.no _ HF.out (by (repeat (first | with_reducible exact Below.refl _ _ | with_reducible apply below_drew | with_reducible apply below_draws | with_reducible apply below_alloc | with_reducible apply below_set | (with_reducible refine below_trans ?_ (by assumption)) | (with_reducible refine Below.trans ?_ (by assumption)) | exact Nat.le_refl _ | omega | (simp <;> omega))))
    ·cases hnn : isName p1 with
     | false =>
      have HF := Lib.hid (HO.out.symm.trans (field_bad HX.out (fun h => by rw [HP.out.2, hnn] at h; cases h.2)))
      have HNN := Lib.hid hnn; clear hnn
      go_wp2_with (go_at_call 98; refine (k_l2Name p1 _ (by omega)).mono ?_; rw [HNN.out]; rintro e w' ⟨rfl, rfl⟩)
      refine bodyPost_ret (v := .tuple #[fv ⟨tag, p1, [], []⟩, .bool false]) ?_ rfl ?_
      ·simp [results, Tryz.results118, go_sem, fv, k0, k1, k2, k3, f0, f1, f2, f3, hlt2, hne, hne']; rfl
      ·exact RetF.no _ HF.out (by (repeat (first | with_reducible exact Below.refl _ _ | with_reducible apply below_drew | with_reducible apply below_draws | with_reducible apply below_alloc | with_reducible apply below_set | (with_reducible refine below_trans ?_ (by assumption)) | (with_reducible refine Below.trans ?_ (by assumption)) | exact Nat.le_refl _ | omega | (simp <;> omega))))
     | true =>
      have HF := Lib.hid (HO.out.symm.trans (field_E HN.out HX.out ⟨by omega, by rw [HP.out.2]; exact hnn⟩))
      rw [HP.out.2] at HF
      have HNN := Lib.hid hnn; clear hnn
      go_wp2_with (go_at_call 98; refine (k_l2Name p1 _ (by omega)).mono ?_; rw [HNN.out]; rintro e w' ⟨rfl, rfl⟩)
      refine bodyPost_ret (v := .tuple #[fv ⟨tag, p1, [], []⟩, .bool true]) ?_ rfl ?_
      ·simp [results, Tryz.results118, go_sem, fv, k0, k1, k2, k3, f0, f1, f2, f3, hlt2, hne, hne']; rfl
      ·exact RetF.yes _ HF.out (by (repeat (first | with_reducible exact Below.refl _ _ | with_reducible apply below_drew | with_reducible apply below_draws | with_reducible apply below_alloc | with_reducible apply below_set | (with_reducible refine below_trans ?_ (by assumption)) | (with_reducible refine Below.trans ?_ (by assumption)) | exact Nat.le_refl _ | omega | (simp <;> omega))))
  ·have HF := Lib.hid (HO.out.symm.trans (field_len (by rw [HN.out, if_pos rfl]; exact hn2)))
   have hn2' : ((n : Int) != 2) = true := by simp; omega
   clear hn2
   have k0 : w1.cell? ⟨w.heap.size, 0, none⟩ = some (.int .i64 0) := HK1.out.cell 0
   have k1 : w1.cell? ⟨w.heap.size, 1, none⟩ = some (.string { data := #[] }) := HK1.out.cell 1
   have k2 : w1.cell? ⟨w.heap.size, 2, none⟩ = some (.string { data := #[] }) := HK1.out.cell 2
   have k3 : w1.cell? ⟨w.heap.size, 3, none⟩ = some (.string { data := #[] }) := HK1.out.cell 3
   have f0 := HK1.out.frozen 0
   have f1 := HK1.out.frozen 1
   have f2 := HK1.out.frozen 2
   have f3 := HK1.out.frozen 3
   by_cases hn3 : n = 3
   ·subst hn3
    go_wp2_with fail
    refine bodyPost_ret (v := .tuple #[fv ⟨0, [], [], []⟩, .bool false]) ?_ rfl ?_
    ·simp [results, Tryz.results118, go_sem, fv, k0, k1, k2, k3, f0, f1, f2, f3]; rfl
    ·exact RetF.no _ HF.out (by (repeat (first | with_reducible exact Below.refl _ _ | with_reducible apply below_drew | with_reducible apply below_draws | with_reducible apply below_alloc | with_reducible apply below_set | (with_reducible refine below_trans ?_ (by assumption)) | (with_reducible refine Below.trans ?_ (by assumption)) | exact Nat.le_refl _ | omega | (simp <;> omega))))
   ·have hn3' : ((n : Int) != 3) = true := by simp; omega
    clear hn3
    go_wp2_with fail
    refine bodyPost_ret (v := .tuple #[fv ⟨0, [], [], []⟩, .bool false]) ?_ rfl ?_
    ·simp [results, Tryz.results118, go_sem, fv, k0, k1, k2, k3, f0, f1, f2, f3]; rfl
    ·exact RetF.no _ HF.out (by (repeat (first | with_reducible exact Below.refl _ _ | with_reducible apply below_drew | with_reducible apply below_draws | with_reducible apply below_alloc | with_reducible apply below_set | (with_reducible refine below_trans ?_ (by assumption)) | (with_reducible refine Below.trans ?_ (by assumption)) | exact Nat.le_refl _ | omega | (simp <;> omega))))
 ·have b69 : (c == 69) = false := by simp [c69]
  have b69' : (c != 69) = true := by simp [c69]
  by_cases hn3 : n = 3
  ·subst hn3
   have x0 := HS.out.cell 0 (by rw [HN.out]; omega)
   have x1 := HS.out.cell 1 (by rw [HN.out]; omega)
   have x2 := HS.out.cell 2 (by rw [HN.out]; omega)
   obtain ⟨p0, hp0⟩ : ∃ p, L.getD 0 [] = p := ⟨_, rfl⟩
   obtain ⟨p1, hp1⟩ : ∃ p, L.getD 1 [] = p := ⟨_, rfl⟩
   obtain ⟨p2, hp2⟩ : ∃ p, L.getD 2 [] = p := ⟨_, rfl⟩
   rw [hp0] at x0 h0
   rw [hp1] at x1 h1
   rw [hp2] at x2 h2 HC2 hb0 hb1
   have HP := Lib.hid (And.intro hp0 (And.intro hp1 hp2)); clear hp0 hp1 hp2
   have C69 := Lib.hid c69; clear c69
   go_wp2_with fail
   refine (k_l3Num p0 200 _ (by omega) (by omega) (by omega)).mono ?_
   rintro e w2 ⟨tag, rfl, htag, hb2⟩
   have hw2 : w1.heap.size ≤ w2.heap.size := hb2.size
   have HK2 := Lib.hid (HK1.out.keep hb2)
   have k0 : w2.cell? ⟨w.heap.size, 0, none⟩ = some (.int .i64 0) := HK2.out.cell 0
   have k1 : w2.cell? ⟨w.heap.size, 1, none⟩ = some (.string { data := #[] }) := HK2.out.cell 1
   have k2 : w2.cell? ⟨w.heap.size, 2, none⟩ = some (.string { data := #[] }) := HK2.out.cell 2
   have k3 : w2.cell? ⟨w.heap.size, 3, none⟩ = some (.string { data := #[] }) := HK2.out.cell 3
   have f0 := HK2.out.frozen 0
   have f1 := HK2.out.frozen 1
   have f2 := HK2.out.frozen 2
   have f3 := HK2.out.frozen 3
   have hlt2 : w.heap.size < w2.heap.size := by omega
   have hg3 : g < w2.heap.size := by omega
   have hne : ¬ w2.heap.size = w.heap.size := by omega
   have hneg : ¬ w2.heap.size = g := by omega
   have hne' : ¬ w.heap.size = w2.heap.size := by omega
   have y1 : w2.cell? ⟨g, 1, none⟩ = some (.string (S p1)) := by rw [← x1]; exact hb2.cell (p := ⟨g, 1, none⟩) hg2
   have y2 : w2.cell? ⟨g, 2, none⟩ = some (.string (S p2)) := by rw [← x2]; exact hb2.cell (p := ⟨g, 2, none⟩) hg2
   cases hnm : numL p0 200 with
   | none =>
    have HF := Lib.hid (HO.out.symm.trans (field_num (by rw [HP.out.1]; exact hnm)))
    clear hnm htag
    go_wp2_with fail
    refine bodyPost_ret (v := .tuple #[fv ⟨tag, p1, [], []⟩, .bool false]) ?_ rfl ?_
    ·simp [results, Tryz.results118, go_sem, fv, k0, k1, k2, k3, f0, f1, f2, f3, hlt2, hne, hne']; rfl
    ·exact RetF.no _ HF.out (by (repeat (first | with_reducible exact Below.refl _ _ | with_reducible apply below_drew | with_reducible apply below_draws | with_reducible apply below_alloc | with_reducible apply below_set | (with_reducible refine below_trans ?_ (by assumption)) | (with_reducible refine Below.trans ?_ (by assumption)) | exact Nat.le_refl _ | omega | (simp <;> omega))))
   | some x =>
    obtain rfl : tag = x := htag x hnm
    clear htag
    have HX := Lib.hid (show numL (L.getD 0 []) 200 = some tag by rw [HP.out.1]; exact hnm)
    clear hnm
    by_cases ht1 : tag < 1
    ·have HF := Lib.hid (HO.out.symm.trans (field_bad HX.out (fun h => by omega)))
     go_wp2_with fail
     refine bodyPost_ret (v := .tuple #[fv ⟨tag, p1, [], []⟩, .bool false]) ?_ rfl ?_
     ·simp [results, Tryz.results118, go_sem, fv, k0, k1, k2, k3, f0, f1, f2, f3, hlt2, hne, hne']; rfl
     ·exact RetF.no _ HF.out (by (repeat (first | with_reducible exact Below.refl _ _ | with_reducible apply below_drew | with_reducible apply below_draws | with_reducible apply below_alloc | with_reducible apply below_set | (with_reducible refine below_trans ?_ (by assumption)) | (with_reducible refine Below.trans ?_ (by assumption)) | exact Nat.le_refl _ | omega | (simp <;> omega))))
    ·cases hnn : isName p1 with
     | false =>
      have HF := Lib.hid (HO.out.symm.trans (field_bad HX.out (fun h => by rw [HP.out.2.1, hnn] at h; cases h.2)))
      have HNN := Lib.hid hnn; clear hnn
      go_wp2_with (go_at_call 98; refine (k_l2Name p1 _ (by omega)).mono ?_; rw [HNN.out]; rintro e w' ⟨rfl, rfl⟩)
      refine bodyPost_ret (v := .tuple #[fv ⟨tag, p1, [], []⟩, .bool false]) ?_ rfl ?_
      ·simp [results, Tryz.results118, go_sem, fv, k0, k1, k2, k3, f0, f1, f2, f3, hlt2, hne, hne']; rfl
      ·exact RetF.no _ HF.out (by (repeat (first | with_reducible exact Below.refl _ _ | with_reducible apply below_drew | with_reducible apply below_draws | with_reducible apply below_alloc | with_reducible apply below_set | (with_reducible refine below_trans ?_ (by assumption)) | (with_reducible refine Below.trans ?_ (by assumption)) | exact Nat.le_refl _ | omega | (simp <;> omega))))
     | true =>
      have HF := Lib.hid (HO.out.symm.trans (field_on C69.out HN.out HX.out ⟨by omega, by rw [HP.out.2.1]; exact hnn⟩))
      rw [HP.out.2.1] at HF
      have HNN := Lib.hid hnn; clear hnn
      go_wp2_with (go_at_call 98; refine (k_l2Name p1 _ (by omega)).mono ?_; rw [HNN.out]; rintro e w' ⟨rfl, rfl⟩)
      have HKR := Lib.hid (HK2.out.alloc (.cells #[.int .i64 tag, .string (S p1), .string { data := #[] }, .string { data := #[] }] 65))
      have HKF := Lib.hid (Blk.new w2 65 #[.int .i64 tag, .string (S p1), .string { data := #[] }, .string { data := #[] }])
      clear k0 k1 k2 k3 f0 f1 f2 f3 x0 x1 x2 y1 y2
      refine (HC2.out _).mono ?_
      rintro e w3 ⟨v3, rfl, hS3, hb3⟩
      have HKR3 := Lib.hid (HKR.out.keep hb3)
      have HKF3 := Lib.hid (HKF.out.keep hb3)
      have hsz3 : w2.heap.size < w3.heap.size := by have := hb3.size; simp at this; omega
      have hlt3 : w.heap.size < w3.heap.size := by omega
      obtain ⟨g3, cap3, rfl, hcap3, hg31, hg32⟩ := hS3.some HNE2.out
      have HS3 := Lib.hid hS3; clear hS3
      have hg33 : w2.heap.size < g3 := by simp at hg31; omega
      obtain ⟨nb, hnb⟩ : ∃ nb, K.length = nb := ⟨_, rfl⟩
      have hnb1 : 1 ≤ nb := by
       have h := HNE2.out
       cases K with
       | nil => exact absurd rfl h
       | cons _ _ => simp at hnb; omega
      rw [hnb] at hcap3 HS3 HF ⊢
      have HNB := Lib.hid hnb; clear hnb
      have z0 := HS3.out.cell 0 (by rw [HNB.out]; omega)
      obtain ⟨q0, hq0⟩ : ∃ p, K.getD 0 [] = p := ⟨_, rfl⟩
      rw [hq0] at z0 hb0 HF
      clear hq0
      have k0 : w3.cell? ⟨w.heap.size, 0, none⟩ = some (.int .i64 0) := HKR3.out.cell 0
      have k1 : w3.cell? ⟨w.heap.size, 1, none⟩ = some (.string { data := #[] }) := HKR3.out.cell 1
      have k2 : w3.cell? ⟨w.heap.size, 2, none⟩ = some (.string { data := #[] }) := HKR3.out.cell 2
      have k3 : w3.cell? ⟨w.heap.size, 3, none⟩ = some (.string { data := #[] }) := HKR3.out.cell 3
      have f0 := HKR3.out.frozen 0
      have f1 := HKR3.out.frozen 1
      have f2 := HKR3.out.frozen 2
      have f3 := HKR3.out.frozen 3
      have m0 : w3.cell? ⟨w2.heap.size, 0, none⟩ = some (.int .i64 tag) := HKF3.out.cell 0
      have m1 : w3.cell? ⟨w2.heap.size, 1, none⟩ = some (.string (S p1)) := HKF3.out.cell 1
      have m2 : w3.cell? ⟨w2.heap.size, 2, none⟩ = some (.string { data := #[] }) := HKF3.out.cell 2
      have m3 : w3.cell? ⟨w2.heap.size, 3, none⟩ = some (.string { data := #[] }) := HKF3.out.cell 3
      have u2 := HKF3.out.frozen 2
      have u3 := HKF3.out.frozen 3
      have hne3 : ¬ g3 = w2.heap.size := by omega
      have hne4 : ¬ w2.heap.size = g3 := by omega
      by_cases hnb2 : nb = 2
      ·subst hnb2
       have z1 := HS3.out.cell 1 (by rw [HNB.out]; omega)
       obtain ⟨q1, hq1⟩ : ∃ p, K.getD 1 [] = p := ⟨_, rfl⟩
       rw [hq1] at z1 hb1 HF
       clear hq1
       have hb0' : q0.length ≤ 2000000 := by omega
       have hb1' : q1.length ≤ 2000000 := by omega
       go_wp2_with fail
       obtain ⟨W, hW⟩ : ∃ W, ((w3.setCell ⟨w2.heap.size, 2, none⟩ (.string (S q0))).setCell ⟨w2.heap.size, 3, none⟩ (.string (S q1))) = W := ⟨_, rfl⟩
       have hBW : Below w.heap.size w W := by rw [← hW]; (repeat (first | with_reducible exact Below.refl _ _ | with_reducible apply below_drew | with_reducible apply below_draws | with_reducible apply below_alloc | with_reducible apply below_set | (with_reducible refine below_trans ?_ (by assumption)) | (with_reducible refine Below.trans ?_ (by assumption)) | exact Nat.le_refl _ | omega | (simp <;> omega)))
       have hWs : W.heap.size = w3.heap.size := by rw [← hW]; simp
       have kk : ∀ k, W.cell? ⟨w.heap.size, k, none⟩ = w3.cell? ⟨w.heap.size, k, none⟩ := fun k => by rw [← hW]; simp [go_sem, hne']
       have ff : ∀ b k, W.frozen? ⟨b, k, none⟩ = w3.frozen? ⟨b, k, none⟩ := fun b k => by rw [← hW]; simp [go_sem]
       have a0 : W.cell? ⟨w2.heap.size, 0, none⟩ = some (.int .i64 tag) := by rw [← hW]; simp [go_sem, m0]
       have a1 : W.cell? ⟨w2.heap.size, 1, none⟩ = some (.string (S p1)) := by rw [← hW]; simp [go_sem, m1]
       have a2 : W.cell? ⟨w2.heap.size, 2, none⟩ = some (.string (S q0)) := by rw [← hW]; simp [go_sem, m2]
       have a3 : W.cell? ⟨w2.heap.size, 3, none⟩ = some (.string (S q1)) := by rw [← hW]; simp [go_sem, m3]
       rw [← kk] at k0 k1 k2 k3
       rw [← ff] at f0 f1 f2 f3
       rw [hW]
       rw [← hWs] at hlt3 hsz3
       clear kk ff hWs hW
       obtain ⟨F, hFF⟩ : ∃ F, w2.heap.size = F := ⟨_, rfl⟩
       rw [hFF] at a0 a1 a2 a3 hne hne' hsz3 ⊢
       clear z1 hFF z0 m0 m1 m2 m3 u2 u3 hne3 hne4 hg31 hg32 hg33 HS3 HKR3 HKF3 HKR HKF hb3 hb2 hb hg1 hg2 hg3 hneg hlt2 hcap hcap3 hw0 hw2 hnb1 HNE HNE2 HK1 HK2 HS HC HC2 HP HX HN HNB HNN HO h0 h1 h2 hs c0 c1
       by_cases c82 : c = 82
       ·have b82 : (c == 82) = true := by simp [c82]
        have HF2 := Lib.hid (HF.out.trans (show _ = (if standB q0 q1 = true then some (⟨tag, p1, q0, q1⟩ : Fl) else none) by rw [if_pos trivial]; simp only [c82, true_and]))
        clear c82 HF b69 b69'
        have HC3 := Lib.hid (fun w => k_l3Stand q0 q1 w hb1')
        generalize standB q0 q1 = sb at *
        have i0 := cv_at k0
        have i1 := cv_at k1
        have i2 := cv_at k2
        have i3 := cv_at k3
        clear k0 k1 k2 k3
        have hB := hBW
        go_region_held3 (fun w' => w'.cell? ⟨F, 0, none⟩ = some (.int .i64 tag) ∧ w'.cell? ⟨F, 1, none⟩ = some (.string (S p1)) ∧ w'.cell? ⟨F, 2, none⟩ = some (.string (S q0)) ∧ w'.cell? ⟨F, 3, none⟩ = some (.string (S q1)) ∧ w'.cell? ⟨w.heap.size, 0, none⟩ = some (cv w' w.heap.size 0) ∧ w'.cell? ⟨w.heap.size, 1, none⟩ = some (cv w' w.heap.size 1) ∧ w'.cell? ⟨w.heap.size, 2, none⟩ = some (cv w' w.heap.size 2) ∧ w'.cell? ⟨w.heap.size, 3, none⟩ = some (cv w' w.heap.size 3) ∧ w'.frozen? ⟨w.heap.size, 0, none⟩ = false ∧ w'.frozen? ⟨w.heap.size, 1, none⟩ = false ∧ w'.frozen? ⟨w.heap.size, 2, none⟩ = false ∧ w'.frozen? ⟨w.heap.size, 3, none⟩ = false ∧ w.heap.size < w'.heap.size ∧ F < w'.heap.size ∧ Below w.heap.size w w')
         (first | (exact ⟨a0, a1, a2, a3, i0, i1, i2, i3, f0, f1, f2, f3, hlt3, hsz3, below_drew hB⟩) | (go_split_ands; exact SS.later hb4 (by unfold SS; repeat (first | with_reducible assumption | with_reducible refine And.intro ?_ ?_))) | (go_split_ands; exact SS.store hne' (by unfold SS; repeat (first | with_reducible assumption | with_reducible refine And.intro ?_ ?_))) | (go_split_ands; repeat (first | with_reducible assumption | with_reducible refine And.intro ?_ ?_)))
         (first | (go_at_call 147; refine (HC3.out _).mono ?_; rintro e w4 ⟨rfl, hb4⟩))
        all_goals
         go_wp2_with fail
         refine bodyPost_ret (v := .tuple #[fv ⟨tag, p1, q0, q1⟩, .bool sb]) ?_ rfl ?_
         ·simp [results, Tryz.results118, go_sem, fv, *]; exact set4_at (by first | with_reducible assumption | exact cv_later hb4 i0) (by first | with_reducible assumption | exact cv_later hb4 i1) (by first | with_reducible assumption | exact cv_later hb4 i2) (by first | with_reducible assumption | exact cv_later hb4 i3)
         ·exact RetF.of_if _ HF2.out (by first | with_reducible assumption | exact below_set (below_set (below_set (below_set (by with_reducible assumption) (Nat.le_refl _) _) (Nat.le_refl _) _) (Nat.le_refl _) _) (Nat.le_refl _) _ | (repeat (first | with_reducible exact Below.refl _ _ | with_reducible apply below_drew | with_reducible apply below_draws | with_reducible apply below_alloc | with_reducible apply below_set | (with_reducible refine below_trans ?_ (by assumption)) | (with_reducible refine Below.trans ?_ (by assumption)) | exact Nat.le_refl _ | omega | (simp <;> omega))))
       ·have b82 : (c == 82) = false := by simp [c82]
        have HF2 := Lib.hid (HF.out.trans (show _ = (none : Option Fl) by rw [if_pos trivial, if_neg (fun h => c82 h.1)]))
        clear c82 HF b69 b69'
        go_region
        go_wp2_with fail
        refine bodyPost_ret (v := .tuple #[fv ⟨tag, p1, q0, q1⟩, .bool false]) ?_ rfl ?_
        ·simp [results, Tryz.results118, go_sem, fv, k0, k1, k2, k3, f0, f1, f2, f3, hne, hne', a0, a1, a2, a3]
        ·exact RetF.no _ HF2.out (by (repeat (first | with_reducible exact Below.refl _ _ | with_reducible apply below_drew | with_reducible apply below_draws | with_reducible apply below_alloc | with_reducible apply below_set | (with_reducible refine below_trans ?_ (by assumption)) | (with_reducible refine Below.trans ?_ (by assumption)) | exact Nat.le_refl _ | omega | (simp <;> omega))))
      ·have nb2' : ((nb : Int) == 2) = false := by simp; omega
       have hb0' : q0.length ≤ 2000000 := by omega
       by_cases hnb3 : nb = 1
       ·subst hnb3
        go_wp2_with fail
        obtain ⟨W, hW⟩ : ∃ W, (w3.setCell ⟨w2.heap.size, 2, none⟩ (.string (S q0))) = W := ⟨_, rfl⟩
        have hBW : Below w.heap.size w W := by rw [← hW]; (repeat (first | with_reducible exact Below.refl _ _ | with_reducible apply below_drew | with_reducible apply below_draws | with_reducible apply below_alloc | with_reducible apply below_set | (with_reducible refine below_trans ?_ (by assumption)) | (with_reducible refine Below.trans ?_ (by assumption)) | exact Nat.le_refl _ | omega | (simp <;> omega)))
        have hWs : W.heap.size = w3.heap.size := by rw [← hW]; simp
        have kk : ∀ k, W.cell? ⟨w.heap.size, k, none⟩ = w3.cell? ⟨w.heap.size, k, none⟩ := fun k => by rw [← hW]; simp [go_sem, hne']
        have ff : ∀ b k, W.frozen? ⟨b, k, none⟩ = w3.frozen? ⟨b, k, none⟩ := fun b k => by rw [← hW]; simp [go_sem]
        have a0 : W.cell? ⟨w2.heap.size, 0, none⟩ = some (.int .i64 tag) := by rw [← hW]; simp [go_sem, m0]
        have a1 : W.cell? ⟨w2.heap.size, 1, none⟩ = some (.string (S p1)) := by rw [← hW]; simp [go_sem, m1]
        have a2 : W.cell? ⟨w2.heap.size, 2, none⟩ = some (.string (S q0)) := by rw [← hW]; simp [go_sem, m2]
        have a3 : W.cell? ⟨w2.heap.size, 3, none⟩ = some (.string { data := #[] }) := by rw [← hW]; simp [go_sem, m3]
        rw [← kk] at k0 k1 k2 k3
        rw [← ff] at f0 f1 f2 f3
        rw [hW]
        rw [← hWs] at hlt3 hsz3
        clear kk ff hWs hW
        obtain ⟨F, hFF⟩ : ∃ F, w2.heap.size = F := ⟨_, rfl⟩
        rw [hFF] at a0 a1 a2 a3 hne hne' hsz3 ⊢
        clear hFF z0 m0 m1 m2 m3 u2 u3 hne3 hne4 hg31 hg32 hg33 HS3 HKR3 HKF3 HKR HKF hb3 hb2 hb hg1 hg2 hg3 hneg hlt2 hcap hcap3 hw0 hw2 hnb1 HNE HNE2 HK1 HK2 HS HC HC2 HP HX HN HNB HNN HO h0 h1 h2 hs c0 c1
        have HF2 := Lib.hid (HF.out.trans (show _ = (if kOk q0 = true then some (⟨tag, p1, q0, []⟩ : Fl) else none) by rw [if_neg (by omega)]; simp only [true_and]))
        clear HF b69 b69' hnb2 nb2'
        have HC3 := Lib.hid (fun w => k_KindOk q0 w hb0')
        rw [show (kindR q0).isSome = kOk q0 from rfl] at HC3
        generalize kOk q0 = sb at *
        have i0 := cv_at k0
        have i1 := cv_at k1
        have i2 := cv_at k2
        have i3 := cv_at k3
        clear k0 k1 k2 k3
        have hB := hBW
        go_region_held3 (fun w' => w'.cell? ⟨F, 0, none⟩ = some (.int .i64 tag) ∧ w'.cell? ⟨F, 1, none⟩ = some (.string (S p1)) ∧ w'.cell? ⟨F, 2, none⟩ = some (.string (S q0)) ∧ w'.cell? ⟨F, 3, none⟩ = some (.string { data := #[] }) ∧ w'.cell? ⟨w.heap.size, 0, none⟩ = some (cv w' w.heap.size 0) ∧ w'.cell? ⟨w.heap.size, 1, none⟩ = some (cv w' w.heap.size 1) ∧ w'.cell? ⟨w.heap.size, 2, none⟩ = some (cv w' w.heap.size 2) ∧ w'.cell? ⟨w.heap.size, 3, none⟩ = some (cv w' w.heap.size 3) ∧ w'.frozen? ⟨w.heap.size, 0, none⟩ = false ∧ w'.frozen? ⟨w.heap.size, 1, none⟩ = false ∧ w'.frozen? ⟨w.heap.size, 2, none⟩ = false ∧ w'.frozen? ⟨w.heap.size, 3, none⟩ = false ∧ w.heap.size < w'.heap.size ∧ F < w'.heap.size ∧ Below w.heap.size w w')
         (first | (exact ⟨a0, a1, a2, a3, i0, i1, i2, i3, f0, f1, f2, f3, hlt3, hsz3, below_drew hB⟩) | (go_split_ands; exact SS.later hb4 (by unfold SS; repeat (first | with_reducible assumption | with_reducible refine And.intro ?_ ?_))) | (go_split_ands; exact SS.store hne' (by unfold SS; repeat (first | with_reducible assumption | with_reducible refine And.intro ?_ ?_))) | (go_split_ands; repeat (first | with_reducible assumption | with_reducible refine And.intro ?_ ?_)))
         (first | (go_at_call 71; refine (HC3.out _).mono ?_; rintro e w4 ⟨rfl, rfl⟩))
        all_goals
         go_wp2_with fail
         refine bodyPost_ret (v := .tuple #[fv ⟨tag, p1, q0, []⟩, .bool sb]) ?_ rfl ?_
         ·simp [results, Tryz.results118, go_sem, fv, *]; exact set4_at (by first | with_reducible assumption | exact cv_later hb4 i0) (by first | with_reducible assumption | exact cv_later hb4 i1) (by first | with_reducible assumption | exact cv_later hb4 i2) (by first | with_reducible assumption | exact cv_later hb4 i3)
         ·exact RetF.of_if _ HF2.out (by first | with_reducible assumption | exact below_set (below_set (below_set (below_set (by with_reducible assumption) (Nat.le_refl _) _) (Nat.le_refl _) _) (Nat.le_refl _) _) (Nat.le_refl _) _ | (repeat (first | with_reducible exact Below.refl _ _ | with_reducible apply below_drew | with_reducible apply below_draws | with_reducible apply below_alloc | with_reducible apply below_set | (with_reducible refine below_trans ?_ (by assumption)) | (with_reducible refine Below.trans ?_ (by assumption)) | exact Nat.le_refl _ | omega | (simp <;> omega))))
       ·have nb3' : ((nb : Int) == 1) = false := by simp; omega
        go_wp2_with fail
        obtain ⟨W, hW⟩ : ∃ W, (w3.setCell ⟨w2.heap.size, 2, none⟩ (.string (S q0))) = W := ⟨_, rfl⟩
        have hBW : Below w.heap.size w W := by rw [← hW]; (repeat (first | with_reducible exact Below.refl _ _ | with_reducible apply below_drew | with_reducible apply below_draws | with_reducible apply below_alloc | with_reducible apply below_set | (with_reducible refine below_trans ?_ (by assumption)) | (with_reducible refine Below.trans ?_ (by assumption)) | exact Nat.le_refl _ | omega | (simp <;> omega)))
        have hWs : W.heap.size = w3.heap.size := by rw [← hW]; simp
        have kk : ∀ k, W.cell? ⟨w.heap.size, k, none⟩ = w3.cell? ⟨w.heap.size, k, none⟩ := fun k => by rw [← hW]; simp [go_sem, hne']
        have ff : ∀ b k, W.frozen? ⟨b, k, none⟩ = w3.frozen? ⟨b, k, none⟩ := fun b k => by rw [← hW]; simp [go_sem]
        have a0 : W.cell? ⟨w2.heap.size, 0, none⟩ = some (.int .i64 tag) := by rw [← hW]; simp [go_sem, m0]
        have a1 : W.cell? ⟨w2.heap.size, 1, none⟩ = some (.string (S p1)) := by rw [← hW]; simp [go_sem, m1]
        have a2 : W.cell? ⟨w2.heap.size, 2, none⟩ = some (.string (S q0)) := by rw [← hW]; simp [go_sem, m2]
        have a3 : W.cell? ⟨w2.heap.size, 3, none⟩ = some (.string { data := #[] }) := by rw [← hW]; simp [go_sem, m3]
        rw [← kk] at k0 k1 k2 k3
        rw [← ff] at f0 f1 f2 f3
        rw [hW]
        rw [← hWs] at hlt3 hsz3
        clear kk ff hWs hW
        obtain ⟨F, hFF⟩ : ∃ F, w2.heap.size = F := ⟨_, rfl⟩
        rw [hFF] at a0 a1 a2 a3 hne hne' hsz3 ⊢
        clear hFF z0 m0 m1 m2 m3 u2 u3 hne3 hne4 hg31 hg32 hg33 HS3 HKR3 HKF3 HKR HKF hb3 hb2 hb hg1 hg2 hg3 hneg hlt2 hcap hcap3 hw0 hw2 hnb1 HNE HNE2 HK1 HK2 HS HC HC2 HP HX HN HNB HNN HO h0 h1 h2 hs c0 c1
        have HF2 := Lib.hid (HF.out.trans (show _ = (none : Option Fl) by rw [if_neg hnb2, if_neg (fun h => hnb3 h.1)]))
        clear HF b69 b69' hnb2 hnb3
        go_region
        go_wp2_with fail
        refine bodyPost_ret (v := .tuple #[fv ⟨tag, p1, q0, []⟩, .bool false]) ?_ rfl ?_
        ·simp [results, Tryz.results118, go_sem, fv, k0, k1, k2, k3, f0, f1, f2, f3, hne, hne', a0, a1, a2, a3]; rfl
        ·exact RetF.no _ HF2.out (by (repeat (first | with_reducible exact Below.refl _ _ | with_reducible apply below_drew | with_reducible apply below_draws | with_reducible apply below_alloc | with_reducible apply below_set | (with_reducible refine below_trans ?_ (by assumption)) | (with_reducible refine Below.trans ?_ (by assumption)) | exact Nat.le_refl _ | omega | (simp <;> omega))))
  ·have HF := Lib.hid (HO.out.symm.trans (field_len (by rw [HN.out, if_neg c69]; exact hn3)))
   have hn3' : ((n : Int) != 3) = true := by simp; omega
   clear hn3 c69
   have k0 := HK1.out.cell 0
   have k1 := HK1.out.cell 1
   have k2 := HK1.out.cell 2
   have k3 := HK1.out.cell 3
   have f0 := HK1.out.frozen 0
   have f1 := HK1.out.frozen 1
   have f2 := HK1.out.frozen 2
   have f3 := HK1.out.frozen 3
   go_wp2_with fail
   clear hw0
   exact bodyPost_ret (v := .tuple #[fv ⟨0, [], [], []⟩, .bool false]) (by simp [results, Tryz.results118, go_sem, fv, k0, k1, k2, k3, f0, f1, f2, f3]; rfl) rfl (RetF.no _ HF.out (by (repeat (first | with_reducible exact Below.refl _ _ | with_reducible apply below_drew | with_reducible apply below_draws | with_reducible apply below_alloc | with_reducible apply below_set | (with_reducible refine below_trans ?_ (by assumption)) | (with_reducible refine Below.trans ?_ (by assumption)) | exact Nat.le_refl _ | omega | (simp <;> omega)))))
end Go.Proofs.YtcjooeklehggaaaGreatDoor
