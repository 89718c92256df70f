/- Lemmas of this seat. -/
import Derived.Test.YtcjooeklehggaaaGreatDoorRAs
import Derived.Test.YtcjooeklehggaaaGreatDoorRHs
set_option linter.unusedVariables false
set_option linter.unusedSimpArgs false
set_option maxRecDepth 100000
namespace Go.Proofs.YtcjooeklehggaaaGreatDoor
open Go.ChangeShapes Go.WideShapes Go.ChangeAt Go.RowKit M
set_option maxHeartbeats 8000000 in
theorem l91Of {B : Nat} {w : World} {b : Nat} {ao : Option Addr} {len cap : Nat} {p : Int} (s k : Bs) (hs : s.length ≤ 2000000) (hk : k.length ≤ 2000000) (h : Rdr B w b ao len cap p) (h1 : p ≤ 600000) :
  Calls Tryz.prog 58 #[.pointer (some ⟨b, 0, none⟩), .string (S s), .string (S k)] w (DrawS B b ao len cap p 120000 700000 w) := by
 have H := Lib.hid h
 have hlt := h.lt
 have HC := Lib.hid (k_l3Kind s k w hs hk)
 clear h hs hk
 go_enter Tryz.func58, Tryz.ntmps58
 go_wp2_with fail
 refine HC.out.mono ?_
 rintro e w1 ⟨xv, tps, rfl, hT, hX, hl8, hb⟩
 have HR1 := Lib.hid (H.out.below hb)
 have HG1 := Lib.hid (grown_of_below hb (some b))
 have hz1 := hb.size
 cases hks : kindS s k with
 | none =>
  clear hX hT HC
  go_wp2_with fail
  go_ret
  exact ⟨[53], p, rfl, by simp, by omega, by omega, HR1, HG1.out⟩
 | some X =>
  obtain ⟨hof, hko, hco⟩ := kindS_some hks
  obtain ⟨hg, h8, hva⟩ := ofS_some hof
  have hasc := ofS_asc hof
  have hXX := hX X hks
  rw [← hXX] at hg hva hasc hco
  obtain ⟨hv3, hv4⟩ := v_deep (v := xv) (tps := tps) (B0 := w.heap.size) (B := B) (b := b) (ao := ao) (len := len) (cap := cap) hg hva hasc hl8 hlt
  have HV4 := Lib.hid (hv4 k p w1 hko hco trivial HR1.out (by omega) hT (by omega))
  have HV3 := Lib.hid (fun (d : Int) (a : 1 ≤ d) (c : d ≤ 3) (W : World) (q : Int) (hR : Rdr B W b ao len cap q) (hq : q ≤ 800000) (hgw : w1.grownBy W (some b)) => hv3 d a c k q W hko hco trivial hR (by omega) (hT.rowed hgw hlt) (by have := hgw.size; omega))
  have HOUT := Lib.hid (fun (x : V) (hx : M.Tv (tps.map (·.1)) x) (hl : (outV x).length ≤ 1500000) (N : Nat → Prop) (q : Nat) (W : World) (h : VAt W N x q) => k_out hg x hx hl N q W h)
  clear hX hT HC hof hko hco hg hva hasc hXX hv3 hv4 hks h8
  go_wp2_with fail
  refine HV4.out.mono ?_
  rintro e w2 ⟨x, qx, p2, rfl, hx, hxk, hxl, hxv, hp, hp', HR2, hg2⟩
  have HO := Lib.hid (HOUT.out x hx (by omega) _ qx w2 hxv)
  have HG2 := Lib.hid hg2
  have hpos := tv_pos hx
  obtain ⟨t0, ht0⟩ : ∃ t0, outV x = t0 := ⟨_, rfl⟩
  rw [ht0] at HO hpos hxl
  clear hx hxv hg2 HV4 ht0
  go_wp2_with fail
  refine HO.out.mono ?_
  rintro e w3 ⟨rfl, hb3⟩
  have HR3 := Lib.hid (HR2.out.below hb3)
  have HG3 := Lib.hid (only_beh HG2.out hb3)
  clear hb3 HO
  go_wp2_with fail
  go_loopw [9, 10] (fun tt i wr => ∃ (l : Bs) (dd q : Int), tt = .string (S l) ∧ i = .int .i64 dd ∧ 0 ≤ dd ∧ dd ≤ 3 ∧ 1 ≤ l.length ∧ l.length ≤ 690000 ∧ p ≤ q ∧ q + 10312 * dd ≤ p + 82504 + 10312 * 3 ∧ Hid (Rdr B wr b ao len cap q) ∧ Hid (w1.grownBy wr (some b))) (fun _ i _ => (intOf i).toNat)
  case atStart => exact ⟨t0, 3, p2, rfl, rfl, by omega, by omega, by omega, by omega, by omega, by omega, HR3, HG3.out⟩
  case round =>
   obtain ⟨l, dd, q, rfl, rfl, d0, d3, l0, l1, q0, q1, HQ, HG⟩ := hrel
   clear HR3 HG3 HR2 HG2
   have hzr := HG.out.size
   by_cases hc : 150 < (l.length : Int) ∧ 0 < dd
   ·obtain ⟨hc1, hc2⟩ := hc
    have HV := Lib.hid (HV3.out dd (by omega) (by omega) wr q HQ.out (by omega) HG.out)
    go_wp2_with fail
    refine HV.out.mono ?_
    rintro e w4 ⟨x', qx', p4, rfl, hx, hxk', hxl', hxv, hp4, hp4', HR4, hg4⟩
    have HO := Lib.hid (HOUT.out x' hx (by omega) _ qx' w4 hxv)
    have HG4 := Lib.hid (only_trans HG.out hg4)
    have hpos' := tv_pos hx
    obtain ⟨t1, ht1⟩ : ∃ t1, outV x' = t1 := ⟨_, rfl⟩
    rw [ht1] at HO hpos' hxl'
    clear hx hxv hg4 HV ht1
    go_wp2_with fail
    refine HO.out.mono ?_
    rintro e w5 ⟨rfl, hb5⟩
    have HR5 := Lib.hid (HR4.out.below hb5)
    have HG5 := Lib.hid (only_beh HG4.out hb5)
    clear hb5 HO
    go_wp2_with fail
    go_roundw
    case rel => exact ⟨t1, dd - 1, p4, rfl, by go_num, by omega, by omega, by omega, by omega, by omega, by omega, HR5, HG5.out⟩
    case measure => simp [intOf]; omega
   ·have HGw := Lib.hid (only_trans HG1.out HG.out)
    have hlt' : b < wr.heap.size := HQ.out.lt
    clear HV3 HOUT HG
    have hlc : 150 < (l.length : Int) ∧ ¬ 0 < dd ∨ ¬ 150 < (l.length : Int) := by omega
    rcases hlc with ⟨hl1, hl2⟩ | hl1
    all_goals
     go_wp2_with fail
     refine (pick_g HQ.out (by omega) _ (by omega) (by omega)).mono ?_
     rintro e wa ⟨t, rfl, t0', t1', HRa, hza, hca, hfa, hga⟩
     have HGa := Lib.hid (only_trans HGw.out hga.out)
     clear hca hfa hga hza
     by_cases ht : t = 0
     case neg =>
      have ht' : (t == 0) = false := by simp [ht]
      clear ht
      go_wp2_with fail
      go_ret
      exact ⟨l, q + 1, rfl, by omega, by omega, by omega, HRa, HGa.out⟩
     subst ht
     go_wp2_with fail
     refine (pick_g HRa (by omega) _ (by omega) (by omega)).mono ?_
     rintro e wb ⟨m, rfl, m0, m1, HRb, hzb, hcb, hfb, hgb⟩
     have HGb := Lib.hid (only_trans HGa.out hgb.out)
     clear hcb hfb hgb hzb
     have hltb := HRb.out.lt
     have nb : ¬ wb.heap.size = b := by omega
     have hle : m + 1 ≤ (l.length : Int) := by omega
     have hkk : m.toNat < l.length := by omega
     have hk2 : (m + 1).toNat ≤ l.length := by omega
     have hlk : (l.take m.toNat).length ≤ 690000 := by simp; omega
     have hld : (l.drop (m + 1).toNat).length ≤ 690000 := by simp; omega
     have hsum : (l.take m.toNat).length + (l.drop (m + 1).toNat).length ≤ 690000 := by simp; omega
     have ew : IntKind.i64.wrap (m + 1) = m + 1 := IntWalk.i64_in _ (by omega)
     have hcx := fun (y : Bs) (hy : y.length ≤ 1) => cat_run (l.take m.toNat) y (by simp; omega)
     have hcy := fun (y : Bs) (hy : y.length ≤ 1) => cat_run (l.take m.toNat ++ y) (l.drop (m + 1).toNat) (by simp; omega)
     go_wp2_with fail
     clear HG1 HGw HGa HR1 HRa HQ
     have k2 : 0 ≤ m + 1 := by omega
     go_region_with (go_at_call 32; ((with_reducible refine (pick_g (HRb.out.below (by repeat (with_reducible first | exact Below.refl _ _ | apply below_drew | apply below_alloc))) (by omega) _ (by omega) (by omega)).mono ?_); rintro e w' ⟨z, rfl, z0, z1, HRc, hzc, hcc, hfc, hgc⟩; (obtain ⟨y, hy, hy'⟩ := idxS [[], [48], [44], [125], [45]] z z0 z1); (have hy2 : ∀ h, ([.string { data := #[] }, .string { data := #[48] }, .string { data := #[44] }, .string { data := #[125] }, .string { data := #[45] }] : List Value)[z.toNat]'h = .string (S y) := hy'); (have hyl : y.length ≤ 1 := by (simp at hy; rcases hy with rfl | rfl | rfl | rfl | rfl <;> simp)); have h1 := hcx y hyl; have h2 := hcy y hyl; clear hy hy'))
     all_goals
      go_wp2_with fail
      go_ret
      exact ⟨_, q + 1 + 1 + 1, rfl, by simp; omega, by omega, by omega, (by first | exact HRc | exact Rdr.below HRc.out (below_alloc (Below.refl _ _) _)), (by repeat (first | exact HGb.out | with_reducible refine only_trans ?_ hgc.out | with_reducible apply only_drew | with_reducible apply only_alloc))⟩
def DrawThree (B b : Nat) (ao : Option Addr) (len cap : Nat) (w : World) (e : Ending) (w' : World) : Prop :=
 ∃ (l k s : Bs) (p' : Int), e = .returned (.tuple #[.string (S l), .string (S k), .string (S s)]) ∧ l.length ≤ 1000 ∧ k.length ≤ 20 ∧ s.length ≤ 700000 ∧ p' ≤ 400000 ∧ Hid (Rdr B w' b ao len cap p') ∧ w.grownBy w' (some b)
theorem l91Three {B : Nat} {w : World} {b : Nat} {ao : Option Addr} {len cap : Nat} {p : Int} (h : Rdr B w b ao len cap p) (h1 : p ≤ 1000) :
  Calls Tryz.prog 46 #[.pointer (some ⟨b, 0, none⟩)] w (DrawThree B b ao len cap w) := by
 have H := Lib.hid h
 clear h
 go_enter Tryz.func46, Tryz.ntmps46
 go_wp2_with fail
 refine (l91Schema H.out (by omega)).mono ?_
 rintro e w1 ⟨l, p1, rfl, hl, hp1, hp1', HR1, hg1⟩
 have HG1 := Lib.hid hg1
 clear hg1
 go_wp2_with fail
 refine (l91Some l (by omega) HR1.out (by omega)).mono ?_
 rintro e w2 ⟨k, p2, rfl, hk, hp2, hp2', HR2, hg2⟩
 have HG2 := Lib.hid (only_trans HG1.out hg2)
 clear hg2
 go_wp2_with fail
 refine (l91Of l k (by omega) (by omega) HR2.out (by omega)).mono ?_
 rintro e w3 ⟨s, p3, rfl, hs, hp3, hp3', HR3, hg3⟩
 have HG3 := Lib.hid (only_trans HG2.out hg3)
 clear hg3
 go_wp2_with fail
 go_ret3
 exact ⟨l, k, s, p3, rfl, hl, hk, hs, by omega, HR3, HG3.out⟩
end Go.Proofs.YtcjooeklehggaaaGreatDoor
