/- Lemmas of this seat. -/
import Derived.Test.YtcjooeklehggaaaGreatDoorRDs
set_option linter.unusedVariables false
set_option linter.unusedSimpArgs false
set_option maxRecDepth 100000
namespace Go.Proofs.YtcjooeklehggaaaGreatDoor
open Go.ChangeShapes Go.WideShapes Go.ChangeAt Go.RowKit M
section
variable {v : Value} {tps : List (Ty × Value)} {B0 B b : Nat} {ao : Option Addr} {len cap : Nat} {p d D : Int} {L : Nat} {k : Bs} {t : Ty} {w : World}
set_option maxHeartbeats 8000000 in
theorem d_typed_U (K : Bs → Prop) (hK : (0 < d ∧ ∀ k, K k) ∨ (¬ 0 < d ∧ K (kind0 t))) (hD : 0 ≤ D) (hd : -100 ≤ d ∧ d ≤ 100) (IH : IVal v tps B0 B b ao len cap (d - 1) D L K) (hva : validB (tps.map (·.1)) = true) (htm : t ∈ tps.map (·.1))
  (h64 : at_ k 0 = 64) (hko : kOk k = true) (hr : refT (tps.map (·.1)) k = some t) (hgt : GoodT t) (ha : Asc t.fields) (h85 : t.sort = 85) (h : Rdr B w b ao len cap p) (h1 : p + (D + 1) ≤ 890000) (hT : Tys w B0 v tps) (hl8 : tps.length ≤ 8) (hbB : b < B0) (hB : B0 ≤ w.heap.size) :
  Calls Tryz.prog 108 #[.pointer (some ⟨b, 0, none⟩), v, .string (S k), .int .i64 d] w (DrawV (tps.map (·.1)) k B b ao len cap p (D + 1) (L + 6) w) := by
 have H := Lib.hid h
 have hlt := h.lt
 have hne : t.fields ≠ [] := hgt.2.2.2.1 (by omega)
 have hpos : 0 < t.fields.length := List.length_pos_iff.2 hne
 have hn8 : t.fields.length ≤ 8 := hgt.2.2.1
 have HU := Lib.hid (fun (j : Nat) (hj : j < t.fields.length) (x : V) (hx : M.Tv (tps.map (·.1)) x) (hxk : x.kind = t.fields[j].kind) (hl : (outV x).length ≤ L) => draw_union hko h64 hr h85 (field_at hgt ha j hj).1 (field_at hgt ha j hj).2 hx hxk hl)
 have HIH := Lib.hid (fun (j : Nat) (hj : j < t.fields.length) (hk : K t.fields[j].kind) (W : World) (p' : Int) (hR : Rdr B W b ao len cap p') (hp : p' + D ≤ 890000) (hg : w.grownBy W (some b)) =>
  IH t.fields[j].kind p' W ((hgt.2.2.2.2 _ (List.getElem_mem hj)).2.2.2.2.2.1 (by omega)) (valid_core hva htm (by omega) (List.getElem_mem hj)) hk hR hp (hT.rowed hg hbB) (by have := hg.size; omega))
 have HRF := Lib.hid (k_ref v tps B0 k w hT (by omega) hB hko)
 rw [hr] at HRF
 have e0 : (t.sort == 69) = false := by simp [h85]
 have e1 : (t.sort == 85) = true := by simp [h85]
 have HB8 := Lib.hid (show [B8 t.sort] = [85] by rw [h85]; rfl)
 have ew : IntKind.i64.wrap (d - 1) = d - 1 := IntWalk.i64_in _ (by omega)
 have hk0' : t.fields[0].kind = kind0 t := by unfold kind0; rw [List.getD_eq_getElem?_getD, List.getElem?_eq_getElem hpos]; rfl
 rw [← hk0'] at hK
 have HKK := Lib.hid hK
 clear h hr hgt ha h85 h64 hko hT hl8 IH hva htm hk0' hK
 go_enter Tryz.func108, Tryz.ntmps108
 go_wp2_with fail
 refine HRF.out.mono ?_
 rintro e w1 ⟨t', u, rfl, ht, hF, hb⟩
 obtain rfl : t' = t := ht _ rfl
 obtain ⟨a, c, rfl, -, hfo⟩ := hF.form
 obtain ⟨g, rfl, hgB, hgw⟩ : ∃ g, a = some ⟨g, 0, none⟩ ∧ B0 ≤ g ∧ g < w1.heap.size := by
  rcases hfo with ⟨_, h0⟩ | h0
  ·exact absurd h0 hne
  ·exact h0
 have HF := Lib.hid hF
 have HB1 := Lib.hid hb
 have hbz := hb.size
 clear hF hfo ht hne HRF
 unfold tv
 go_upto_region 2 with fail
 go_cut [11] (fun z wx => ∃ q, z = vp q ∧ Typed B0 b k t' g c q w1 wx)
 case first =>
  have KT := Lib.hid (fun o1 o2 => ((Blk.new w1 61 #[.int .u8 t'.sort, .string (S t'.name), .slice (some ⟨g, 0, none⟩) t'.fields.length c]).alloc o1).alloc o2)
  have KV := Lib.hid (fun o1 o2 => Blk.new ((w1.alloc o1).alloc o2) 133 #[.string (S k), .string (S [B8 t'.sort]), .slice none 0 0, .slice none 0 0])
  have hc := conv1
  have hc1 := cellIs_some
  have hc2 := cellB_some
  go_wp2_with fail
  go_meet
  refine ⟨_, rfl, by omega, KT.out _ _, ?_, HF.out.below (below_alloc (below_alloc (below_alloc (Below.refl _ _) _) _) _), below_alloc (below_alloc (below_alloc (Below.refl _ _) _) _) _⟩
  refine PP.start _ (by omega) ?_
  have := KV.out (.cells #[.int .u8 t'.sort, .string (S t'.name), .slice (some ⟨g, 0, none⟩) t'.fields.length c] 61) (.cells #[.int .u8 t'.sort] 5)
  rw [World.size_alloc, World.size_alloc] at this
  exact this
 case rest =>
  obtain ⟨q, rfl, hq, hK, hP, hFx, hbx⟩ := hcut
  have t0 := hK.cell 0
  have t2 := hK.cell 2
  simp at t0 t2
  have HP := Lib.hid hP
  have HFx := Lib.hid hFx
  have n1 : ¬ w1.heap.size = b := by omega
  have n2 : ¬ q = b := by omega
  have n3 : ¬ g = b := by omega
  have hxz := hbx.size
  obtain ⟨hqx, p2, -, f2, -, -, -⟩ := hP.cells
  have HG := Lib.hid (only_beh (only_beh (World.grownBy.refl w (some b)) hb) hbx)
  have HQ := Lib.hid (fun W (hbw : Below wc.heap.size wc W) => ((H.out.below hb).below hbx).below hbw)
  have HPw := Lib.hid (fun W (hbw : Below wc.heap.size wc W) => hP.belowed hbw)
  have HGw := Lib.hid (fun W (hbw : Below wc.heap.size wc W) => only_beh HG.out hbw)
  clear hK hP hFx hbx hb HB1 HF
  obtain ⟨y0, y1, y2, y3⟩ := HFx.out.cells4 0 hpos
  simp only [Nat.zero_mul, Nat.zero_add] at y0 y1 y2 y3
  have KF0 := Lib.hid (Blk.new wc 65 #[.int .i64 t'.fields[0].tag, .string (S t'.fields[0].name), .string (S t'.fields[0].kind), .string (S t'.fields[0].stand)])
  have hlw : w.heap.size ≤ wc.heap.size := HG.out.size
  have l1 : w1.heap.size < wc.heap.size := by omega
  have l2 : g < wc.heap.size := by omega
  by_cases hd0 : 0 < d
  ·have hKall : ∀ k, K k := by
    rcases HKK.out with h | h
    ·exact h.2
    ·exact absurd hd0 (by omega)
   have n4 : ¬ wc.heap.size = b := by omega
   go_upto_region 10 with fail
   go_cut [63] (fun z wx => ∃ (j : Nat) (hj : j < t'.fields.length), Blk wx wc.heap.size 65 #[.int .i64 t'.fields[j].tag, .string (S t'.fields[j].name), .string (S t'.fields[j].kind), .string (S t'.fields[j].stand)] ∧ PP wx (q + 1) q k [B8 t'.sort] [] [] [] none 0 none 0 ∧ Rdr B wx b ao len cap (p + 1) ∧ w.grownBy wx (some b))
   case first =>
    go_region_law (go_simp; go_at_call 32; ((with_reducible refine (pick_g (HQ.out _ (by repeat (with_reducible first | exact Below.refl _ _ | apply below_drew | apply below_alloc))) (by omega) _ (by omega) (by omega)).mono ?_); rintro e w3 ⟨m, rfl, m0, m1, HR3, -, hc3, hf3, hg3⟩; obtain ⟨j, rfl⟩ := Int.eq_ofNat_of_zero_le m0; have hj : j < t'.fields.length := (by omega); obtain ⟨x0, x1, x2, x3⟩ := HFx.out.cells4 j hj; (try simp only [Nat.add_zero] at x0); have KF3 := Lib.hid ((KF0.out.keep (by repeat (with_reducible first | exact Below.refl _ _ | apply below_drew | apply below_alloc))).grown hg3.out (by simpa using n4)); have KV3 := Lib.hid ((HPw.out _ (by repeat (with_reducible first | exact Below.refl _ _ | apply below_drew | apply below_alloc))).blk.grown hg3.out (by simpa using n2)); have HG3 := Lib.hid (only_trans (HGw.out _ (by repeat (with_reducible first | exact Below.refl _ _ | apply below_drew | apply below_alloc))) hg3.out)))
    all_goals
     go_wp2_with fail
     go_meet
     exact ⟨j, hj, set4_own _ _ _ _ KF3.out, PP.start _ (Nat.lt_succ_self _) (set4_far _ _ _ _ KV3.out (by omega)), HR3.out.aside (set4_below (C := w.heap.size) _ _ _ _ (by omega)) hlt, only_up HG3.out (set4_below (C := w.heap.size) _ _ _ _ (by omega)) (Nat.le_refl _)⟩
   case rest =>
    obtain ⟨j, hj, hKF, hPx, hRx, hGx⟩ := hcut
    have KF := Lib.hid hKF
    have HPx := Lib.hid hPx
    have HRx := Lib.hid hRx
    have HGx := Lib.hid hGx
    clear hKF hPx hRx hGx
    have f0 := KF.out.cell 0
    have f2' := KF.out.cell 2
    simp at f0 f2'
    obtain ⟨hqy, q2, -, g2, -, -, -⟩ := HPx.out.cells
    have hzx := HGx.out.size
    have hlf := KF.out.lt
    have HP1 := Lib.hid (HPx.out.tag_lit (by omega) t'.fields[j].tag)
    have HIw := Lib.hid (fun W1 (hR : Rdr B W1 b ao len cap (p + 1)) (hg : w.grownBy W1 (some b)) => HIH.out j hj (hKall _) W1 (p + 1) hR (by omega) hg)
    have HUj := Lib.hid (HU.out j hj)
    have hqf : ¬ q = wc.heap.size := by omega
    generalize t'.fields[j].kind = kj at *
    generalize t'.fields[j].tag = tj at *
    clear HIH HU KF
    go_wp2_with fail
    refine (HIw.out _ (HRx.out.aside (lit_below (C := w.heap.size) _ (by omega) (by omega) _ _) hlt) (only_up HGx.out (lit_below (C := w.heap.size) _ (by omega) (by omega) _ _) (Nat.le_refl _))).mono ?_
    rintro e w3 ⟨x, qx, p3, rfl, hx, hxk, hxl, hxv, hp, hp', HR3, hg3⟩
    have HP3 := Lib.hid (HP1.out.rowed hg3 (by omega))
    have HG3 := Lib.hid (only_trans (only_up HGx.out (lit_below (C := w.heap.size) _ (by omega) (by omega) _ _) (Nat.le_refl _)) hg3)
    have HX := Lib.hid hxv
    have HY := Lib.hid (HUj.out x hx hxk hxl)
    obtain ⟨hq3, -, c3, -, fz3, -, -⟩ := HP3.out.cells
    have hz3 := HG3.out.size
    have hzz := hg3.size
    simp at hzz
    clear HP1 HIw HUj hg3 hxv HPx HRx HGx hx
    go_wp2_with fail
    go_ret
    refine DrawV.mk_ HY.out rfl (Nat.le_refl _) ?_ (by omega) (by omega) (HR3.out.aside (lit_below (C := w.heap.size) _ (by omega) (by omega) _ _) hlt) (only_up HG3.out (lit_below (C := w.heap.size) _ (by omega) (by omega) _ _) (Nat.le_refl _))
    have := (HP3.out.kid_lit (by omega) HX.out (by simp; omega) (by intro g e; injection e with e; have : wc.heap.size = g := e; simp; omega)).done (B' := w.heap.size) (by omega)
    rw [HB8.out] at this
    exact this
  ·have hK0 : K t'.fields[0].kind := by
    rcases HKK.out with h | h
    ·exact absurd h.1 hd0
    ·exact h.2
   go_upto_region 8 with fail
   go_cut [12] (fun z wx => z = .pointer (some ⟨wc.heap.size, 0, none⟩) ∧ Blk wx wc.heap.size 65 #[.int .i64 t'.fields[0].tag, .string (S t'.fields[0].name), .string (S t'.fields[0].kind), .string (S t'.fields[0].stand)] ∧ PP wx (q + 1) q k [B8 t'.sort] [] [] [] none 0 none 0 ∧ Rdr B wx b ao len cap p ∧ w.grownBy wx (some b))
   case first =>
    clear HU HIH
    go_wp2_with fail
    go_meet
    exact ⟨rfl, KF0.out, HPw.out _ (below_alloc (Below.refl _ _) _), HQ.out _ (below_alloc (Below.refl _ _) _), HGw.out _ (below_alloc (Below.refl _ _) _)⟩
   case rest =>
    obtain ⟨rfl, hKF, hPx, hRx, hGx⟩ := hcut
    have KF := Lib.hid hKF
    have HPx := Lib.hid hPx
    have HRx := Lib.hid hRx
    have HGx := Lib.hid hGx
    clear hKF hPx hRx hGx
    have f0 := KF.out.cell 0
    have f2' := KF.out.cell 2
    simp at f0 f2'
    obtain ⟨hqy, q2, -, g2, -, -, -⟩ := HPx.out.cells
    have hzx := HGx.out.size
    have hlf := KF.out.lt
    have HP1 := Lib.hid (HPx.out.tag_lit (by omega) t'.fields[0].tag)
    have HIw := Lib.hid (fun W1 (hR : Rdr B W1 b ao len cap p) (hg : w.grownBy W1 (some b)) => HIH.out 0 hpos hK0 W1 p hR (by omega) hg)
    have HUj := Lib.hid (HU.out 0 hpos)
    have hqf : ¬ q = wc.heap.size := by omega
    generalize t'.fields[0].kind = kj at *
    generalize t'.fields[0].tag = tj at *
    clear HIH HU KF
    go_wp2_with fail
    refine (HIw.out _ (HRx.out.aside (lit_below (C := w.heap.size) _ (by omega) (by omega) _ _) hlt) (only_up HGx.out (lit_below (C := w.heap.size) _ (by omega) (by omega) _ _) (Nat.le_refl _))).mono ?_
    rintro e w3 ⟨x, qx, p3, rfl, hx, hxk, hxl, hxv, hp, hp', HR3, hg3⟩
    have HP3 := Lib.hid (HP1.out.rowed hg3 (by omega))
    have HG3 := Lib.hid (only_trans (only_up HGx.out (lit_below (C := w.heap.size) _ (by omega) (by omega) _ _) (Nat.le_refl _)) hg3)
    have HX := Lib.hid hxv
    have HY := Lib.hid (HUj.out x hx hxk hxl)
    obtain ⟨hq3, -, c3, -, fz3, -, -⟩ := HP3.out.cells
    have hz3 := HG3.out.size
    have hzz := hg3.size
    simp at hzz
    clear HP1 HIw HUj hg3 hxv HPx HRx HGx hx
    go_wp2_with fail
    go_ret
    refine DrawV.mk_ HY.out rfl (Nat.le_refl _) ?_ (by omega) (by omega) (HR3.out.aside (lit_below (C := w.heap.size) _ (by omega) (by omega) _ _) hlt) (only_up HG3.out (lit_below (C := w.heap.size) _ (by omega) (by omega) _ _) (Nat.le_refl _))
    have := (HP3.out.kid_lit (by omega) HX.out (by simp; omega) (by intro g e; injection e with e; have : wc.heap.size = g := e; simp; omega)).done (B' := w.heap.size) (by omega)
    rw [HB8.out] at this
    exact this
end
end Go.Proofs.YtcjooeklehggaaaGreatDoor
