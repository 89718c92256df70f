/- Lemmas of this seat. -/
import Derived.Test.YtcjooeklehggaaaGreatDoorZPs
import Derived.Test.YtcjooeklehggaaaGreatDoorYBs
import Derived.Test.YtcjooeklehggaaaGreatDoorRDs
import Derived.Test.YtcjooeklehggaaaGreatDoorRGs
set_option linter.unusedVariables false
set_option linter.unusedSimpArgs false
set_option maxRecDepth 100000
namespace Go.Proofs.YtcjooeklehggaaaGreatDoor
open Go.ChangeShapes Go.WideShapes Go.ChangeAt Go.RowKit M
theorem only_drew2 {a w : World} {row : Option Nat} (h : a.grownBy w row) : a.grownBy w.drew row := ⟨h.os, h.tape, h.output, h.size, h.block⟩
theorem Flds.blk {w : World} {B g n c : Nat} {fs : List Fl} (h : Flds w B (.slice (some ⟨g, 0, none⟩) n c) fs) : ∃ cur : Array Value, Blk w g 65 cur ∧ ∀ (k : Nat) (hk : k < fs.length) (j : Nat), j < 4 → cur[k * 4 + j]? = (flCells fs[k])[j]? := by
 have h0 := h
 unfold Flds at h0
 obtain ⟨-, h1 | ⟨g', cap, cur, h1, -, h2, -⟩⟩ := h0
 ·cases h1.1
 ·injection h1 with e1 e2 e3
  injection e1 with e1
  injection e1 with e1 _ _
  subst e1
  have hB : Blk w g 65 cur := h2
  refine ⟨cur, hB, fun k hk j hj => ?_⟩
  rw [← hB.cell]
  exact h.cell k j hk hj
theorem row_cells {W : World} {g j : Nat} {ty : TypeId} {cur : Array Value} {f : Fl} (h : Blk W g ty cur) (hc : ∀ c, c < 4 → cur[j * 4 + c]? = (flCells f)[c]?) :
  W.cell? ⟨g, j * 4, none⟩ = some (.int .i64 f.tag) ∧ W.cell? ⟨g, j * 4 + 1, none⟩ = some (.string (S f.name)) ∧ W.cell? ⟨g, j * 4 + 2, none⟩ = some (.string (S f.kind)) ∧ W.cell? ⟨g, j * 4 + 3, none⟩ = some (.string (S f.stand)) :=
 ⟨(h.cell (j * 4)).trans (hc 0 (by omega)), (h.cell (j * 4 + 1)).trans (hc 1 (by omega)), (h.cell (j * 4 + 2)).trans (hc 2 (by omega)), (h.cell (j * 4 + 3)).trans (hc 3 (by omega))⟩
def TypedA (B0 : Nat) (k : Bs) (t : Ty) (a : Option Addr) (c q : Nat) (w1 wx : World) : Prop :=
 w1.heap.size < q ∧ Blk wx w1.heap.size 61 #[.int .u8 t.sort, .string (S t.name), .slice a t.fields.length c] ∧ PP wx (q + 1) q k [B8 t.sort] [] [] [] none 0 none 0 ∧ Flds wx B0 (.slice a t.fields.length c) t.fields ∧ Below w1.heap.size w1 wx
section
variable {v : Value} {tps : List (Ty × Value)} {B0 B b : Nat} {ao : Option Addr} {len cap : Nat} {p d D : Int} {L : Nat} {k : Bs} {t : Ty} {w : World}
set_option maxHeartbeats 8000000 in
theorem d_typed_R (hD : 0 ≤ D) (hL : L ≤ 1500000) (hd : -100 ≤ d ∧ d ≤ 100) (IH : 0 < d → IVal v tps B0 B b ao len cap (d - 1) D L (fun _ => True)) (hg : ∀ t ∈ tps.map (·.1), GoodT t) (hva : validB (tps.map (·.1)) = true) (htm : t ∈ tps.map (·.1))
  (h64 : at_ k 0 = 64) (hko : kOk k = true) (hr : refT (tps.map (·.1)) k = some t) (ha : Asc t.fields) (h82 : t.sort = 82) (h : Rdr B w b ao len cap p) (h1 : p + (8 * (D + 1)) ≤ 890000) (hT : Tys w B0 v tps) (hl8 : tps.length ≤ 8) (hbB : b < B0) (hB : B0 ≤ w.heap.size) :
  Calls Tryz.prog 108 #[.pointer (some ⟨b, 0, none⟩), v, .string (S k), .int .i64 d] w (DrawV (tps.map (·.1)) k B b ao len cap p (8 * (D + 1)) (8 * L + 82) w) := by
 have hgt := hg t htm
 have H := Lib.hid h
 have hlt := h.lt
 have hn8 : t.fields.length ≤ 8 := hgt.2.2.1
 have HFIN := Lib.hid (fun (j : Nat) (gs : List Int) (l : List V) (hj : j ≤ 8) (hR : RecP (tps.map (·.1)) t j L gs l) => And.intro (hR.tv hko h64 hr h82) (hR.len hgt h64 hj))
 have HMORE := Lib.hid (fun (j : Nat) (gs : List Int) (l : List V) (hR : RecP (tps.map (·.1)) t j L gs l) (hj : j < t.fields.length) (y : V) (hy : M.Tv (tps.map (·.1)) y) (hk : y.kind = t.fields[j].kind) (ho : outV y ≠ standM (tps.map (·.1)) t.fields[j]) (hl : (outV y).length ≤ L) => hR.more ha hj hy hk ho hl)
 have HIH := Lib.hid (fun (hd0 : 0 < d) (j : Nat) (hj : j < t.fields.length) (W : World) (p' : Int) (hR : Rdr B W b ao len cap p') (hp : p' + D ≤ 890000) (hgw : w.grownBy W (some b)) =>
  IH hd0 t.fields[j].kind p' W ((hgt.2.2.2.2 _ (List.getElem_mem hj)).2.2.2.2.2.1 (by omega)) (valid_core hva htm (by omega) (List.getElem_mem hj)) trivial hR hp (hT.rowed hgw hbB) (by have := hgw.size; omega))
 have HOUT := Lib.hid (fun (x : V) (hx : M.Tv (tps.map (·.1)) x) (hl : (outV x).length ≤ L) (N : Nat → Prop) (q : Nat) (W : World) (h : VAt W N x q) => k_out hg x hx (by omega) N q W h)
 have HST := Lib.hid (fun (j : Nat) (hj : j < t.fields.length) (W : World) (hgw : w.grownBy W (some b)) => k_stand v tps B0 hl8 hg hva t.fields[j] ((hgt.2.2.2.2 _ (List.getElem_mem hj)).2.2.2.2.2.1 (by omega)) W (hT.rowed hgw hbB) (by have := hgw.size; omega))
 unfold fv at HST
 have HRF := Lib.hid (k_ref v tps B0 k w hT (by omega) hB hko)
 rw [hr] at HRF
 have e0 : (t.sort == 69) = false := by simp [h82]
 have e1 : (t.sort == 85) = false := by simp [h82]
 have HB8 := Lib.hid (show [B8 t.sort] = [82] by rw [h82]; rfl)
 have ew : IntKind.i64.wrap (d - 1) = d - 1 := IntWalk.i64_in _ (by omega)
 clear h hr ha h82 h64 hko hT hl8 IH hva htm hg hgt
 go_enter Tryz.func108, Tryz.ntmps108
 go_wp2_with fail
 refine HRF.out.mono ?_
 rintro e w1 ⟨t', u, rfl, ht, hF, hb⟩
 obtain rfl : t' = t := ht _ rfl
 obtain ⟨a, c, rfl, -, hfo⟩ := hF.form
 have HFO := Lib.hid hfo
 have HF := Lib.hid hF
 have HB1 := Lib.hid hb
 have hbz := hb.size
 clear hF hfo ht HRF
 unfold tv
 go_upto_region 2 with fail
 go_cut [11] (fun z wx => ∃ q, z = vp q ∧ TypedA B0 k t' a c q w1 wx)
 case first =>
  have KT := Lib.hid (fun o1 o2 => ((Blk.new w1 61 #[.int .u8 t'.sort, .string (S t'.name), .slice a t'.fields.length c]).alloc o1).alloc o2)
  have KV := Lib.hid (fun o1 o2 => Blk.new ((w1.alloc o1).alloc o2) 133 #[.string (S k), .string (S [B8 t'.sort]), .slice none 0 0, .slice none 0 0])
  have hc := conv1
  have hc1 := cellIs_some
  have hc2 := cellB_some
  go_wp2_with fail
  go_meet
  refine ⟨_, rfl, by omega, KT.out _ _, ?_, HF.out.below (below_alloc (below_alloc (below_alloc (Below.refl _ _) _) _) _), below_alloc (below_alloc (below_alloc (Below.refl _ _) _) _) _⟩
  refine PP.start _ (by omega) ?_
  have := KV.out (.cells #[.int .u8 t'.sort, .string (S t'.name), .slice a t'.fields.length c] 61) (.cells #[.int .u8 t'.sort] 5)
  rw [World.size_alloc, World.size_alloc] at this
  exact this
 case rest =>
  obtain ⟨q, rfl, hq, hK, hP, hFx, hbx⟩ := hcut
  have t0 := hK.cell 0
  have t2 := hK.cell 2
  simp at t0 t2
  have HP := Lib.hid hP
  have HFx := Lib.hid hFx
  have n1 : ¬ w1.heap.size = b := by omega
  have n2 : ¬ q = b := by omega
  have hxz := hbx.size
  obtain ⟨hqx, p2, -, f2, -, -, -⟩ := hP.cells
  have HG := Lib.hid (only_beh (only_beh (World.grownBy.refl w (some b)) hb) hbx)
  have HQ := Lib.hid (fun W (hbw : Below wc.heap.size wc W) => ((H.out.below hb).below hbx).below hbw)
  have HPw := Lib.hid (fun W (hbw : Below wc.heap.size wc W) => hP.belowed hbw)
  have HGw := Lib.hid (fun W (hbw : Below wc.heap.size wc W) => only_beh HG.out hbw)
  have hKT0 := hK
  clear hK hP hFx hbx hb HB1 HF
  have HKT := Lib.hid hKT0
  obtain ⟨cur, HKG, HCUR⟩ : ∃ cur : Array Value, Hid (∀ g, a = some ⟨g, 0, none⟩ → Blk wc g 65 cur) ∧ Hid (∀ (k : Nat) (hk : k < t'.fields.length) (j : Nat), j < 4 → cur[k * 4 + j]? = (flCells t'.fields[k])[j]?) := by
   rcases HFO.out with ⟨rfl, h0⟩ | ⟨g, rfl, -, -⟩
   ·exact ⟨#[], Lib.hid (by intro g e; cases e), Lib.hid (by intro k hk; rw [h0] at hk; simp at hk)⟩
   ·obtain ⟨cur, h1, h2⟩ := HFx.out.blk
    exact ⟨cur, Lib.hid (by intro g' e; injection e with e; injection e with e _ _; subst e; exact h1), h2⟩
  have HQ0 := Lib.hid (HQ.out wc (Below.refl _ _))
  clear HFx HQ HPw HGw p2 f2
  go_wp2_with fail
  clear t0 t2
  go_loopw [13] (fun i wr => ∃ j : Nat, i = .int .i64 j ∧ j ≤ t'.fields.length ∧ ∃ (gs : List Int) (l : List V) (ps : List Nat) (a1 : Option Addr) (c1 : Nat) (a2 : Option Addr) (c2 : Nat) (q' : Int), p ≤ q' ∧ q' ≤ p + j * (D + 1) ∧ Hid (RecP (tps.map (·.1)) t' j L gs l) ∧ Hid (PP wr (q + 1) q k [B8 t'.sort] gs l ps a1 c1 a2 c2) ∧ Hid (Blk wr w1.heap.size 61 #[.int .u8 t'.sort, .string (S t'.name), .slice a t'.fields.length c]) ∧ Hid (∀ g, a = some ⟨g, 0, none⟩ → Blk wr g 65 cur) ∧ Hid (Rdr B wr b ao len cap q') ∧ Hid (w.grownBy wr (some b))) (fun i _ => 10 - (intOf i).toNat)
  case atStart => exact ⟨0, rfl, by omega, [], [], [], none, 0, none, 0, p, by omega, by simp, RecP.nil_ _ _ _, HP.out, HKT.out, HKG.out, HQ0.out, HG.out⟩
  case round =>
   obtain ⟨j, rfl, hjn, gs, l, ps, a1, c1, a2, c2, q', q0, q1, HRec, HPP, HTr, HGr, HQr, HGw⟩ := hrel
   clear HP HKT HKG HQ0 HG
   have hnD := mulD (m := 8) (show j ≤ 8 by omega) (show 0 ≤ D + 1 by omega)
   have hwz := HGw.out.size
   have hqp : q < wr.heap.size := HPP.out.blk.lt
   obtain ⟨-, -, -, -, -, hA1, hA2⟩ := HPP.out.cells
   have HA1 := Lib.hid hA1
   have HA2 := Lib.hid hA2
   clear hA1 hA2
   have tr2 := HTr.out.cell 2
   simp at tr2
   by_cases hj : j < t'.fields.length
   case neg =>
    obtain rfl : j = t'.fields.length := by omega
    have HF2 := Lib.hid (HFIN.out _ gs l (by omega) HRec.out)
    have HV := Lib.hid (HPP.out.done (B' := w.heap.size) (by omega))
    rw [HB8.out] at HV
    clear HFIN HMORE HIH HOUT HST HPP HTr HGr HRec HCUR
    go_wp2_with fail
    go_ret
    exact DrawV.mk_ HF2.out rfl (Nat.le_refl _) HV.out (by omega) (by omega) HQr HGw.out
   by_cases hd0 : 0 < d
   case neg =>
    have HF2 := Lib.hid (HFIN.out _ gs l (by omega) HRec.out)
    have HV := Lib.hid (HPP.out.done (B' := w.heap.size) (by omega))
    rw [HB8.out] at HV
    clear HFIN HMORE HIH HOUT HST HPP HTr HGr HRec HCUR
    go_wp2_with fail
    go_ret
    exact DrawV.mk_ HF2.out rfl (Nat.le_refl _) HV.out (by omega) (by omega) HQr HGw.out
   obtain ⟨g, rfl, hgB, hgw⟩ : ∃ g, a = some ⟨g, 0, none⟩ ∧ B0 ≤ g ∧ g < w1.heap.size := by
    rcases HFO.out with ⟨_, h0⟩ | h0
    ·rw [h0] at hj; simp at hj
    ·exact h0
   have n3 : ¬ g = b := by omega
   have hnS := mulS j (D + 1)
   have hnD7 := mulD (m := 7) (show j ≤ 7 by omega) (show 0 ≤ D + 1 by omega)
   have HKGr := Lib.hid (HGr.out g rfl)
   have HCj := Lib.hid (HCUR.out j hj)
   obtain ⟨y0, y1, y2, y3⟩ := row_cells HKGr.out HCj.out
   have HIw := Lib.hid (HIH.out hd0 j hj wr q' HQr.out (by omega) HGw.out)
   have HMj := Lib.hid (fun y hy hk ho hl => HMORE.out j gs l HRec.out hj y hy hk ho hl)
   have HSj := Lib.hid (HST.out j hj)
   have HSK := Lib.hid HRec.out.skip
   clear HGr HFIN HMORE HIH HST HCUR
   obtain ⟨F, hF⟩ : ∃ F, t'.fields[j] = F := ⟨_, rfl⟩
   rw [hF] at y0 y1 y2 y3 HIw HMj HSj HCj
   have HFF := Lib.hid hF
   clear hF
   go_wp2_with fail
   refine HIw.out.mono ?_
   rintro e w3 ⟨x, qx, p3, rfl, hx, hxk, hxl, hxv, hp, hp', HR3, hg3⟩
   have HP3 := Lib.hid (HPP.out.rowed hg3 (by omega))
   have HT3 := Lib.hid (HTr.out.grown hg3 (by simpa using n1))
   have HK3 := Lib.hid (HKGr.out.grown hg3 (by simpa using n3))
   have HG3 := Lib.hid (only_trans HGw.out hg3)
   have HX3 := Lib.hid hxv
   have HTX := Lib.hid (And.intro hx hxk)
   have hz3 := hg3.size
   have HOx := Lib.hid (fun (W : World) (hgw : w3.grownBy W (some b)) => HOUT.out x hx hxl _ qx W (HX3.out.rowed hgw (by intro r e; injection e with e; subst e; show ¬ wr.heap.size ≤ b; omega)))
   have HSx := Lib.hid (fun (W : World) (hgw : w3.grownBy W (some b)) => HSj.out W (only_trans HG3.out hgw))
   have HNEW := Lib.hid (fun (ho : outV x ≠ standM (tps.map (·.1)) F) => HMj.out x hx hxk ho hxl)
   rw [show standV (tps.map (·.1)) F = standM (tps.map (·.1)) F from rfl] at HSx
   obtain ⟨O1, hO1⟩ : ∃ O1, outV x = O1 := ⟨_, rfl⟩
   obtain ⟨O2, hO2⟩ : ∃ O2, standM (tps.map (·.1)) F = O2 := ⟨_, rfl⟩
   rw [hO1] at HOx HNEW
   rw [hO2] at HSx HNEW
   clear hg3 hxv hx HIw HPP HTr HKGr HMj HSj HRec HQr HGw y0 y1 y2 y3 tr2 hO1 hO2
   obtain ⟨m, m0, m1, HPK0⟩ := pick_det HR3.out (by omega) 3 (by omega) (by omega)
   have HPK := Lib.hid HPK0
   clear HPK0
   have tr2 := HT3.out.cell 2
   simp at tr2
   obtain ⟨y0, y1, y2, y3⟩ := row_cells HK3.out HCj.out
   have HKTw := Lib.hid (fun (W : World) (hgw : w3.grownBy W (some b)) => HT3.out.grown hgw (by simpa using n1))
   have HKGw := Lib.hid (fun (W : World) (hgw : w3.grownBy W (some b)) => HK3.out.grown hgw (by simpa using n3))
   have l1 : w1.heap.size < w3.heap.size := by omega
   have l2 : g < w3.heap.size := by omega
   go_upto_region 18 with fail
   go_cut [118] (fun z wx => ∃ bb : Bool, z = .bool bb ∧ (bb = true → O1 ≠ O2) ∧ Rdr B wx b ao len cap (p3 + 1) ∧ w3.grownBy wx (some b))
   case first =>
    clear HFF HNEW HTX HX3 HSK HP3 HFO HB8 HG3 HR3 HOUT H HT3 HK3
    by_cases hm : 0 < m
    ·have hmt : decide (0 < m) = true := decide_eq_true hm
     go_region_law (first
      | (go_simp; go_at_call 32; (with_reducible refine (HPK.out _ (by repeat (with_reducible first | exact Below.refl _ _ | apply below_drew | apply below_alloc))).mono ?_); rintro e w4 ⟨rfl, HR4, -, hc4, hf4, hg4⟩; have HG4 := Lib.hid (only_trans (only_drew2 (World.grownBy.refl w3 (some b))) hg4.out))
      | (go_simp; go_at_call 54; (with_reducible refine (HOx.out _ (by repeat (first | exact HG5.out | exact HG4.out | exact World.grownBy.refl _ _ | with_reducible apply only_drew2 | with_reducible apply only_alloc))).mono ?_); rintro e w5 ⟨rfl, hb5⟩; have HG5 := Lib.hid (only_beh (by repeat (first | exact HG5.out | exact HG4.out | exact World.grownBy.refl _ _ | with_reducible apply only_drew2 | with_reducible apply only_alloc)) hb5); have tr5 := (HKTw.out _ HG5.out).cell 2; simp at tr5; obtain ⟨u0, u1, u2, u3⟩ := row_cells (HKGw.out _ HG5.out) HCj.out; have HR5 := Lib.hid (HR4.out.below hb5))
      | (go_simp; go_at_call 38; (with_reducible refine (HSx.out _ (by repeat (first | exact HG5.out | exact HG4.out | exact World.grownBy.refl _ _ | with_reducible apply only_drew2 | with_reducible apply only_alloc))).mono ?_); rintro e w6 ⟨rfl, hb6⟩; have HG6 := Lib.hid (only_beh HG5.out hb6); have HR6 := Lib.hid (HR5.out.below hb6)))
     all_goals
      go_wp2_with fail
      go_meet
      exact ⟨_, rfl, (by intro h; simpa using h), HR6.out, HG6.out⟩
    ·obtain rfl : m = 0 := by omega
     refine wp_region_any (by kernel_rfl) ?_
     (try change wpAny _ _ _ _ _ _ _ (World.drew _))
     refine wpAny_take (i := 0) (v := ?_) rfl (by kernel_rfl) (by kernel_rfl) (by kernel_rfl) (fun _ _ _ h => h) (Or.inl ⟨by rfl, ?_⟩) ?_
     rotate_left
     ·intro w0; go_simp; (try with_reducible rfl)
     (try simp only [Act.put, List.getElem_toArray, List.getElem_cons_succ, List.getElem_cons_zero, List.setIfInBounds_toArray, List.set_cons_zero, List.set_cons_succ])
     refine wpAny_ready (rs := [1]) (by kernel_rfl) (by simp) ?_
     refine AllReady.cons rfl (fun K hK => ?_) AllReady.nil
     go_simp
     go_at_call 32
     refine (HPK.out _ (by repeat (with_reducible first | exact Below.refl _ _ | apply below_drew | apply below_alloc))).mono ?_
     rintro e w4 ⟨rfl, HR4, -, hc4, hf4, hg4⟩
     have HG4 := Lib.hid (only_trans (only_drew2 (World.grownBy.refl w3 (some b))) hg4.out)
     go_wp2_with fail
     try (refine hK _ _ ?_; clear hK K)
     (try simp only [Act.put, List.getElem_toArray, List.getElem_cons_succ, List.getElem_cons_zero, List.setIfInBounds_toArray, List.set_cons_zero, List.set_cons_succ])
     refine wpAny_take (i := 2) (v := ?_) rfl (by kernel_rfl) (by kernel_rfl) (by kernel_rfl) (fun _ _ _ h => h) (Or.inl ⟨by rfl, ?_⟩) ?_
     rotate_left
     ·intro w0; go_simp; (try with_reducible rfl)
     (try simp only [Act.put, List.getElem_toArray, List.getElem_cons_succ, List.getElem_cons_zero, List.setIfInBounds_toArray, List.set_cons_zero, List.set_cons_succ])
     refine wpAny_take (i := 3) (v := ?_) rfl (by kernel_rfl) (by kernel_rfl) (by kernel_rfl) (fun _ _ _ h => h) (Or.inl ⟨by rfl, ?_⟩) ?_
     rotate_left
     ·intro w0; go_simp; (try with_reducible rfl)
     (try simp only [Act.put, List.getElem_toArray, List.getElem_cons_succ, List.getElem_cons_zero, List.setIfInBounds_toArray, List.set_cons_zero, List.set_cons_succ])
     refine wpAny_take (i := 4) (v := undef) rfl (by kernel_rfl) (by kernel_rfl) (by kernel_rfl) (fun _ _ _ h => h) (Or.inr ⟨by rfl, rfl⟩) ?_
     (try simp only [Act.put, List.getElem_toArray, List.getElem_cons_succ, List.getElem_cons_zero, List.setIfInBounds_toArray, List.set_cons_zero, List.set_cons_succ])
     refine wpAny_take (i := 6) (v := undef) rfl (by kernel_rfl) (by kernel_rfl) (by kernel_rfl) (fun _ _ _ h => h) (Or.inr ⟨by rfl, rfl⟩) ?_
     (try simp only [Act.put, List.getElem_toArray, List.getElem_cons_succ, List.getElem_cons_zero, List.setIfInBounds_toArray, List.set_cons_zero, List.set_cons_succ])
     refine wpAny_take (i := 7) (v := undef) rfl (by kernel_rfl) (by kernel_rfl) (by kernel_rfl) (fun _ _ _ h => h) (Or.inr ⟨by rfl, rfl⟩) ?_
     (try simp only [Act.put, List.getElem_toArray, List.getElem_cons_succ, List.getElem_cons_zero, List.setIfInBounds_toArray, List.set_cons_zero, List.set_cons_succ])
     refine wpAny_take (i := 8) (v := undef) rfl (by kernel_rfl) (by kernel_rfl) (by kernel_rfl) (fun _ _ _ h => h) (Or.inr ⟨by rfl, rfl⟩) ?_
     (try simp only [Act.put, List.getElem_toArray, List.getElem_cons_succ, List.getElem_cons_zero, List.setIfInBounds_toArray, List.set_cons_zero, List.set_cons_succ])
     refine wpAny_take (i := 9) (v := undef) rfl (by kernel_rfl) (by kernel_rfl) (by kernel_rfl) (fun _ _ _ h => h) (Or.inr ⟨by rfl, rfl⟩) ?_
     (try simp only [Act.put, List.getElem_toArray, List.getElem_cons_succ, List.getElem_cons_zero, List.setIfInBounds_toArray, List.set_cons_zero, List.set_cons_succ])
     refine wpAny_take (i := 10) (v := undef) rfl (by kernel_rfl) (by kernel_rfl) (by kernel_rfl) (fun _ _ _ h => h) (Or.inr ⟨by rfl, rfl⟩) ?_
     (try simp only [Act.put, List.getElem_toArray, List.getElem_cons_succ, List.getElem_cons_zero, List.setIfInBounds_toArray, List.set_cons_zero, List.set_cons_succ])
     refine wpAny_take (i := 11) (v := undef) rfl (by kernel_rfl) (by kernel_rfl) (by kernel_rfl) (fun _ _ _ h => h) (Or.inr ⟨by rfl, rfl⟩) ?_
     (try simp only [Act.put, List.getElem_toArray, List.getElem_cons_succ, List.getElem_cons_zero, List.setIfInBounds_toArray, List.set_cons_zero, List.set_cons_succ])
     refine wpAny_ready (rs := [5]) (by kernel_rfl) (by simp) ?_
     refine AllReady.cons rfl (fun K hK => ?_) AllReady.nil
     go_simp
     try (refine hK _ _ ?_; clear hK K)
     (try simp only [Act.put, List.getElem_toArray, List.getElem_cons_succ, List.getElem_cons_zero, List.setIfInBounds_toArray, List.set_cons_zero, List.set_cons_succ])
     refine wpAny_ready (rs := [12]) (by kernel_rfl) (by simp) ?_
     refine AllReady.cons rfl (fun K hK => ?_) AllReady.nil
     go_simp
     try (refine hK _ _ ?_; clear hK K)
     (try simp only [Act.put, List.getElem_toArray, List.getElem_cons_succ, List.getElem_cons_zero, List.setIfInBounds_toArray, List.set_cons_zero, List.set_cons_succ])
     refine wpAny_take (i := 13) (v := undef) rfl (by kernel_rfl) (by kernel_rfl) (by kernel_rfl) (fun _ _ _ h => h) (Or.inr ⟨by rfl, rfl⟩) ?_
     (try simp only [Act.put, List.getElem_toArray, List.getElem_cons_succ, List.getElem_cons_zero, List.setIfInBounds_toArray, List.set_cons_zero, List.set_cons_succ])
     refine wpAny_take (i := 14) (v := ?_) rfl (by kernel_rfl) (by kernel_rfl) (by kernel_rfl) (fun _ _ _ h => h) (Or.inl ⟨by rfl, ?_⟩) ?_
     rotate_left
     ·intro w0; go_simp; (try with_reducible rfl)
     (try simp only [Act.put, List.getElem_toArray, List.getElem_cons_succ, List.getElem_cons_zero, List.setIfInBounds_toArray, List.set_cons_zero, List.set_cons_succ])
     refine wpAny_done (by kernel_rfl) ?_ _
     go_wp2_with fail
     go_meet
     exact ⟨_, rfl, (by intro h; cases h), HR4.out, HG4.out⟩
   case rest =>
    obtain ⟨bb, rfl, hbb, hR4, hg4⟩ := hcut
    have HP4 := Lib.hid (HP3.out.rowed hg4 (by omega))
    have HT4 := Lib.hid (HKTw.out _ hg4)
    have HK4 := Lib.hid (HKGw.out _ hg4)
    have HG4 := Lib.hid (only_trans HG3.out hg4)
    have HX4 := Lib.hid (HX3.out.rowed hg4 (by intro r e; injection e with e; subst e; show ¬ wr.heap.size ≤ b; omega))
    have HR4 := Lib.hid hR4
    have hz4 := hg4.size
    clear hR4 hg4 HKTw HKGw HOx HSx HP3 HT3 HK3 HG3 HX3 HR3 HPK tr2 y0 y1 y2 y3
    cases bb with
    | false =>
     clear HNEW HX4 hbb
     go_wp2_with fail
     go_roundw
     case rel => exact ⟨j + 1, by go_num, by omega, gs, l, ps, a1, c1, a2, c2, p3 + 1, by omega, by omega, HSK.out, HP4.out, HT4.out, Lib.hid (by intro g' e; injection e with e; injection e with e _ _; subst e; exact HK4.out), HR4.out, HG4.out⟩
     case measure => simp [intOf]; omega
    | true =>
     have HREC := Lib.hid (HNEW.out (hbb rfl))
     have hgl : gs.length ≤ 3000000 := by have a := HSK.out.1; have b := HSK.out.2.1; omega
     have hll : l.length ≤ 3000000 := by have b := HSK.out.2.1; omega
     have HXF := Lib.hid (Fr.of_lt (B := q + 1) (u := .slice a1 gs.length c1) (u' := .slice a2 l.length c2) HX4.out (by omega) HA1.out HA2.out)
     have HPf := Lib.hid (fun W (hbw : Below wc.heap.size wc W) => HP4.out.belowed hbw)
     have HXf := Lib.hid (fun W (hbw : Below wc.heap.size wc W) => HXF.out.belowed hbw)
     have HTf := Lib.hid (fun W (hbw : Below wc.heap.size wc W) => And.intro (HT4.out.keep hbw) (HK4.out.keep hbw))
     obtain ⟨hq4, p24, p34, -, -, -, -⟩ := HP4.out.cells
     have tr4 := HT4.out.cell 2
     simp at tr4
     obtain ⟨z0, z1, z2, z3⟩ := row_cells HK4.out HCj.out
     have hwc : w.heap.size ≤ wc.heap.size := HG4.out.size
     have hgq : g < wc.heap.size := by omega
     have h1q : w1.heap.size < wc.heap.size := by omega
     clear HNEW HX4 hbb HSK HXF HOUT z1 z2 z3
     go_upto_region 19 with fail
     go_cut [131] (fun z wx => ∃ g' cap', PP wx (q + 1) q k [B8 t'.sort] (gs ++ [F.tag]) l ps (some ⟨g', 0, none⟩) cap' a2 c2 ∧ VAt wx (Fr (q + 1) (.slice (some ⟨g', 0, none⟩) (gs ++ [F.tag]).length cap') (.slice a2 l.length c2)) x qx ∧ Blk wx w1.heap.size 61 #[.int .u8 t'.sort, .string (S t'.name), .slice (some ⟨g, 0, none⟩) t'.fields.length c] ∧ Blk wx g 65 cur ∧ Rdr B wx b ao len cap (p3 + 1) ∧ w.grownBy wx (some b))
     case first =>
      clear HFF HTX HFO HB8 H HREC HCj
      go_region_law (refine step_app_tg rfl (.tmp 123) (.tmp 130) rfl (fun b => q + 1 ≤ b) _ gs (by simp [Act.eval, Act.put]) (HPf.out _ (by repeat (with_reducible first | exact Below.refl _ _ | apply below_drew | apply below_alloc))).tgs wc.heap.size F.tag (by simp [Act.eval, Act.put]) (by simp [go_sem]) hgl (wc.heap.size + 1) (by simp) ?_; intro g' cap' w' hk' hg' hgg hlt'; obtain ⟨kq, fq, lq⟩ := PP.after_tag (HPf.out _ (by repeat (with_reducible first | exact Below.refl _ _ | apply below_drew | apply below_alloc))) hg')
      all_goals
       go_wp2_with fail
       go_meet
       obtain ⟨u1, u2⟩ := PP.tag' (HPf.out _ (by repeat (with_reducible first | exact Below.refl _ _ | apply below_drew | apply below_alloc))) (wc.heap.size + 1) (by simp) (HXf.out _ (by repeat (with_reducible first | exact Below.refl _ _ | apply below_drew | apply below_alloc))) hk' hg' hgg (by omega)
       have HBe := (HPf.out _ (by repeat (with_reducible first | exact Below.refl _ _ | apply below_drew | apply below_alloc))).set_tag (by repeat (with_reducible first | exact Below.refl _ _ | apply below_drew | apply below_alloc)) hwc hg' (show w.heap.size ≤ q by omega) (.slice (some ⟨g', 0, none⟩) (gs.length + 1) cap')
       exact ⟨g', cap', u1, u2, ((HPf.out _ (by repeat (with_reducible first | exact Below.refl _ _ | apply below_drew | apply below_alloc))).beside_tag hg' (HTf.out _ (by repeat (with_reducible first | exact Below.refl _ _ | apply below_drew | apply below_alloc))).1 (by omega)).far (by show w1.heap.size ≠ q; omega) _, ((HPf.out _ (by repeat (with_reducible first | exact Below.refl _ _ | apply below_drew | apply below_alloc))).beside_tag hg' (HTf.out _ (by repeat (with_reducible first | exact Below.refl _ _ | apply below_drew | apply below_alloc))).2 (by omega)).far (by show g ≠ q; omega) _, HR4.out.aside HBe hlt, only_up HG4.out HBe (Nat.le_refl _)⟩
     case rest =>
      obtain ⟨g', cap', hP5, hX5, hT5, hK5, hR5, hG5⟩ := hcut
      have hps := hP5.mny.1
      have PX := Lib.hid (hP5.belowed (below_alloc (Below.refl _ _) (.cells #[vp qx] 80)))
      have TX := Lib.hid (hT5.alloc (.cells #[vp qx] 80))
      have KX := Lib.hid (hK5.alloc (.cells #[vp qx] 80))
      have VX := Lib.hid (hX5.belowed (below_alloc (Below.refl _ _) (.cells #[vp qx] 80)))
      obtain ⟨hqc, -, p3c, -, -, -, -⟩ := hP5.cells
      have hz5 : w.heap.size ≤ wc.heap.size := hG5.size
      have HR5 := Lib.hid hR5
      have HG5 := Lib.hid hG5
      have hq5 : q + 1 ≤ wc.heap.size := by omega
      clear hP5 hX5 hT5 hK5 hR5 hG5 HPf HXf HTf HP4 HT4 HK4 HR4 HG4 p24 p34 tr4 z0 hq4 hwc hgq h1q
      go_wp2_with (at_builtin; refine app_kid rfl _ _ rfl (fun b => q + 1 ≤ b) _ ps rfl PX.out.kds wc.heap.size qx rfl (by simp [go_sem]) (by omega) (wc.heap.size + 1) (by simp) ?_)
      intro g2 cap2 w' hk' hg' hgg hlt'
      have hgg2 : (Value.slice a2 l.length c2).ownBlock = some g2 ∨ g2 = (wc.alloc (.cells #[vp qx] 80)).heap.size := by rw [World.size_alloc]; exact hgg
      have HNew := Lib.hid (PX.out.kid1 VX.out (hk'.imp (by intro b h1 h2; rw [World.size_alloc]; exact h2)) hg' hgg2 (by simp; omega))
      have TY := Lib.hid (PX.out.beside_kid hg' TX.out (by omega))
      have KY := Lib.hid (PX.out.beside_kid hg' KX.out (by omega))
      have KQ := Lib.hid (PX.out.blk.grown hg' (fun e => by have := PX.out.kds.2 _ e.symm; omega))
      have HBe := Lib.hid (PX.out.set_kid (below_alloc (Below.refl _ _) _) hz5 hg' (show w.heap.size ≤ q by omega) (.slice (some ⟨g2, 0, none⟩) (l.length + 1) cap2))
      have q3 := KQ.out.cell 3
      have f3 := KQ.out.frozen 3
      simp at q3
      have hqw : q < w'.heap.size := KQ.out.lt
      have HRN := Lib.hid (HR5.out.aside HBe.out hlt)
      have HGN := Lib.hid (only_up HG5.out HBe.out (Nat.le_refl _))
      clear hk' hg' hgg hgg2 PX KX TX VX KQ HBe HR5 HG5
      go_wp2_with fail
      go_roundw
      case rel => exact ⟨j + 1, by go_num, by omega, gs ++ [F.tag], l ++ [x], ps ++ [qx], some ⟨g', 0, none⟩, cap', some ⟨g2, 0, none⟩, cap2, p3 + 1, by omega, by omega, HREC.out, HNew.out, TY.out.far (by show w1.heap.size ≠ q; omega) _, Lib.hid (by intro g9 e; injection e with e; injection e with e _ _; subst e; exact KY.out.far (by show g ≠ q; omega) _), HRN.out, HGN.out⟩
      case measure => simp [intOf]; omega
end
end Go.Proofs.YtcjooeklehggaaaGreatDoor
