/- Lemmas of this seat. -/
import Derived.Test.YtcjooeklehggaaaGreatDoorYBs
import Derived.Test.YtcjooeklehggaaaGreatDoorYRs
set_option linter.unusedVariables false
set_option linter.unusedSimpArgs false
set_option maxRecDepth 100000
namespace Go.Proofs.YtcjooeklehggaaaGreatDoor
open Go.ChangeShapes Go.WideShapes Go.ChangeAt Go.RowKit M
def RetNew (w : World) (N : Nat → Prop) (x : V) (e : Ending) (w' : World) : Prop := ∃ p, e = .returned (vp p) ∧ Below w.heap.size w w' ∧ VAt w' (fun b => N b ∨ w.heap.size ≤ b) x p
set_option maxHeartbeats 4000000 in
theorem k_without {k t : Bs} {gs : List Int} {l : List V} {N : Nat → Prop} {p : Nat} {w : World} (tag : Int) (hv : VAt w N (.mk k t gs l) p) (hgl : gs.length = l.length) (hll : l.length ≤ 1000000) :
  Calls Tryz.prog 61 #[vp p, .int .i64 tag] w (RetNew w N (.mk k t (woG tag gs l).1 (woG tag gs l).2)) := by
 obtain ⟨ps, at_, ct, ak, ck, hpN, hblk, hTg, hKd, hM⟩ := hv.parts
 have hpl := hM.1
 have c0 := hblk.cell 0
 have c1 := hblk.cell 1
 have hpw := hblk.lt
 simp at c0 c1
 rw [← woG_tags tag gs l ps hpl]
 have HM := Lib.hid (fun W (hb : Below w.heap.size w W) => many_wo tag gs l ps (hM.belowed hb))
 have HC := Lib.hid (fun W (hb : Below w.heap.size w W) => (⟨(hblk.keep hb).cell 2, (hblk.keep hb).cell 3, hTg.rowed (grown_of_below hb none) (by intro r e; cases e), hKd.rowed (grown_of_below hb none) (by intro r e; cases e)⟩ :
  W.cell? ⟨p, 2, none⟩ = some (.slice at_ gs.length ct) ∧ W.cell? ⟨p, 3, none⟩ = some (.slice ak ps.length ck) ∧ Tgs W N (.slice at_ gs.length ct) gs ∧ Kids W N (.slice ak ps.length ck) ps))
 obtain ⟨F, hF⟩ : ∃ F, woG tag gs ps = F := ⟨_, rfl⟩
 have HF := Lib.hid hF
 rw [hF] at HM ⊢
 obtain ⟨n, hn⟩ : ∃ n, ps.length = n := ⟨_, rfl⟩
 have hgn : gs.length = n := by omega
 rw [hn, hgn] at HC
 have HN := Lib.hid hn; have HGN := Lib.hid hgn
 have hnn : n ≤ 1000000 := by omega
 clear hv hM hTg hKd hblk hpl hgl hF hn hgn hll
 go_enter Tryz.func61, Tryz.ntmps61
 go_upto_region 1 with fail
 go_cut [5] (fun x wx => x = vp w.heap.size ∧ Blk wx w.heap.size 133 #[.string (S k), .string (S t), .slice none 0 0, .slice none 0 0] ∧ Below w.heap.size w wx)
 case first =>
  clear HM HC HF HN HGN
  go_region
  all_goals
   go_wp2_with fail
   go_meet
   exact ⟨rfl, by first | with_reducible exact Blk.new _ _ _ | exact (Blk.new _ _ _).keep (below_drew (Below.refl _ _)), by (repeat (first | exact Below.refl _ _ | apply below_drew | apply below_draws | apply below_alloc | (refine below_trans ?_ (by assumption)) | (refine Below.trans ?_ (by assumption))))⟩
 case rest =>
  obtain ⟨rfl, hK, hbw⟩ := hcut
  have PQ0 := Lib.hid (PQ.start (B := w.heap.size + 1) wc (Nat.lt_succ_self _) hK)
  have HB0 := Lib.hid hbw
  clear hK hbw c0 c1
  go_wp2_with fail
  go_loopw [6] (fun i wr => ∃ j : Nat, j ≤ n ∧ i = .int .i64 j ∧ ∃ (G : List Int) (P : List Nat) (a : Option Addr) (c : Nat) (a' : Option Addr) (c' : Nat), G.length ≤ j ∧ P.length ≤ j ∧ Hid (PQ wr (w.heap.size + 1) w.heap.size k t G P a c a' c') ∧ Hid (G ++ (woG tag (gs.drop j) (ps.drop j)).1 = F.1 ∧ P ++ (woG tag (gs.drop j) (ps.drop j)).2 = F.2) ∧ Hid (Below w.heap.size w wr)) (fun i _ => n - (intOf i).toNat)
  case atStart => exact ⟨0, by omega, rfl, [], [], none, 0, none, 0, by simp, by simp, PQ0.out, by rw [List.nil_append, List.nil_append]; show (woG tag gs ps).1 = _ ∧ (woG tag gs ps).2 = _; rw [HF.out]; exact ⟨rfl, rfl⟩, HB0.out⟩
  case round =>
   obtain ⟨j, hj, rfl, G, P, a, c, a', c', hG, hP, hPQ, hI, hb⟩ := hrel
   clear PQ0 HB0
   obtain ⟨d2, d3, hTg, hKd⟩ := HC.out wr hb.out
   have hzr := hb.out.size
   have hpr : p < wr.heap.size := by omega
   by_cases hjn : j < n
   ·obtain ⟨g1, rfl, hg1, -⟩ := hTg.at_ (by rw [HGN.out]; omega)
    obtain ⟨g2, rfl, hg2, -⟩ := hKd.at_ (by rw [HN.out]; omega)
    have hjg : j < gs.length := by rw [HGN.out]; exact hjn
    have hjp : j < ps.length := by rw [HN.out]; exact hjn
    have y0 := hTg.cell j hjg
    have x0 := hKd.cell j hjp
    have HY := Lib.hid (fun (h : ¬ gs[j] = tag) => woG_yes (tag := tag) hjg hjp h)
    have HNO := Lib.hid (fun (h : gs[j] = tag) => woG_no (tag := tag) hjg hjp h)
    obtain ⟨gj, hgj⟩ : ∃ gj, gs[j] = gj := ⟨_, rfl⟩
    obtain ⟨pj, hpj⟩ : ∃ pj, ps[j] = pj := ⟨_, rfl⟩
    rw [hgj] at y0 HY HNO
    rw [hpj] at x0 HY
    have HPJ := Lib.hid hpj
    clear hTg hKd hgj hpj
    by_cases htg : gj = tag
    ·have HE := Lib.hid (HNO.out htg)
     clear HY HNO
     subst htg
     go_wp2_with fail
     go_roundw
     case rel => exact ⟨j + 1, by omega, by go_num, G, P, a, c, a', c', by omega, by omega, hPQ.out, by have := hI.out; rw [HE.out] at this; exact this, hb.out⟩
     case measure => simp [intOf]; omega
    ·have HE := Lib.hid (HY.out htg)
     have hne : (!decide (gj = tag)) = true := by simp [htg]
     obtain ⟨hq, q2, q3⟩ := hPQ.out.cells
     clear HY HNO
     go_upto_region 6 with fail
     go_cut [47] (fun z wx => ∃ g cap, PQ wx (w.heap.size + 1) w.heap.size k t (G ++ [gj]) P (some ⟨g, 0, none⟩) cap a' c' ∧ Below w.heap.size w wx)
     case first =>
      have HPf := Lib.hid (fun W (hbw : Below wr.heap.size wr W) => hPQ.out.belowed hbw)
      have HBf := Lib.hid (fun W (hbw : Below wr.heap.size wr W) => below_trans hb.out hbw)
      clear HM HC HF HN HGN hPQ hI hb HE q3 x0
      go_region_law (refine step_app_tg rfl (.tmp 39) (.tmp 47) rfl (fun b => w.heap.size + 1 ≤ b) _ G (by simp [Act.eval, Act.put]) (HPf.out _ (by repeat (with_reducible first | exact Below.refl _ _ | apply below_drew | apply below_alloc))).tgs wr.heap.size gj (by simp [Act.eval, Act.put]) (by simp [go_sem]) (by omega) (wr.heap.size + 1) (by simp) ?_; intro g cap w' hk' hg' hgg hlt'; obtain ⟨kq, fq, lq⟩ := PQ.after_tag (HPf.out _ (by repeat (with_reducible first | exact Below.refl _ _ | apply below_drew | apply below_alloc))) hg')
      all_goals
       go_wp2_with fail
       go_meet
       exact ⟨g, cap, PQ.tag (HPf.out _ (by repeat (with_reducible first | exact Below.refl _ _ | apply below_drew | apply below_alloc))) (wr.heap.size + 1) hk' hg' (by omega), below_set ((HBf.out _ (by repeat (with_reducible first | exact Below.refl _ _ | apply below_drew | apply below_alloc))).trans ((HPf.out _ (by repeat (with_reducible first | exact Below.refl _ _ | apply below_drew | apply below_alloc))).below_tag hg' (by simp; omega) (by omega))) (Nat.le_refl _) _⟩
     case rest =>
      obtain ⟨gA, capA, hPQ1, hb1⟩ := hcut
      have HPQ1 := Lib.hid hPQ1; have HB1 := Lib.hid hb1
      obtain ⟨d2, d3, hTg, hKd⟩ := HC.out wc hb1
      have x0 := hKd.cell j hjp
      have hzc := hb1.size
      have hpc : p < wc.heap.size := by omega
      obtain ⟨g2x, hg2x, hg2c, -⟩ := hKd.at_ (by rw [HN.out]; omega)
      obtain ⟨hq, q2, q3⟩ := hPQ1.cells
      injection hg2x with hg2x
      injection hg2x with hg2x
      subst hg2x
      rw [HPJ.out] at x0
      have HPf := Lib.hid (fun W (hbw : Below wc.heap.size wc W) => hPQ1.belowed hbw)
      have HBf := Lib.hid (fun W (hbw : Below wc.heap.size wc W) => below_trans hb1 hbw)
      have HIN := Lib.hid (show (G ++ [gj]) ++ (woG tag (gs.drop (j + 1)) (ps.drop (j + 1))).1 = F.1 ∧ (P ++ [pj]) ++ (woG tag (gs.drop (j + 1)) (ps.drop (j + 1))).2 = F.2 by
       have := hI.out
       rw [HE.out] at this
       simpa using this)
      have hnP : P.length ≤ 1000000 := by omega
      clear hPQ1 hb1 hTg hKd HPQ1 HB1 hI HE d2 q2 hPQ hb HPJ
      go_upto_region 7 with fail
      go_region_law (refine step_app_kid rfl (.tmp 55) (.tmp 63) rfl (fun b => w.heap.size + 1 ≤ b) _ P (by simp [Act.eval, Act.put]) (HPf.out _ (by repeat (with_reducible first | exact Below.refl _ _ | apply below_drew | apply below_alloc))).kds wc.heap.size pj (by simp [Act.eval, Act.put]) (by simp [go_sem]) (by omega) (wc.heap.size + 1) (by simp) ?_; intro g cap w' hk' hg' hgg hlt'; obtain ⟨kq, fq, lq⟩ := PQ.after_kid (HPf.out _ (by repeat (with_reducible first | exact Below.refl _ _ | apply below_drew | apply below_alloc))) hg')
      all_goals
       have HNew := Lib.hid (PQ.kid (HPf.out _ (by repeat (with_reducible first | exact Below.refl _ _ | apply below_drew | apply below_alloc))) (wc.heap.size + 1) hk' hg' (by omega))
       have HBN := Lib.hid (below_set ((HBf.out _ (by repeat (with_reducible first | exact Below.refl _ _ | apply below_drew | apply below_alloc))).trans ((HPf.out _ (by repeat (with_reducible first | exact Below.refl _ _ | apply below_drew | apply below_alloc))).below_kid hg' (by simp; omega) (by omega))) (Nat.le_refl w.heap.size) _ : Below w.heap.size w (World.setCell _ ⟨w.heap.size, 3, none⟩ (.slice (some ⟨g, 0, none⟩) (P.length + 1) cap)))
       clear hk' hg' hgg HPf HBf
       go_wp2_with fail
       go_roundw
       case rel => exact ⟨j + 1, by omega, by go_num, G ++ [gj], P ++ [pj], _, _, _, _, by simp; omega, by simp; omega, HNew.out, HIN.out, HBN.out⟩
       case measure => simp [intOf]; omega
   ·obtain rfl : n = j := by omega
    have HE := Lib.hid (woG_end (tag := tag) (l := ps) (show gs.length ≤ n by rw [HGN.out]; exact Nat.le_refl _))
    have HV := Lib.hid (show VAt wr (fun b => N b ∨ w.heap.size ≤ b) (.mk k t F.1 (woG tag gs l).2) w.heap.size by
     have h1 := hI.out
     rw [HE.out] at h1
     simp only [List.append_nil] at h1
     have h2 := HM.out wr hb.out
     rw [← h1.1]
     rw [← h1.2] at h2
     exact hPQ.out.done h2 (Nat.le_refl _))
    clear hTg hKd
    go_wp2_with fail
    go_ret
    exact ⟨_, rfl, hb.out, HV.out⟩
end Go.Proofs.YtcjooeklehggaaaGreatDoor
