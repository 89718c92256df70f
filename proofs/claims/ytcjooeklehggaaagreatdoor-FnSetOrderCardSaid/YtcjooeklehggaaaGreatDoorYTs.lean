/- Lemmas of this seat. -/
import Derived.Test.YtcjooeklehggaaaGreatDoorYSs
set_option linter.unusedVariables false
set_option linter.unusedSimpArgs false
set_option maxRecDepth 100000
namespace Go.Proofs.YtcjooeklehggaaaGreatDoor
open Go.ChangeShapes Go.WideShapes Go.ChangeAt Go.RowKit M
set_option maxHeartbeats 8000000 in
theorem k_with {k t : Bs} {gs : List Int} {l : List V} {N : Nat → Prop} {p : Nat} {w : World} (tag : Int) (y : V) (py : Nat) (hy : VAt w N y py) (hv : VAt w N (.mk k t gs l) p) (hgl : gs.length = l.length) (hll : l.length ≤ 1000000) :
  Calls Tryz.prog 62 #[vp p, .int .i64 tag, vp py] w (RetNew w N (.mk k t (wiG tag y gs l false).1 (wiG tag y gs l false).2)) := by
 obtain ⟨ps, at_, ct, ak, ck, hpN, hblk, hTg, hKd, hM⟩ := hv.parts
 have hpl := hM.1
 have c0 := hblk.cell 0
 have c1 := hblk.cell 1
 have hpw := hblk.lt
 simp at c0 c1
 rw [← wiG_tags tag y py gs l ps false hpl]
 have HM := Lib.hid (fun W (hb : Below w.heap.size w W) => many_wi tag y py (hy.belowed hb) gs l ps false (hM.belowed hb))
 have HC := Lib.hid (fun W (hb : Below w.heap.size w W) => (⟨(hblk.keep hb).cell 2, (hblk.keep hb).cell 3, hTg.rowed (grown_of_below hb none) (by intro r e; cases e), hKd.rowed (grown_of_below hb none) (by intro r e; cases e)⟩ :
  W.cell? ⟨p, 2, none⟩ = some (.slice at_ gs.length ct) ∧ W.cell? ⟨p, 3, none⟩ = some (.slice ak ps.length ck) ∧ Tgs W N (.slice at_ gs.length ct) gs ∧ Kids W N (.slice ak ps.length ck) ps))
 obtain ⟨F, hF⟩ : ∃ F, wiG tag py gs ps false = F := ⟨_, rfl⟩
 have HF := Lib.hid hF
 rw [hF] at HM ⊢
 obtain ⟨n, hn⟩ : ∃ n, ps.length = n := ⟨_, rfl⟩
 have hgn : gs.length = n := by omega
 rw [hn, hgn] at HC
 have HN := Lib.hid hn; have HGN := Lib.hid hgn
 have hnn : n ≤ 1000000 := by omega
 obtain ⟨LL, hLL⟩ : ∃ LL, (wiG tag y gs l false).2 = LL := ⟨_, rfl⟩
 rw [hLL] at HM ⊢
 have hg1w : ∀ g, at_ = some ⟨g, 0, none⟩ → g < w.heap.size := fun g e => by subst e; exact (World.ownsRow.lt hTg.1 g rfl).2
 have hg2w : ∀ g, ak = some ⟨g, 0, none⟩ → g < w.heap.size := fun g e => by subst e; exact (hKd.1.lt g rfl).2
 clear hv hM hTg hKd hblk hpl hgl hF hn hgn hll hy hLL
 go_enter Tryz.func62, Tryz.ntmps62
 go_upto_region 1 with fail
 go_cut [7] (fun x wx => x = vp w.heap.size ∧ Blk wx w.heap.size 133 #[.string (S k), .string (S t), .slice none 0 0, .slice none 0 0] ∧ Below w.heap.size w wx)
 case first =>
  clear HM HC HF HN HGN hg1w hg2w
  go_region
  all_goals
   go_wp2_with fail
   go_meet
   exact ⟨rfl, by first | with_reducible exact Blk.new _ _ _ | exact (Blk.new _ _ _).keep (below_drew (Below.refl _ _)), by (repeat (first | exact Below.refl _ _ | apply below_drew | apply below_draws | apply below_alloc | (refine below_trans ?_ (by assumption)) | (refine Below.trans ?_ (by assumption))))⟩
 case rest =>
  obtain ⟨rfl, hK, hbw⟩ := hcut
  have PQ0 := Lib.hid (PQ.start (B := w.heap.size + 1) wc (Nat.lt_succ_self _) hK)
  have HB0 := Lib.hid hbw
  clear hK hbw c0 c1
  go_wp2_with fail
  go_loopw [8, 9] (fun dn i wr => ∃ j : Nat, j ≤ n ∧ i = .int .i64 j ∧ ∃ b : Bool, dn = .bool b ∧ ∃ (G : List Int) (P : List Nat) (a : Option Addr) (c : Nat) (a' : Option Addr) (c' : Nat), G.length ≤ 2 * j ∧ P.length ≤ 2 * j ∧ Hid (PQ wr (w.heap.size + 1) w.heap.size k t G P a c a' c') ∧ Hid (G ++ (wiG tag py (gs.drop j) (ps.drop j) b).1 = F.1 ∧ P ++ (wiG tag py (gs.drop j) (ps.drop j) b).2 = F.2) ∧ Hid (Below w.heap.size w wr)) (fun _ i _ => n - (intOf i).toNat)
  case atStart => exact ⟨0, by omega, rfl, false, rfl, [], [], none, 0, none, 0, by simp, by simp, PQ0.out, by rw [List.nil_append, List.nil_append]; show (wiG tag py gs ps false).1 = _ ∧ (wiG tag py gs ps false).2 = _; rw [HF.out]; exact ⟨rfl, rfl⟩, HB0.out⟩
  case round =>
   obtain ⟨j, hj, rfl, b, rfl, G, P, a, c, a', c', hG, hP, HPQ, hI, HB⟩ := hrel
   clear PQ0 HB0
   obtain ⟨d2, d3, hTg, hKd⟩ := HC.out wr HB.out
   have hzr := HB.out.size
   have hpr : p < wr.heap.size := by omega
   by_cases hjn : j < n
   ·obtain ⟨g1, rfl, hg1, -⟩ := hTg.at_ (by rw [HGN.out]; omega)
    obtain ⟨g2, rfl, hg2, -⟩ := hKd.at_ (by rw [HN.out]; omega)
    have hw1 := hg1w g1 rfl
    have hw2 := hg2w g2 rfl
    have hjg : j < gs.length := by rw [HGN.out]; exact hjn
    have hjp : j < ps.length := by rw [HN.out]; exact hjn
    have y0 := hTg.cell j hjg
    have HPUT := Lib.hid (fun (h : tag < gs[j]) => wiG_put (y := py) hjg hjp h)
    have HNO := Lib.hid (fun (b : Bool) (hb : ¬ (b = false ∧ tag < gs[j])) (h : gs[j] = tag) => wiG_no (y := py) hjg hjp hb h)
    have HYES := Lib.hid (fun (b : Bool) (hb : ¬ (b = false ∧ tag < gs[j])) (h : ¬ gs[j] = tag) => wiG_yes (y := py) hjg hjp hb h)
    obtain ⟨gj, hgj⟩ : ∃ gj, gs[j] = gj := ⟨_, rfl⟩
    obtain ⟨pj, hpj⟩ : ∃ pj, ps[j] = pj := ⟨_, rfl⟩
    rw [hgj] at y0 HPUT HNO HYES
    rw [hpj] at HPUT HYES
    have HGJ := Lib.hid hgj; have HPJ := Lib.hid hpj
    clear hTg hKd hgj hpj hg1w hg2w
    by_cases hput : b = false ∧ tag < gj
    ·obtain ⟨rfl, hlt⟩ := hput
     have htg : ¬ gj = tag := by omega
     have hne : (!decide (gj = tag)) = true := by simp [htg]
     have HIN := Lib.hid (show ((G ++ [tag]) ++ [gj]) ++ (wiG tag py (gs.drop (j + 1)) (ps.drop (j + 1)) true).1 = F.1 ∧ ((P ++ [py]) ++ [pj]) ++ (wiG tag py (gs.drop (j + 1)) (ps.drop (j + 1)) true).2 = F.2 by
      have := hI.out
      rw [HPUT.out hlt] at this
      simpa using this)
     obtain ⟨hq, q2, q3⟩ := HPQ.out.cells
     have hnG0 : G.length ≤ 3000000 := by omega
     have hnP0 : P.length ≤ 3000000 := by omega
     clear hI HPUT HNO HYES
     go_upto_region 7 with fail
     go_cut [48] (fun z wx => ∃ g cap, PQ wx (w.heap.size + 1) w.heap.size k t (G ++ [tag]) P (some ⟨g, 0, none⟩) cap a' c' ∧ Below w.heap.size w wx)
     case first =>
      have HPa := Lib.hid (HPQ.out.belowed (below_alloc (Below.refl _ _) (.cells #[.int .i64 tag] 3)))
      clear HM HC HF HN HGN HIN q3 d2 d3 y0 HGJ HPJ
      go_wp2_with (at_builtin; refine app_tg rfl _ _ rfl (fun b => w.heap.size + 1 ≤ b) _ G rfl HPa.out.tgs wr.heap.size tag rfl ?c1 hnG0 (wr.heap.size + 1) (by simp) ?_)
      case c1 => simp [go_sem]
      intro g cap w' hk' hg' hgg hlt'
      obtain ⟨kq, fq, lq⟩ := PQ.after_tag HPa.out hg'
      have HNew := Lib.hid (PQ.tag HPa.out (wr.heap.size + 1) hk' hg' (by omega))
      have HBN := Lib.hid (below_set ((below_alloc HB.out _).trans (HPa.out.below_tag hg' (by simp; omega) (by omega))) (Nat.le_refl w.heap.size) _ : Below w.heap.size w (World.setCell _ ⟨w.heap.size, 2, none⟩ (.slice (some ⟨g, 0, none⟩) (G.length + 1) cap)))
      clear hk' hg' hgg HPa
      go_wp2_with fail
      go_meet
      exact ⟨g, cap, HNew.out, HBN.out⟩
     case rest =>
      obtain ⟨gX, capX, hPQX, hbX⟩ := hcut
      have HPX := Lib.hid hPQX
      have HBX := Lib.hid hbX
      obtain ⟨hqX, qX2, qX3⟩ := hPQX.cells
      have hzX := hbX.size
      clear HPQ HB hPQX hbX q2 q3 d2 d3 y0
      go_upto_region 8 with fail
      go_cut [58] (fun z wx => ∃ g cap, PQ wx (w.heap.size + 1) w.heap.size k t (G ++ [tag]) (P ++ [py]) (some ⟨gX, 0, none⟩) capX (some ⟨g, 0, none⟩) cap ∧ Below w.heap.size w wx)
      case first =>
       have HPa := Lib.hid (HPX.out.belowed (below_alloc (Below.refl _ _) (.cells #[vp py] 80)))
       clear HM HC HF HN HGN HIN qX2 HGJ HPJ
       go_wp2_with (at_builtin; refine app_kid rfl _ _ rfl (fun b => w.heap.size + 1 ≤ b) _ P rfl HPa.out.kds wc.heap.size py rfl ?c1 hnP0 (wc.heap.size + 1) (by simp) ?_)
       case c1 => simp [go_sem]
       intro g cap w' hk' hg' hgg hlt'
       obtain ⟨kq, fq, lq⟩ := PQ.after_kid HPa.out hg'
       have HNew := Lib.hid (PQ.kid HPa.out (wc.heap.size + 1) hk' hg' (by omega))
       have HBN := Lib.hid (below_set ((below_alloc HBX.out _).trans (HPa.out.below_kid hg' (by simp; omega) (by omega))) (Nat.le_refl w.heap.size) _ : Below w.heap.size w (World.setCell _ ⟨w.heap.size, 3, none⟩ (.slice (some ⟨g, 0, none⟩) (P.length + 1) cap)))
       clear hk' hg' hgg HPa
       go_wp2_with fail
       go_meet
       exact ⟨g, cap, HNew.out, HBN.out⟩
      case rest =>
       obtain ⟨gY, capY, hPQY, hbY⟩ := hcut
       have HPQ := Lib.hid hPQY
       have HB := Lib.hid hbY
       obtain ⟨G2, hG2⟩ : ∃ G2, G ++ [tag] = G2 := ⟨_, rfl⟩
       obtain ⟨P2, hP2⟩ : ∃ P2, P ++ [py] = P2 := ⟨_, rfl⟩
       have hG2l : G2.length ≤ 2 * j + 1 := by rw [← hG2]; simp; omega
       have hP2l : P2.length ≤ 2 * j + 1 := by rw [← hP2]; simp; omega
       rw [hG2, hP2] at HPQ HIN
       clear HPX HBX hPQY hbY qX2 qX3 hqX hzX hG2 hP2
       obtain ⟨d2, d3, hTg, hKd⟩ := HC.out wc HB.out
       have y0 := hTg.cell j hjg
       have x0 := hKd.cell j hjp
       rw [HGJ.out] at y0
       rw [HPJ.out] at x0
       obtain ⟨hq, q2, q3⟩ := HPQ.out.cells
       have hzz := HB.out.size
       have hpz : p < wc.heap.size := by omega
       have hgA : g1 < wc.heap.size := by omega
       have hgB : g2 < wc.heap.size := by omega
       have hnG : G2.length ≤ 3000000 := by omega
       have hnP : P2.length ≤ 3000000 := by omega
       clear hTg hKd
       go_upto_region 11 with fail
       go_cut [83] (fun z wx => ∃ g cap, PQ wx (w.heap.size + 1) w.heap.size k t (G2 ++ [gj]) P2 (some ⟨g, 0, none⟩) cap (some ⟨gY, 0, none⟩) capY ∧ Below w.heap.size w wx)
       case first =>
        have HPf := Lib.hid (fun W (hbw : Below wc.heap.size wc W) => HPQ.out.belowed hbw)
        have HBf := Lib.hid (fun W (hbw : Below wc.heap.size wc W) => below_trans HB.out hbw)
        clear HM HC HF HN HGN HIN HPQ HB q3 x0 d3 HGJ HPJ hgB
        go_region_law (refine step_app_tg rfl (.tmp 75) (.tmp 83) rfl (fun b => w.heap.size + 1 ≤ b) _ G2 (by simp [Act.eval, Act.put]) (HPf.out _ (by repeat (with_reducible first | exact Below.refl _ _ | apply below_drew | apply below_alloc))).tgs wc.heap.size gj (by simp [Act.eval, Act.put]) (by simp [go_sem]) hnG (wc.heap.size + 1) (by simp) ?_; intro g cap w' hk' hg' hgg hlt'; obtain ⟨kq, fq, lq⟩ := PQ.after_tag (HPf.out _ (by repeat (with_reducible first | exact Below.refl _ _ | apply below_drew | apply below_alloc))) hg')
        all_goals
         go_wp2_with fail
         go_meet
         exact ⟨g, cap, PQ.tag (HPf.out _ (by repeat (with_reducible first | exact Below.refl _ _ | apply below_drew | apply below_alloc))) (wc.heap.size + 1) hk' hg' (by omega), below_set ((HBf.out _ (by repeat (with_reducible first | exact Below.refl _ _ | apply below_drew | apply below_alloc))).trans ((HPf.out _ (by repeat (with_reducible first | exact Below.refl _ _ | apply below_drew | apply below_alloc))).below_tag hg' (by simp; omega) (by omega))) (Nat.le_refl _) _⟩
       case rest =>
        obtain ⟨gZ, capZ, hPQZ, hbZ⟩ := hcut
        clear HPQ HB d2 d3 y0 x0 q2 q3 hzz hpz hgA hgB
        obtain ⟨d2, d3, hTg, hKd⟩ := HC.out wc hbZ
        have x0 := hKd.cell j hjp
        rw [HPJ.out] at x0
        obtain ⟨hqZ, q2, q3⟩ := hPQZ.cells
        have hzz := hbZ.size
        have hpz : p < wc.heap.size := by omega
        have hgB : g2 < wc.heap.size := by omega
        have HPf := Lib.hid (fun W (hbw : Below wc.heap.size wc W) => hPQZ.belowed hbw)
        have HBf := Lib.hid (fun W (hbw : Below wc.heap.size wc W) => below_trans hbZ hbw)
        clear hPQZ hbZ hTg hKd d2 q2 HPJ HGJ
        go_upto_region 12 with fail
        go_region_law (refine step_app_kid rfl (.tmp 91) (.tmp 99) rfl (fun b => w.heap.size + 1 ≤ b) _ P2 (by simp [Act.eval, Act.put]) (HPf.out _ (by repeat (with_reducible first | exact Below.refl _ _ | apply below_drew | apply below_alloc))).kds wc.heap.size pj (by simp [Act.eval, Act.put]) (by simp [go_sem]) hnP (wc.heap.size + 1) (by simp) ?_; intro g cap w' hk' hg' hgg hlt'; obtain ⟨kq, fq, lq⟩ := PQ.after_kid (HPf.out _ (by repeat (with_reducible first | exact Below.refl _ _ | apply below_drew | apply below_alloc))) hg')
        all_goals
         have HNew := Lib.hid (PQ.kid (HPf.out _ (by repeat (with_reducible first | exact Below.refl _ _ | apply below_drew | apply below_alloc))) (wc.heap.size + 1) hk' hg' (by omega))
         have HBN := Lib.hid (below_set ((HBf.out _ (by repeat (with_reducible first | exact Below.refl _ _ | apply below_drew | apply below_alloc))).trans ((HPf.out _ (by repeat (with_reducible first | exact Below.refl _ _ | apply below_drew | apply below_alloc))).below_kid hg' (by simp; omega) (by omega))) (Nat.le_refl w.heap.size) _ : Below w.heap.size w (World.setCell _ ⟨w.heap.size, 3, none⟩ (.slice (some ⟨g, 0, none⟩) (P2.length + 1) cap)))
         clear hk' hg' hgg HPf HBf
         go_wp2_with fail
         go_roundw
         case rel => exact ⟨j + 1, by omega, by go_num, true, rfl, G2 ++ [gj], P2 ++ [pj], _, _, _, _, by simp; omega, by simp; omega, HNew.out, HIN.out, HBN.out⟩
         case measure => simp [intOf]; omega
    ·by_cases htg : gj = tag
     ·have HE := Lib.hid (show G ++ (wiG tag py (gs.drop (j + 1)) (ps.drop (j + 1)) b).1 = F.1 ∧ P ++ (wiG tag py (gs.drop (j + 1)) (ps.drop (j + 1)) b).2 = F.2 by
       have := hI.out
       rw [HNO.out b hput htg] at this
       exact this)
      have hne : (!decide (gj = tag)) = false := by simp [htg]
      have hnl : ¬ tag < gj := by omega
      clear HPUT HNO HYES hI
      cases b with
      | false =>
       go_wp2_with fail
       go_roundw
       case rel => exact ⟨j + 1, by omega, by go_num, false, rfl, G, P, a, c, a', c', by omega, by omega, HPQ.out, HE.out, HB.out⟩
       case measure => simp [intOf]; omega
      | true =>
       go_wp2_with fail
       go_roundw
       case rel => exact ⟨j + 1, by omega, by go_num, true, rfl, G, P, a, c, a', c', by omega, by omega, HPQ.out, HE.out, HB.out⟩
       case measure => simp [intOf]; omega
     ·have HIN := Lib.hid (show (G ++ [gj]) ++ (wiG tag py (gs.drop (j + 1)) (ps.drop (j + 1)) b).1 = F.1 ∧ (P ++ [pj]) ++ (wiG tag py (gs.drop (j + 1)) (ps.drop (j + 1)) b).2 = F.2 by
       have := hI.out
       rw [HYES.out b hput htg] at this
       simpa using this)
      have hne : (!decide (gj = tag)) = true := by simp [htg]
      clear HPUT HNO HYES hI d2 d3 y0
      cases b with
      | false =>
       have hnl : ¬ tag < gj := fun h => hput ⟨rfl, h⟩
       obtain ⟨d2, d3, hTg, hKd⟩ := HC.out wr HB.out
       have y0 := hTg.cell j hjg
       have x0 := hKd.cell j hjp
       rw [HGJ.out] at y0
       rw [HPJ.out] at x0
       obtain ⟨hq, q2, q3⟩ := HPQ.out.cells
       have hzz := HB.out.size
       have hpz : p < wr.heap.size := by omega
       have hgA : g1 < wr.heap.size := by omega
       have hgB : g2 < wr.heap.size := by omega
       have hnG : G.length ≤ 3000000 := by omega
       have hnP : P.length ≤ 3000000 := by omega
       clear hTg hKd
       go_upto_region 11 with fail
       go_cut [83] (fun z wx => ∃ g cap, PQ wx (w.heap.size + 1) w.heap.size k t (G ++ [gj]) P (some ⟨g, 0, none⟩) cap a' c' ∧ Below w.heap.size w wx)
       case first =>
        have HPf := Lib.hid (fun W (hbw : Below wr.heap.size wr W) => HPQ.out.belowed hbw)
        have HBf := Lib.hid (fun W (hbw : Below wr.heap.size wr W) => below_trans HB.out hbw)
        clear HM HC HF HN HGN HIN HPQ HB q3 x0 d3 HGJ HPJ hgB
        go_region_law (refine step_app_tg rfl (.tmp 75) (.tmp 83) rfl (fun b => w.heap.size + 1 ≤ b) _ G (by simp [Act.eval, Act.put]) (HPf.out _ (by repeat (with_reducible first | exact Below.refl _ _ | apply below_drew | apply below_alloc))).tgs wr.heap.size gj (by simp [Act.eval, Act.put]) (by simp [go_sem]) hnG (wr.heap.size + 1) (by simp) ?_; intro g cap w' hk' hg' hgg hlt'; obtain ⟨kq, fq, lq⟩ := PQ.after_tag (HPf.out _ (by repeat (with_reducible first | exact Below.refl _ _ | apply below_drew | apply below_alloc))) hg')
        all_goals
         go_wp2_with fail
         go_meet
         exact ⟨g, cap, PQ.tag (HPf.out _ (by repeat (with_reducible first | exact Below.refl _ _ | apply below_drew | apply below_alloc))) (wr.heap.size + 1) hk' hg' (by omega), below_set ((HBf.out _ (by repeat (with_reducible first | exact Below.refl _ _ | apply below_drew | apply below_alloc))).trans ((HPf.out _ (by repeat (with_reducible first | exact Below.refl _ _ | apply below_drew | apply below_alloc))).below_tag hg' (by simp; omega) (by omega))) (Nat.le_refl _) _⟩
       case rest =>
        obtain ⟨gZ, capZ, hPQZ, hbZ⟩ := hcut
        clear HPQ HB d2 d3 y0 x0 q2 q3 hzz hpz hgA hgB
        obtain ⟨d2, d3, hTg, hKd⟩ := HC.out wc hbZ
        have x0 := hKd.cell j hjp
        rw [HPJ.out] at x0
        obtain ⟨hqZ, q2, q3⟩ := hPQZ.cells
        have hzz := hbZ.size
        have hpz : p < wc.heap.size := by omega
        have hgB : g2 < wc.heap.size := by omega
        have HPf := Lib.hid (fun W (hbw : Below wc.heap.size wc W) => hPQZ.belowed hbw)
        have HBf := Lib.hid (fun W (hbw : Below wc.heap.size wc W) => below_trans hbZ hbw)
        clear hPQZ hbZ hTg hKd d2 q2 HPJ HGJ
        go_upto_region 12 with fail
        go_region_law (refine step_app_kid rfl (.tmp 91) (.tmp 99) rfl (fun b => w.heap.size + 1 ≤ b) _ P (by simp [Act.eval, Act.put]) (HPf.out _ (by repeat (with_reducible first | exact Below.refl _ _ | apply below_drew | apply below_alloc))).kds wc.heap.size pj (by simp [Act.eval, Act.put]) (by simp [go_sem]) hnP (wc.heap.size + 1) (by simp) ?_; intro g cap w' hk' hg' hgg hlt'; obtain ⟨kq, fq, lq⟩ := PQ.after_kid (HPf.out _ (by repeat (with_reducible first | exact Below.refl _ _ | apply below_drew | apply below_alloc))) hg')
        all_goals
         have HNew := Lib.hid (PQ.kid (HPf.out _ (by repeat (with_reducible first | exact Below.refl _ _ | apply below_drew | apply below_alloc))) (wc.heap.size + 1) hk' hg' (by omega))
         have HBN := Lib.hid (below_set ((HBf.out _ (by repeat (with_reducible first | exact Below.refl _ _ | apply below_drew | apply below_alloc))).trans ((HPf.out _ (by repeat (with_reducible first | exact Below.refl _ _ | apply below_drew | apply below_alloc))).below_kid hg' (by simp; omega) (by omega))) (Nat.le_refl w.heap.size) _ : Below w.heap.size w (World.setCell _ ⟨w.heap.size, 3, none⟩ (.slice (some ⟨g, 0, none⟩) (P.length + 1) cap)))
         clear hk' hg' hgg HPf HBf
         go_wp2_with fail
         go_roundw
         case rel => exact ⟨j + 1, by omega, by go_num, false, rfl, G ++ [gj], P ++ [pj], _, _, _, _, by simp; omega, by simp; omega, HNew.out, HIN.out, HBN.out⟩
         case measure => simp [intOf]; omega
      | true =>
       obtain ⟨d2, d3, hTg, hKd⟩ := HC.out wr HB.out
       have y0 := hTg.cell j hjg
       have x0 := hKd.cell j hjp
       rw [HGJ.out] at y0
       rw [HPJ.out] at x0
       obtain ⟨hq, q2, q3⟩ := HPQ.out.cells
       have hzz := HB.out.size
       have hpz : p < wr.heap.size := by omega
       have hgA : g1 < wr.heap.size := by omega
       have hgB : g2 < wr.heap.size := by omega
       have hnG : G.length ≤ 3000000 := by omega
       have hnP : P.length ≤ 3000000 := by omega
       clear hTg hKd
       go_upto_region 11 with fail
       go_cut [83] (fun z wx => ∃ g cap, PQ wx (w.heap.size + 1) w.heap.size k t (G ++ [gj]) P (some ⟨g, 0, none⟩) cap a' c' ∧ Below w.heap.size w wx)
       case first =>
        have HPf := Lib.hid (fun W (hbw : Below wr.heap.size wr W) => HPQ.out.belowed hbw)
        have HBf := Lib.hid (fun W (hbw : Below wr.heap.size wr W) => below_trans HB.out hbw)
        clear HM HC HF HN HGN HIN HPQ HB q3 x0 d3 HGJ HPJ hgB
        go_region_law (refine step_app_tg rfl (.tmp 75) (.tmp 83) rfl (fun b => w.heap.size + 1 ≤ b) _ G (by simp [Act.eval, Act.put]) (HPf.out _ (by repeat (with_reducible first | exact Below.refl _ _ | apply below_drew | apply below_alloc))).tgs wr.heap.size gj (by simp [Act.eval, Act.put]) (by simp [go_sem]) hnG (wr.heap.size + 1) (by simp) ?_; intro g cap w' hk' hg' hgg hlt'; obtain ⟨kq, fq, lq⟩ := PQ.after_tag (HPf.out _ (by repeat (with_reducible first | exact Below.refl _ _ | apply below_drew | apply below_alloc))) hg')
        all_goals
         go_wp2_with fail
         go_meet
         exact ⟨g, cap, PQ.tag (HPf.out _ (by repeat (with_reducible first | exact Below.refl _ _ | apply below_drew | apply below_alloc))) (wr.heap.size + 1) hk' hg' (by omega), below_set ((HBf.out _ (by repeat (with_reducible first | exact Below.refl _ _ | apply below_drew | apply below_alloc))).trans ((HPf.out _ (by repeat (with_reducible first | exact Below.refl _ _ | apply below_drew | apply below_alloc))).below_tag hg' (by simp; omega) (by omega))) (Nat.le_refl _) _⟩
       case rest =>
        obtain ⟨gZ, capZ, hPQZ, hbZ⟩ := hcut
        clear HPQ HB d2 d3 y0 x0 q2 q3 hzz hpz hgA hgB
        obtain ⟨d2, d3, hTg, hKd⟩ := HC.out wc hbZ
        have x0 := hKd.cell j hjp
        rw [HPJ.out] at x0
        obtain ⟨hqZ, q2, q3⟩ := hPQZ.cells
        have hzz := hbZ.size
        have hpz : p < wc.heap.size := by omega
        have hgB : g2 < wc.heap.size := by omega
        have HPf := Lib.hid (fun W (hbw : Below wc.heap.size wc W) => hPQZ.belowed hbw)
        have HBf := Lib.hid (fun W (hbw : Below wc.heap.size wc W) => below_trans hbZ hbw)
        clear hPQZ hbZ hTg hKd d2 q2 HPJ HGJ
        go_upto_region 12 with fail
        go_region_law (refine step_app_kid rfl (.tmp 91) (.tmp 99) rfl (fun b => w.heap.size + 1 ≤ b) _ P (by simp [Act.eval, Act.put]) (HPf.out _ (by repeat (with_reducible first | exact Below.refl _ _ | apply below_drew | apply below_alloc))).kds wc.heap.size pj (by simp [Act.eval, Act.put]) (by simp [go_sem]) hnP (wc.heap.size + 1) (by simp) ?_; intro g cap w' hk' hg' hgg hlt'; obtain ⟨kq, fq, lq⟩ := PQ.after_kid (HPf.out _ (by repeat (with_reducible first | exact Below.refl _ _ | apply below_drew | apply below_alloc))) hg')
        all_goals
         have HNew := Lib.hid (PQ.kid (HPf.out _ (by repeat (with_reducible first | exact Below.refl _ _ | apply below_drew | apply below_alloc))) (wc.heap.size + 1) hk' hg' (by omega))
         have HBN := Lib.hid (below_set ((HBf.out _ (by repeat (with_reducible first | exact Below.refl _ _ | apply below_drew | apply below_alloc))).trans ((HPf.out _ (by repeat (with_reducible first | exact Below.refl _ _ | apply below_drew | apply below_alloc))).below_kid hg' (by simp; omega) (by omega))) (Nat.le_refl w.heap.size) _ : Below w.heap.size w (World.setCell _ ⟨w.heap.size, 3, none⟩ (.slice (some ⟨g, 0, none⟩) (P.length + 1) cap)))
         clear hk' hg' hgg HPf HBf
         go_wp2_with fail
         go_roundw
         case rel => exact ⟨j + 1, by omega, by go_num, true, rfl, G ++ [gj], P ++ [pj], _, _, _, _, by simp; omega, by simp; omega, HNew.out, HIN.out, HBN.out⟩
         case measure => simp [intOf]; omega
   ·obtain rfl : n = j := by omega
    have HE := wiG_end (tag := tag) (y := py) (l := ps) (b := b) (show gs.length ≤ n by rw [HGN.out]; exact Nat.le_refl _)
    have HI := Lib.hid (show G ++ (if b = true then (([] : List Int), ([] : List Nat)) else ([tag], [py])).1 = F.1 ∧ P ++ (if b = true then (([] : List Int), ([] : List Nat)) else ([tag], [py])).2 = F.2 by
     have := hI.out
     rw [HE] at this; exact this)
    clear hTg hKd hI HE hg1w hg2w
    cases b with
    | true =>
     have HV := Lib.hid (show VAt wr (fun b => N b ∨ w.heap.size ≤ b) (.mk k t F.1 LL) w.heap.size by
      have h1 := HI.out
      simp only [if_true, List.append_nil] at h1
      have h2 := HM.out wr HB.out
      rw [← h1.1]
      rw [← h1.2] at h2
      exact HPQ.out.done h2 (Nat.le_refl _))
     clear HM HC HF HI HPQ
     go_wp2_with fail
     go_ret
     exact ⟨_, rfl, HB.out, HV.out⟩
    | false =>
     obtain ⟨hq, q2, q3⟩ := HPQ.out.cells
     have hnG0 : G.length ≤ 3000000 := by omega
     have hnP0 : P.length ≤ 3000000 := by omega
     have HI2 := Lib.hid (show G ++ [tag] = F.1 ∧ P ++ [py] = F.2 from HI.out)
     clear HC HF HI
     go_upto_region 14 with fail
     go_cut [111] (fun z wx => ∃ g cap, PQ wx (w.heap.size + 1) w.heap.size k t (G ++ [tag]) P (some ⟨g, 0, none⟩) cap a' c' ∧ Below w.heap.size w wx)
     case first =>
      have HPa := Lib.hid (HPQ.out.belowed (below_alloc (Below.refl _ _) (.cells #[.int .i64 tag] 3)))
      clear HM HN HGN q3 HI2
      go_wp2_with (at_builtin; refine app_tg rfl _ _ rfl (fun b => w.heap.size + 1 ≤ b) _ G rfl HPa.out.tgs wr.heap.size tag rfl ?c1 hnG0 (wr.heap.size + 1) (by simp) ?_)
      case c1 => simp [go_sem]
      intro g cap w' hk' hg' hgg hlt'
      obtain ⟨kq, fq, lq⟩ := PQ.after_tag HPa.out hg'
      have HNew := Lib.hid (PQ.tag HPa.out (wr.heap.size + 1) hk' hg' (by omega))
      have HBN := Lib.hid (below_set ((below_alloc HB.out _).trans (HPa.out.below_tag hg' (by simp; omega) (by omega))) (Nat.le_refl w.heap.size) _ : Below w.heap.size w (World.setCell _ ⟨w.heap.size, 2, none⟩ (.slice (some ⟨g, 0, none⟩) (G.length + 1) cap)))
      clear hk' hg' hgg HPa
      go_wp2_with fail
      go_meet
      exact ⟨g, cap, HNew.out, HBN.out⟩
     case rest =>
      obtain ⟨gX, capX, hPQX, hbX⟩ := hcut
      have HPX := Lib.hid hPQX
      have HBX := Lib.hid hbX
      obtain ⟨hqX, qX2, qX3⟩ := hPQX.cells
      have hzX := hbX.size
      have HPa := Lib.hid (hPQX.belowed (below_alloc (Below.refl _ _) (.cells #[vp py] 80)))
      clear HPQ HB hPQX hbX q2 q3 qX2
      go_wp2_with (at_builtin; refine app_kid rfl _ _ rfl (fun b => w.heap.size + 1 ≤ b) _ P rfl HPa.out.kds wc.heap.size py rfl ?c1 hnP0 (wc.heap.size + 1) (by simp) ?_)
      case c1 => simp [go_sem]
      intro g cap w' hk' hg' hgg hlt'
      obtain ⟨kq, fq, lq⟩ := PQ.after_kid HPa.out hg'
      have HNew := Lib.hid (PQ.kid HPa.out (wc.heap.size + 1) hk' hg' (by omega))
      have HBN := Lib.hid (below_set ((below_alloc HBX.out _).trans (HPa.out.below_kid hg' (by simp; omega) (by omega))) (Nat.le_refl w.heap.size) _ : Below w.heap.size w (World.setCell _ ⟨w.heap.size, 3, none⟩ (.slice (some ⟨g, 0, none⟩) (P.length + 1) cap)))
      have HV := Lib.hid (by
       have h2 := HM.out _ HBN.out
       rw [← HI2.out.2] at h2
       have := HNew.out.done h2 (Nat.le_refl w.heap.size)
       rw [HI2.out.1] at this; exact this : VAt (World.setCell w' ⟨w.heap.size, 3, none⟩ (.slice (some ⟨g, 0, none⟩) (P.length + 1) cap)) (fun b => N b ∨ w.heap.size ≤ b) (.mk k t F.1 LL) w.heap.size)
      clear hk' hg' hgg HPa HM HNew HPX HBX
      go_wp2_with fail
      go_ret
      exact ⟨_, rfl, HBN.out, HV.out⟩
end Go.Proofs.YtcjooeklehggaaaGreatDoor
