/- Lemmas of this seat. -/
import Derived.Test.YtcjooeklehggaaaGreatDoorYAs
import Derived.Test.YtcjooeklehggaaaGreatDoorYCs
import Derived.Test.YtcjooeklehggaaaGreatDoorYDs
set_option linter.unusedVariables false
set_option linter.unusedSimpArgs false
set_option maxRecDepth 100000
namespace Go.Proofs.YtcjooeklehggaaaGreatDoor
open Go.ChangeShapes Go.WideShapes Go.ChangeAt Go.RowKit M
theorem sep_ways (r : Bs) (gs : List Int) (g : Int) : ∃ b : Bool, (b = true → ¬ (at_ r 0 = 61 ∧ (gs = [] ∨ gs.getD (gs.length - 1) 0 < g))) ∧ (b = false → at_ r 0 = 61 ∧ (gs = [] ∨ gs.getD (gs.length - 1) 0 < g)) ∧
  ((r = [] ∧ b = true) ∨ (0 < r.length ∧ r.isEmpty = false ∧ (r == []) = false ∧ (((at_ r 0 != 61) = true ∧ b = true) ∨ ((at_ r 0 != 61) = false ∧
   ((gs = [] ∧ b = false) ∨ ∃ (m : Nat) (z : Int), gs.length = m + 1 ∧ gs[m]? = some z ∧ ((g ≤ z ∧ b = true) ∨ (z < g ∧ b = false))))))) := by
 cases r with
 | nil => exact ⟨true, fun _ h => absurd h.1 (by decide), by simp, .inl ⟨rfl, rfl⟩⟩
 | cons x r =>
  by_cases h61 : at_ (x :: r) 0 = 61
  ·have e : (at_ (x :: r) 0 != 61) = false := by simp [h61]
   cases hgs : gs with
   | nil => exact ⟨false, by simp, fun _ => ⟨h61, .inl rfl⟩, .inr ⟨by simp, rfl, rfl, .inr ⟨e, .inl ⟨rfl, rfl⟩⟩⟩⟩
   | cons g0 gr =>
    have hz : gs[gr.length]? = some (gs.getD (gs.length - 1) 0) := by
     rw [hgs]; simp only [List.length_cons, Nat.add_sub_cancel]
     rw [List.getD_eq_getElem?_getD, List.getElem?_eq_getElem (by simp)]; rfl
    rw [← hgs]
    have hl : gs.length = gr.length + 1 := by rw [hgs]; rfl
    have hne : gs ≠ [] := by rw [hgs]; simp
    by_cases hlt : gs.getD (gs.length - 1) 0 < g
    ·exact ⟨false, by simp, fun _ => ⟨h61, .inr hlt⟩, .inr ⟨by simp, rfl, rfl, .inr ⟨e, .inr ⟨_, _, hl, hz, .inr ⟨hlt, rfl⟩⟩⟩⟩⟩
    ·exact ⟨true, fun _ h => by rcases h.2 with h | h; exact hne h; exact hlt h, by simp, .inr ⟨by simp, rfl, rfl, .inr ⟨e, .inr ⟨_, _, hl, hz, .inl ⟨by omega, rfl⟩⟩⟩⟩⟩
  ·exact ⟨true, fun _ h => h61 h.1, by simp, .inr ⟨by simp, rfl, rfl, .inl ⟨by simp [h61], rfl⟩⟩⟩
theorem end_ways (r : Bs) (eqB : Bool) : ∃ b : Bool, (b = true → eqB = true ∨ (at_ r 0 ≠ 125 ∧ at_ r 0 ≠ 44)) ∧ (b = false → eqB = false ∧ 0 < r.length ∧ ((at_ r 0 = 125 ∧ (at_ r 0 == 125) = true) ∨ (at_ r 0 = 44 ∧ (at_ r 0 == 125) = false))) ∧
  ((eqB = true ∧ b = true) ∨ (eqB = false ∧ ((r = [] ∧ b = true) ∨ (0 < r.length ∧ r.isEmpty = false ∧ (r == []) = false ∧
   (((at_ r 0 != 44) = true ∧ (at_ r 0 != 125) = true ∧ b = true) ∨ ((at_ r 0 != 44) = false ∧ b = false) ∨ ((at_ r 0 != 44) = true ∧ (at_ r 0 != 125) = false ∧ b = false)))))) := by
 cases eqB with
 | true => exact ⟨true, fun _ => .inl rfl, by simp, .inl ⟨rfl, rfl⟩⟩
 | false =>
  cases r with
  | nil => exact ⟨true, fun _ => .inr ⟨by decide, by decide⟩, by simp, .inr ⟨rfl, .inl ⟨rfl, rfl⟩⟩⟩
  | cons x r =>
   by_cases h44 : at_ (x :: r) 0 = 44
   ·exact ⟨false, by simp, fun _ => ⟨rfl, by simp, .inr ⟨h44, by simp [h44]⟩⟩, .inr ⟨rfl, .inr ⟨by simp, rfl, rfl, .inr (.inl ⟨by simp [h44], rfl⟩)⟩⟩⟩
   ·by_cases h125 : at_ (x :: r) 0 = 125
    ·exact ⟨false, by simp, fun _ => ⟨rfl, by simp, .inl ⟨h125, by simp [h125]⟩⟩, .inr ⟨rfl, .inr ⟨by simp, rfl, rfl, .inr (.inr ⟨by simp [h44], by simp [h125], rfl⟩)⟩⟩⟩
    ·exact ⟨true, fun _ => .inr ⟨h125, h44⟩, by simp, .inr ⟨rfl, .inr ⟨by simp, rfl, rfl, .inl ⟨by simp [h44], by simp [h125], rfl⟩⟩⟩⟩
theorem k_record_nil (v : Value) (rd : Bs → Bs → Option (V × Bs)) (X : List Ty) (t : Ty) (a : Option Addr) (c : Nat) (s k : Bs) (d : Int) (w : World) (hs : s.length ≤ 1500000) (h125 : at_ s 0 = 125) :
  Calls Tryz.prog 109 #[rv v, .string (S s), .string (S k), tv t (.slice a t.fields.length c), .int .i64 d] w (RetV w (recordR rd X t k s)) := by
 have HF := Lib.hid (show recordR rd X t k s = some (.mk k [82] [] [], s.drop 1) by unfold recordR; rw [if_pos h125])
 have hl : 0 < s.length := by
  cases s with
  | nil => cases h125
  | cons _ _ => simp
 have hb1 : s.isEmpty = false := by cases s with | nil => simp at hl | cons _ _ => rfl
 have hb2 : (s != []) = true := by cases s with | nil => simp at hl | cons _ _ => rfl
 unfold rv tv
 go_enter Tryz.func109, Tryz.ntmps109
 go_wp2_with fail
 go_region
 all_goals
  go_wp2_with fail
  go_ret3
  exact RetV.yes (by simpa using HF.out) (by (repeat (first | with_reducible exact Below.refl _ _ | with_reducible apply below_drew | with_reducible apply below_draws | with_reducible apply below_alloc | with_reducible apply below_set | (with_reducible refine below_trans ?_ (by assumption)) | (with_reducible refine Below.trans ?_ (by assumption)) | exact Nat.le_refl _ | omega | (simp <;> omega)))) (VAt.freshAt _ _ (by simp) (by omega))
set_option maxHeartbeats 8000000 in
theorem k_record_on (v : Value) (tps : List (Ty × Value)) (B d : Nat) (IH : IRead v tps B d) (hg : ∀ t ∈ tps.map (·.1), GoodT t) (hva : validB (tps.map (·.1)) = true) (hl8 : tps.length ≤ 8) (t : Ty) (hgt : GoodT t) (h69 : t.sort ≠ 69) (a : Option Addr) (c B0 : Nat)
  (s k : Bs) (w : World) (hs : s.length ≤ 1500000) (hd : d ≤ 100) (hT : Tys w B v tps) (hB : B ≤ w.heap.size) (hF : Flds w B0 (.slice a t.fields.length c) t.fields) (h125 : at_ s 0 ≠ 125) :
  Calls Tryz.prog 109 #[rv v, .string (S s), .string (S k), tv t (.slice a t.fields.length c), .int .i64 ((d : Int) + 1)] w (RetV w (recordR (fun s k => readF (tps.map (·.1)) d s k) (tps.map (·.1)) t k s)) := by
 obtain ⟨rd, hrd⟩ : ∃ rd, (fun s k => readF (tps.map (·.1)) d s k) = rd := ⟨_, rfl⟩
 rw [hrd]
 obtain ⟨X, hX⟩ : ∃ X, tps.map (·.1) = X := ⟨_, rfl⟩
 have HIR := Lib.hid (fun s k w (h1 : s.length ≤ 1500000) (hk : kOk k = true) (h2 : Tys w B v tps) (h3 : B ≤ w.heap.size) => (by subst hrd; exact IH s k w h1 hk h2 h3 : Calls Tryz.prog 59 #[rv v, .string (S s), .string (S k), .int .i64 (d : Int)] w (RetV w (rd s k))))
 have HST := Lib.hid (fun (f : Fl) (hk : kOk f.kind = true) w hT hB => k_stand v tps B hl8 hg hva f hk w hT hB)
 rw [hX] at HST hg hrd ⊢
 obtain ⟨o, ho⟩ : ∃ o, fieldsR rd X t (s.length + 1) s [] [] = o := ⟨_, rfl⟩
 have HF := Lib.hid (recordR_on (k := k) h125 ho)
 have HO := Lib.hid ho; clear ho
 have HLEN := Lib.hid (fun s k x r (h : rd s k = some (x, r)) => (by subst hrd; have := readF_len h; simp only at this; omega : r.length ≤ s.length ∧ (outV x).length ≤ s.length))
 have HTV := Lib.hid (fun s k x r (h : rd s k = some (x, r)) (hk : kOk k = true) => (by subst hrd; exact (readF_tv hg d s k _ hk h).1 : Tv X x))
 have HOUT := Lib.hid (fun x (hx : Tv X x) (hl : (outV x).length ≤ 1500000) N p w h => k_out hg x hx hl N p w h)
 have HTG := Lib.hid (fun s w hs hF => k_tag v t a c B0 s w hs hF (by have := hgt.2.2.1; omega))
 have HT := Lib.hid hT
 have HFL := Lib.hid hF
 have HKO := Lib.hid (fun f (hf : f ∈ t.fields) => (hgt.2.2.2.2 f hf).2.2.2.2.2.1 h69)
 clear IH hrd hT hF hg hva hgt h69
 have hd1 : IntKind.i64.wrap ((d : Int) + 1 - 1) = d := by rw [Int.add_sub_cancel]; exact IntWalk.i64_in _ (by omega)
 have hd2 : IntKind.i64.wrap (d : Int) = d := IntWalk.i64_in _ (by omega)
 have hb9 : s = [] ∨ (0 < s.length ∧ s.isEmpty = false ∧ (s != []) = true ∧ (at_ s 0 == 125) = false) := by
  cases s with
  | nil => exact .inl rfl
  | cons x r => exact .inr ⟨by simp, rfl, rfl, by simpa using h125⟩
 clear h125
 unfold rv tv at *
 go_enter Tryz.func109, Tryz.ntmps109
 go_upto_region 2 with fail
 go_cut [29] (fun x wx => x = .bool false ∧ wx = ((w.alloc (.cells #[v] 99)).alloc (.cells #[.int .u8 t.sort, .string (S t.name), .slice a t.fields.length c] 61)).alloc (.cells #[.string (S k), .string { data := #[82] }, .slice none 0 0, .slice none 0 0] 133))
 case first =>
  rcases hb9 with rfl | ⟨hb0, hb1, hb2, hb3⟩
  ·go_wp2_with fail
   go_meet
   exact ⟨rfl, rfl⟩
  ·go_wp2_with fail
   go_meet
   exact ⟨rfl, rfl⟩
 case rest =>
  obtain ⟨rfl, rfl⟩ := hcut
  clear hb9
  obtain ⟨W, hW⟩ : ∃ W, (((w.alloc (.cells #[v] 99)).alloc (.cells #[.int .u8 t.sort, .string (S t.name), .slice a t.fields.length c] 61)).alloc (.cells #[.string (S k), .string { data := #[82] }, .slice none 0 0, .slice none 0 0] 133)) = W := ⟨_, rfl⟩
  have KR0 := Lib.hid (show Blk W w.heap.size 99 #[v] by rw [← hW]; exact ((Blk.new w _ _).alloc _).alloc _)
  have KT0 := Lib.hid (show Blk W (w.heap.size + 1) 61 #[.int .u8 t.sort, .string (S t.name), .slice a t.fields.length c] by
   rw [← hW]
   have := (Blk.new (w.alloc (.cells #[v] 99)) 61 #[.int .u8 t.sort, .string (S t.name), .slice a t.fields.length c]).alloc (.cells #[.string (S k), .string { data := #[82] }, .slice none 0 0, .slice none 0 0] 133)
   rw [World.size_alloc] at this; exact this)
  have PP0 := Lib.hid (show PP W (w.heap.size + 3) (w.heap.size + 2) k [82] [] [] [] none 0 none 0 from PP.start W (by omega) (by
   rw [← hW]
   have := Blk.new ((w.alloc (.cells #[v] 99)).alloc (.cells #[.int .u8 t.sort, .string (S t.name), .slice a t.fields.length c] 61)) 133 #[.string (S k), .string { data := #[82] }, .slice none 0 0, .slice none 0 0]
   rw [World.size_alloc, World.size_alloc] at this; exact this))
  have HBW := Lib.hid (show Below w.heap.size w W by rw [← hW]; exact below_alloc (below_alloc (below_alloc (Below.refl _ _) _) _) _)
  rw [hW]
  clear hW
  go_wp2_with fail
  go_loopg [1] (s.length + 1) (fun n x wr => ∃ (s' : Bs) (gs : List Int) (l : List V) (ps : List Nat) (a1 : Option Addr) (c1 : Nat) (a2 : Option Addr) (c2 : Nat), x = .string (S s') ∧ s'.length < n ∧ gs.length + n = s.length + 1 ∧ l.length = gs.length ∧ Hid (Blk wr w.heap.size 99 #[v]) ∧ Hid (Blk wr (w.heap.size + 1) 61 #[.int .u8 t.sort, .string (S t.name), .slice a t.fields.length c]) ∧ Hid (PP wr (w.heap.size + 3) (w.heap.size + 2) k [82] gs l ps a1 c1 a2 c2) ∧ Hid (fieldsR rd X t (s.length + 1) s [] [] = fieldsR rd X t n s' gs l) ∧ Hid (Below w.heap.size w wr))
  case atStart => exact ⟨s, [], [], [], none, 0, none, 0, rfl, by omega, by simp, rfl, KR0.out, KT0.out, PP0.out, rfl, HBW.out⟩
  case round =>
   obtain ⟨s', gs, l, ps, a1, c1, a2, c2, rfl, hs', hgn, hlg, hKR, hKT, hPP, hI, hb⟩ := hrel
   have hll : l.length ≤ 1500001 := by omega
   have HLG := Lib.hid hlg
   clear KR0 KT0 PP0 HBW hlg
   obtain ⟨m, rfl⟩ : ∃ m, gk = m + 1 := ⟨gk - 1, by omega⟩
   have kr0 := hKR.out.cell 0
   have kt0 := hKT.out.cell 0
   have kt1 := hKT.out.cell 1
   have kt2 := hKT.out.cell 2
   simp at kr0 kt0 kt1 kt2
   have HC := Lib.hid (HTG.out s' wr (by omega) (HFL.out.below hb.out))
   obtain ⟨ot, hot⟩ : ∃ ot, tagR s' t = ot := ⟨_, rfl⟩
   rw [hot] at HC
   have HOT := Lib.hid hot; clear hot
   go_wp2_with fail
   refine HC.out.mono ?_
   rintro e w1 ⟨f, r, rfl, hfr, hb1⟩
   unfold fv
   have hbx : Below w.heap.size w w1 := below_trans hb.out hb1
   have KR1 := Lib.hid (hKR.out.keep hb1)
   have KT1 := Lib.hid (hKT.out.keep hb1)
   have PP1 := Lib.hid (hPP.out.belowed hb1)
   clear hKR hKT hPP HC kr0 kt0 kt1 kt2
   cases ot with
   | none =>
    have HN := Lib.hid (show recordR rd X t k s = none by rw [HF.out, ← HO.out, hI.out, fields_tag HOT.out]; rfl)
    clear hfr HOT HF HO hI
    go_upto_region 5 with fail
    go_quiet (fail)
    go_wp2_with fail
    go_ret3
    exact RetV.no HN.out (by (repeat (first | with_reducible exact Below.refl _ _ | with_reducible apply below_drew | with_reducible apply below_draws | with_reducible apply below_alloc | with_reducible apply below_set | (with_reducible refine below_trans ?_ (by assumption)) | (with_reducible refine Below.trans ?_ (by assumption)) | exact Nat.le_refl _ | omega | (simp <;> omega))))
   | some y =>
    obtain ⟨f', r'⟩ := y
    obtain ⟨rfl, rfl⟩ := hfr _ rfl
    clear hfr
    have hrl := tagR_len HOT.out
    have hfm := (tagR_out HOT.out).2.2.2.1
    obtain ⟨b, hbt, hbf, hways⟩ := sep_ways r gs f.tag
    have HBT := Lib.hid hbt
    have HBF := Lib.hid hbf
    clear hbt hbf
    have PPa := Lib.hid (PP1.out.belowed (below_alloc (Below.refl _ _) (.cells #[.int .i64 f.tag, .string (S f.name), .string (S f.kind), .string (S f.stand)] 65)))
    obtain ⟨hq, p2, -, -, -, -, -⟩ := PPa.out.cells
    have HGM := Lib.hid (fun (m : Nat) (z : Int) (hm : gs.length = m + 1) (hz : gs[m]? = some z) => (by
     obtain ⟨gt, h1, h2, -⟩ := PPa.out.tgs.at_ (by omega)
     obtain ⟨ha, -⟩ := List.getElem?_eq_some_iff.1 hz
     refine ⟨gt, h1, h2, ?_⟩
     have h3 := PPa.out.tgs
     rw [h1] at h3
     have h4 := h3.cell m ha
     rw [(List.getElem?_eq_some_iff.1 hz).2] at h4
     exact h4 : ∃ gt, a1 = some ⟨gt, 0, none⟩ ∧ gt < (w1.alloc (.cells #[.int .i64 f.tag, .string (S f.name), .string (S f.kind), .string (S f.stand)] 65)).heap.size ∧ (w1.alloc (.cells #[.int .i64 f.tag, .string (S f.name), .string (S f.kind), .string (S f.stand)] 65)).cell? ⟨gt, m, none⟩ = some (.int .i64 z)))
    go_upto_region 5 with fail
    go_cut [76] (fun x wx => x = .bool b ∧ ∃ nq, wx = (w1.alloc (.cells #[.int .i64 f.tag, .string (S f.name), .string (S f.kind), .string (S f.stand)] 65)).drewN nq)
    case first =>
     have hsl : s'.length ≤ 1500000 := by omega
     have hgl : gs.length ≤ 1500001 := by omega
     clear HBT HBF HF HO HLEN HTV HOUT HTG HT HFL HKO HIR HST hI hb PP1 KR1 KT1 PPa HOT hb1 hbx hfm
     rcases hways with ⟨rfl, rfl⟩ | ⟨hr0, hr1, hr2, ⟨hr3, rfl⟩ | ⟨hr3, ⟨rfl, rfl⟩ | ⟨m1, z, hm1, hz, hzz⟩⟩⟩
     ·clear HGM p2
      go_quiet (fail)
      go_wp2_with fail
      go_meet
      exact ⟨rfl, _, rfl⟩
     ·clear HGM p2
      go_quiet (fail)
      go_wp2_with fail
      go_meet
      exact ⟨rfl, _, rfl⟩
     ·clear HGM
      simp only [List.length_nil] at p2
      go_quiet (fail)
      go_wp2_with fail
      go_meet
      exact ⟨rfl, _, rfl⟩
     ·obtain ⟨gt, rfl, hgt, hgc⟩ := HGM.out m1 z hm1 hz
      rw [hm1] at p2
      have hm9 : m1 ≤ 1500000 := by omega
      have i1 : IntKind.i64.wrap (m1 : Int) = m1 := IntWalk.i64_in _ (by omega)
      have i2 : IntKind.i64.wrap ((m1 : Int) + 1 - 1) = m1 := by rw [Int.add_sub_cancel]; exact i1
      have i3 : (0 : Int) < (m1 : Int) + 1 := by omega
      clear HGM hz
      rcases hzz with ⟨hzz, rfl⟩ | ⟨hzz, rfl⟩
      ·go_quiet (fail)
       go_wp2_with fail
       go_meet
       exact ⟨rfl, _, rfl⟩
      ·have hzz2 : ¬ f.tag ≤ z := by omega
       go_quiet (fail)
       go_wp2_with fail
       go_meet
       exact ⟨rfl, _, rfl⟩
    case rest =>
     obtain ⟨rfl, nq, hwc⟩ := hcut
     have hbc : Below (w1.alloc (.cells #[.int .i64 f.tag, .string (S f.name), .string (S f.kind), .string (S f.stand)] 65)).heap.size (w1.alloc (.cells #[.int .i64 f.tag, .string (S f.name), .string (S f.kind), .string (S f.stand)] 65)) wc := by rw [hwc]; exact below_drewN (Below.refl _ _) nq
     have hb2 : Below w1.heap.size w1 wc := below_trans (below_alloc (Below.refl _ _) _) hbc
     have KF := Lib.hid ((Blk.new w1 65 #[.int .i64 f.tag, .string (S f.name), .string (S f.kind), .string (S f.stand)]).keep hbc)
     have KR2 := Lib.hid (KR1.out.keep hb2)
     have KT2 := Lib.hid (KT1.out.keep hb2)
     have PP2 := Lib.hid (PP1.out.belowed hb2)
     have hbw2 : Below w.heap.size w wc := below_trans hbx hb2
     obtain ⟨g8, hg8⟩ : ∃ g8, w1.heap.size = g8 := ⟨_, rfl⟩
     rw [hg8] at KF ⊢
     have hg8w : w.heap.size + 2 < g8 := by have := PP1.out.blk.lt; omega
     clear hwc hbc hb2 PPa KR1 KT1 PP1 hbx hb1 hb hg8 p2 hq HGM hways
     have kf0 := KF.out.cell 0
     have kf1 := KF.out.cell 1
     have kf2 := KF.out.cell 2
     have kf3 := KF.out.cell 3
     have kr0 := KR2.out.cell 0
     simp at kf0 kf1 kf2 kf3 kr0
     cases b with
     | true =>
      have HN := Lib.hid (show recordR rd X t k s = none by rw [HF.out, ← HO.out, hI.out, fields_sep HOT.out (HBT.out rfl)]; rfl)
      clear HOT HF HO hI HBT HBF
      go_wp2_with fail
      go_ret3
      exact RetV.no HN.out hbw2
     | false =>
      have hC := HBF.out rfl
      have HCC := Lib.hid hC
      have hr0 : 0 < r.length := by cases r with | nil => exact absurd hC.1 (by decide) | cons _ _ => simp
      have hr01 : (1 : Int) ≤ (r.length : Int) := by omega
      have hr02 : 1 ≤ r.length := by omega
      clear hC HBT HBF
      have hko := HKO.out f hfm
      have HC := Lib.hid (fun W (hbw : Below wc.heap.size wc W) => HIR.out (r.drop 1) f.kind W (by rw [List.length_drop]; omega) hko (HT.out.below (below_trans hbw2 hbw)) (by have := hbw2.size; have := hbw.size; omega))
      obtain ⟨o2, ho2⟩ : ∃ o2, rd (r.drop 1) f.kind = o2 := ⟨_, rfl⟩
      rw [ho2, List.drop_one] at HC
      have HO2 := Lib.hid ho2; clear ho2
      go_upto_region 7 with fail
      go_cut [17, 18, 19] (fun x y z wx => ∃ pv r2, x = .pointer pv ∧ y = .string (S r2) ∧ z = .bool o2.isSome ∧ Read wc o2 pv r2 wx)
      case first =>
       clear HF HO HLEN HIR HT hI HO2 HTV HOUT HTG HFL HKO HST HOT KF KR2 KT2 PP2 hbw2 HCC hko hfm hgn
       go_region_held3 (fun w' => w'.cell? ⟨g8, 2, none⟩ = some (.string (S f.kind)) ∧ w'.cell? ⟨w.heap.size, 0, none⟩ = some v ∧ Below wc.heap.size wc w')
        (first | (exact ⟨kf2, kr0, below_drew (Below.refl _ _)⟩) | (go_split_ands; refine ⟨?_, ?_, ?_⟩; (exact cell_later hb1 (by assumption)); (exact cell_later hb1 (by assumption)); (exact below_trans (by assumption) hb1)))
        (first | (go_at_call 59; go_split_ands; (with_reducible refine (HC.out _ (by assumption)).mono ?_); rintro e w' ⟨pv, r2, rfl, hb1, hx1⟩))
       all_goals
        go_split_ands
        go_wp2_with fail
        go_meet
        exact ⟨pv, r2, rfl, rfl, rfl, Read.of (by assumption) hb1 hx1⟩
      case rest =>
       obtain ⟨pv, r2, rfl, rfl, rfl, hb3, hx3⟩ := hcut
       have hbw3 : Below w.heap.size w wc := below_trans hbw2 hb3
       have KF3 := Lib.hid (KF.out.keep hb3)
       have KR3 := Lib.hid (KR2.out.keep hb3)
       have KT3 := Lib.hid (KT2.out.keep hb3)
       have PP3 := Lib.hid (PP2.out.belowed hb3)
       have hg83 : w.heap.size + 3 ≤ wc.heap.size ∧ g8 < wc.heap.size := ⟨by have := KF3.out.lt; omega, KF3.out.lt⟩
       have HB3 := Lib.hid hb3
       obtain ⟨-, -, -, -, -, ha1, ha2⟩ := PP2.out.cells
       have hLL := Nat.lt_of_lt_of_le hg8w (Nat.le_of_lt KF.out.lt)
       clear kf0 kf1 kf2 kf3 kr0 KF KR2 KT2 PP2 hbw2 hb3 HC HIR
       have kf0 := KF3.out.cell 0
       have kf1 := KF3.out.cell 1
       have kf2 := KF3.out.cell 2
       have kf3 := KF3.out.cell 3
       have kr0 := KR3.out.cell 0
       simp at kf0 kf1 kf2 kf3 kr0
       cases o2 with
       | none =>
        have HN := Lib.hid (show recordR rd X t k s = none by rw [HF.out, ← HO.out, hI.out, fields_read HOT.out HCC.out HO2.out]; rfl)
        clear HOT HF HO hI HO2 hx3 HCC
        go_upto_region 8 with fail
        go_quiet (fail)
        go_wp2_with fail
        go_ret3
        exact RetV.no HN.out (by first | with_reducible assumption | (repeat (first | with_reducible exact Below.refl _ _ | with_reducible apply below_drew | with_reducible apply below_draws | with_reducible apply below_alloc | with_reducible apply below_set | (with_reducible refine below_trans ?_ (by assumption)) | (with_reducible refine Below.trans ?_ (by assumption)) | exact Nat.le_refl _ | omega | (simp <;> omega))))
       | some y =>
        obtain ⟨x, r3⟩ := y
        obtain ⟨rfl, p, rfl, hv⟩ := hx3 _ rfl
        simp only at hv
        have hle := HLEN.out _ _ _ _ HO2.out
        rw [List.length_drop] at hle
        have hTv := HTV.out _ _ _ _ HO2.out hko
        have HCo := Lib.hid (fun W (hbw : Below wc.heap.size wc W) => HOUT.out x hTv (by omega) _ p W (hv.belowed hbw))
        have HCs := Lib.hid (fun W (hbw : Below wc.heap.size wc W) => (HST.out f hko W (HT.out.below (below_trans hbw3 hbw)) (by have := hbw3.size; have := hbw.size; omega) : Calls Tryz.prog 38 #[v, fv f] W fun e w' => e = .returned (.string (S (standV X f))) ∧ Below W.heap.size W w'))
        unfold fv at HCs
        obtain ⟨ox, hox⟩ : ∃ ox, outV x = ox := ⟨_, rfl⟩
        obtain ⟨sx, hsx⟩ : ∃ sx, standV X f = sx := ⟨_, rfl⟩
        rw [hox] at HCo
        rw [hsx] at HCs
        obtain ⟨eqB, heq⟩ : ∃ e, (ox == sx) = e := ⟨_, rfl⟩
        have HEQ := Lib.hid (show eqB = true ↔ outV x = standM X f by rw [hox, show standM X f = sx from hsx, ← heq]; simp)
        clear hox hsx
        obtain ⟨b2, hbt, hbf, hways⟩ := end_ways r2 eqB
        have HBT := Lib.hid hbt
        have HBF := Lib.hid hbf
        have HX := Lib.hid (Fr.of_lt hv (show w.heap.size + 3 ≤ _ from hLL) ha1 ha2)
        clear hbt hbf hx3 hv ha1 ha2
        go_upto_region 8 with fail
        go_cut [114] (fun z wx => z = .bool b2 ∧ Below wc.heap.size wc wx)
        case first =>
         clear HF HO HLEN HT hI HO2 HTV HOUT HTG HFL HKO HST HOT KF3 KR3 KT3 PP3 hbw3 HCC hko hfm hgn HEQ HBT HBF HX HB3 hTv
         rcases hways with ⟨rfl, rfl⟩ | ⟨rfl, hways⟩
         ·obtain rfl : ox = sx := by simpa using heq
          clear heq
          refine wp_region_held_drew (S := (fun w' => w'.cell? ⟨g8, 0, none⟩ = some (.int .i64 f.tag) ∧ w'.cell? ⟨g8, 1, none⟩ = some (.string (S f.name)) ∧ w'.cell? ⟨g8, 2, none⟩ = some (.string (S f.kind)) ∧ w'.cell? ⟨g8, 3, none⟩ = some (.string (S f.stand)) ∧ w'.cell? ⟨w.heap.size, 0, none⟩ = some v ∧ Below wc.heap.size wc w')) (by kernel_rfl) (⟨kf0, kf1, kf2, kf3, kr0, below_drew (Below.refl _ _)⟩) (fun hHeld => ?_)
          refine wpAnyH_take (i := 0) (oi := ({ dst := some 90, op := Go.Op.move (Go.Operand.tmp 19), type := 4, pos := "l4_values.go:89", after := #[], guard := none } : Go.Oper)) (v := ?_) rfl (by kernel_rfl) (by kernel_rfl) (by kernel_rfl) (fun _ _ _ h => h) (Or.inl ⟨by rfl, ?_⟩) (by assumption) ?_
          rotate_left
          ·intro w0 hSw; (try dsimp only at hSw); go_simp; (try with_reducible rfl)
          (try simp only [Act.put, List.setIfInBounds_toArray, List.set_cons_zero, List.set_cons_succ])
          refine wpAnyH_take (i := 1) (oi := ({ dst := some 91, op := Go.Op.unOp Go.UnOp.not 4 (Go.Operand.tmp 90), type := 4, pos := "l4_values.go:89", after := #[{ on := 0, ground := Go.Ground.data }], guard := none } : Go.Oper)) (v := ?_) rfl (by kernel_rfl) (by kernel_rfl) (by kernel_rfl) (fun _ _ _ h => h) (Or.inl ⟨by rfl, ?_⟩) (by assumption) ?_
          rotate_left
          ·intro w0 hSw; (try dsimp only at hSw); go_simp; (try with_reducible rfl)
          (try simp only [Act.put, List.setIfInBounds_toArray, List.set_cons_zero, List.set_cons_succ])
          refine wpAnyH_take (i := 2) (oi := ({ dst := some 92, op := Go.Op.move (Go.Operand.tmp 91), type := 4, pos := "l4_values.go:89", after := #[{ on := 1, ground := Go.Ground.data }], guard := none } : Go.Oper)) (v := ?_) rfl (by kernel_rfl) (by kernel_rfl) (by kernel_rfl) (fun _ _ _ h => h) (Or.inl ⟨by rfl, ?_⟩) (by assumption) ?_
          rotate_left
          ·intro w0 hSw; (try dsimp only at hSw); go_simp; (try with_reducible rfl)
          (try simp only [Act.put, List.setIfInBounds_toArray, List.set_cons_zero, List.set_cons_succ])
          refine wpAnyH_take (i := 3) (oi := ({ dst := some 93, op := Go.Op.move (Go.Operand.tmp 17), type := 80, pos := "l4_values.go:89", after := #[{ on := 2, ground := Go.Ground.guard }], guard := some (2, false) } : Go.Oper)) (v := ?_) rfl (by kernel_rfl) (by kernel_rfl) (by kernel_rfl) (fun _ _ _ h => h) (Or.inl ⟨by rfl, ?_⟩) (by assumption) ?_
          rotate_left
          ·intro w0 hSw; (try dsimp only at hSw); go_simp; (try with_reducible rfl)
          (try simp only [Act.put, List.setIfInBounds_toArray, List.set_cons_zero, List.set_cons_succ])
          refine wpAnyH_take (i := 5) (oi := ({ dst := some 95, op := Go.Op.fieldAddr 99 (Go.Operand.tmp 5) 0, type := 0, pos := "l4_values.go:89", after := #[{ on := 2, ground := Go.Ground.guard }], guard := some (2, false) } : Go.Oper)) (v := ?_) rfl (by kernel_rfl) (by kernel_rfl) (by kernel_rfl) (fun _ _ _ h => h) (Or.inl ⟨by rfl, ?_⟩) (by assumption) ?_
          rotate_left
          ·intro w0 hSw; (try dsimp only at hSw); go_simp; (try with_reducible rfl)
          (try simp only [Act.put, List.setIfInBounds_toArray, List.set_cons_zero, List.set_cons_succ])
          refine wpAnyH_take (i := 6) (oi := ({ dst := some 96, op := Go.Op.load 58 (Go.Operand.tmp 95), type := 58, pos := "l4_values.go:89", after := #[{ on := 5, ground := Go.Ground.data }, { on := 2, ground := Go.Ground.guard }], guard := some (2, false) } : Go.Oper)) (v := ?_) rfl (by kernel_rfl) (by kernel_rfl) (by kernel_rfl) (fun _ _ _ h => h) (Or.inl ⟨by rfl, ?_⟩) (by assumption) ?_
          rotate_left
          ·intro w0 hSw; (try dsimp only at hSw); go_simp; (try with_reducible rfl)
          (try simp only [Act.put, List.setIfInBounds_toArray, List.set_cons_zero, List.set_cons_succ])
          refine wpAnyH_take (i := 7) (oi := ({ dst := some 97, op := Go.Op.load 65 (Go.Operand.tmp 14), type := 65, pos := "l4_values.go:89", after := #[{ on := 2, ground := Go.Ground.guard }], guard := some (2, false) } : Go.Oper)) (v := ?_) rfl (by kernel_rfl) (by kernel_rfl) (by kernel_rfl) (fun _ _ _ h => h) (Or.inl ⟨by rfl, ?_⟩) (by assumption) ?_
          rotate_left
          ·intro w0 hSw; (try dsimp only at hSw); go_simp; (try with_reducible rfl)
          (try simp only [Act.put, List.setIfInBounds_toArray, List.set_cons_zero, List.set_cons_succ])
          refine wpAnyH_ready (rs := [4]) (by kernel_rfl) (by simp) ?_
          refine AllReadyH.cons (o := ({ dst := some 94, op := Go.Op.call { callee := Go.Callee.value (Go.Operand.func 54), args := #[Go.Operand.tmp 93], argTypes := #[80] }, type := 9, pos := "l4_values.go:89", after := #[{ on := 3, ground := Go.Ground.data }, { on := 2, ground := Go.Ground.chain }, { on := 2, ground := Go.Ground.guard }], guard := some (2, false) } : Go.Oper)) rfl (fun K hK => ?_) AllReadyH.nil
          go_simp
          (go_at_call 54; go_split_ands; (with_reducible refine (HCo.out _ (by assumption)).mono ?_); rintro e w' ⟨rfl, hb1⟩; go_wp2_with fail)
          refine hK.out _ _ ?_ (fun hHeld => ?_)
          ·(try dsimp only); (go_split_ands; refine ⟨?_, ?_, ?_, ?_, ?_, ?_⟩; (exact cell_later hb1 (by assumption)); (exact cell_later hb1 (by assumption)); (exact cell_later hb1 (by assumption)); (exact cell_later hb1 (by assumption)); (exact cell_later hb1 (by assumption)); (exact below_trans (by assumption) hb1))
          clear hK K
          (try simp only [Act.put, List.setIfInBounds_toArray, List.set_cons_zero, List.set_cons_succ])
          refine wpAnyH_ready (rs := [8]) (by kernel_rfl) (by simp) ?_
          refine AllReadyH.cons (o := ({ dst := some 98, op := Go.Op.call { callee := Go.Callee.value (Go.Operand.func 38), args := #[Go.Operand.tmp 96, Go.Operand.tmp 97], argTypes := #[58, 65] }, type := 9, pos := "l4_values.go:89", after := #[{ on := 6, ground := Go.Ground.data }, { on := 7, ground := Go.Ground.data }, { on := 4, ground := Go.Ground.chain }, { on := 2, ground := Go.Ground.guard }], guard := some (2, false) } : Go.Oper)) rfl (fun K hK => ?_) AllReadyH.nil
          go_simp
          (go_at_call 38; go_split_ands; (with_reducible refine (HCs.out _ (by assumption)).mono ?_); rintro e w' ⟨rfl, hb1⟩; go_wp2_with fail)
          refine hK.out _ _ ?_ (fun hHeld => ?_)
          ·(try dsimp only); (go_split_ands; refine ⟨?_, ?_, ?_, ?_, ?_, ?_⟩; (exact cell_later hb1 (by assumption)); (exact cell_later hb1 (by assumption)); (exact cell_later hb1 (by assumption)); (exact cell_later hb1 (by assumption)); (exact cell_later hb1 (by assumption)); (exact below_trans (by assumption) hb1))
          clear hK K
          (try simp only [Act.put, List.setIfInBounds_toArray, List.set_cons_zero, List.set_cons_succ])
          refine wpAnyH_take (i := 9) (oi := ({ dst := some 99, op := Go.Op.binOp Go.BinOp.eql 9 (Go.Operand.tmp 94) (Go.Operand.tmp 98) 9, type := 4, pos := "l4_values.go:89", after := #[{ on := 4, ground := Go.Ground.data }, { on := 8, ground := Go.Ground.data }, { on := 2, ground := Go.Ground.guard }], guard := some (2, false) } : Go.Oper)) (v := ?_) rfl (by kernel_rfl) (by kernel_rfl) (by kernel_rfl) (fun _ _ _ h => h) (Or.inl ⟨by rfl, ?_⟩) (by assumption) ?_
          rotate_left
          ·intro w0 hSw; (try dsimp only at hSw); go_simp; (try with_reducible rfl)
          (try simp only [Act.put, List.setIfInBounds_toArray, List.set_cons_zero, List.set_cons_succ])
          refine wpAnyH_take (i := 10) (oi := ({ dst := some 100, op := Go.Op.pick (Go.Operand.tmp 92) (Go.Operand.const (Go.Value.bool true)) (Go.Operand.tmp 99), type := 4, pos := "l4_values.go:89", after := #[{ on := 2, ground := Go.Ground.data }, { on := 9, ground := Go.Ground.data }], guard := none } : Go.Oper)) (v := ?_) rfl (by kernel_rfl) (by kernel_rfl) (by kernel_rfl) (fun _ _ _ h => h) (Or.inl ⟨by rfl, ?_⟩) (by assumption) ?_
          rotate_left
          ·intro w0 hSw; (try dsimp only at hSw); go_simp; (try with_reducible rfl)
          (try simp only [Act.put, List.setIfInBounds_toArray, List.set_cons_zero, List.set_cons_succ])
          refine wpAnyH_take (i := 11) (oi := ({ dst := some 101, op := Go.Op.move (Go.Operand.tmp 100), type := 4, pos := "l4_values.go:89", after := #[{ on := 10, ground := Go.Ground.data }, { on := 8, ground := Go.Ground.chain }], guard := none } : Go.Oper)) (v := ?_) rfl (by kernel_rfl) (by kernel_rfl) (by kernel_rfl) (fun _ _ _ h => h) (Or.inl ⟨by rfl, ?_⟩) (by assumption) ?_
          rotate_left
          ·intro w0 hSw; (try dsimp only at hSw); go_simp; (try with_reducible rfl)
          (try simp only [Act.put, List.setIfInBounds_toArray, List.set_cons_zero, List.set_cons_succ])
          refine wpAnyH_take (i := 12) (oi := ({ dst := some 102, op := Go.Op.move (Go.Operand.tmp 18), type := 9, pos := "l4_values.go:89", after := #[{ on := 11, ground := Go.Ground.guard }], guard := some (11, false) } : Go.Oper)) (v := undef) rfl (by kernel_rfl) (by kernel_rfl) (by kernel_rfl) (fun _ _ _ h => h) (Or.inr ⟨by rfl, rfl⟩) (by assumption) ?_
          (try simp only [Act.put, List.setIfInBounds_toArray, List.set_cons_zero, List.set_cons_succ])
          refine wpAnyH_take (i := 13) (oi := ({ dst := some 103, op := Go.Op.binOp Go.BinOp.eql 9 (Go.Operand.tmp 102) (Go.Operand.const (Go.Value.string { data := #[] })) 9, type := 4, pos := "l4_values.go:89", after := #[{ on := 12, ground := Go.Ground.data }, { on := 11, ground := Go.Ground.guard }], guard := some (11, false) } : Go.Oper)) (v := undef) rfl (by kernel_rfl) (by kernel_rfl) (by kernel_rfl) (fun _ _ _ h => h) (Or.inr ⟨by rfl, rfl⟩) (by assumption) ?_
          (try simp only [Act.put, List.setIfInBounds_toArray, List.set_cons_zero, List.set_cons_succ])
          refine wpAnyH_take (i := 14) (oi := ({ dst := some 104, op := Go.Op.pick (Go.Operand.tmp 101) (Go.Operand.const (Go.Value.bool true)) (Go.Operand.tmp 103), type := 4, pos := "l4_values.go:89", after := #[{ on := 11, ground := Go.Ground.data }, { on := 13, ground := Go.Ground.data }], guard := none } : Go.Oper)) (v := ?_) rfl (by kernel_rfl) (by kernel_rfl) (by kernel_rfl) (fun _ _ _ h => h) (Or.inl ⟨by rfl, ?_⟩) (by assumption) ?_
          rotate_left
          ·intro w0 hSw; (try dsimp only at hSw); go_simp; (try with_reducible rfl)
          (try simp only [Act.put, List.setIfInBounds_toArray, List.set_cons_zero, List.set_cons_succ])
          refine wpAnyH_take (i := 15) (oi := ({ dst := some 105, op := Go.Op.move (Go.Operand.tmp 104), type := 4, pos := "l4_values.go:89", after := #[{ on := 14, ground := Go.Ground.data }, { on := 11, ground := Go.Ground.chain }], guard := none } : Go.Oper)) (v := ?_) rfl (by kernel_rfl) (by kernel_rfl) (by kernel_rfl) (fun _ _ _ h => h) (Or.inl ⟨by rfl, ?_⟩) (by assumption) ?_
          rotate_left
          ·intro w0 hSw; (try dsimp only at hSw); go_simp; (try with_reducible rfl)
          (try simp only [Act.put, List.setIfInBounds_toArray, List.set_cons_zero, List.set_cons_succ])
          refine wpAnyH_take (i := 16) (oi := ({ dst := some 106, op := Go.Op.move (Go.Operand.tmp 18), type := 9, pos := "l4_values.go:89", after := #[{ on := 15, ground := Go.Ground.guard }], guard := some (15, false) } : Go.Oper)) (v := undef) rfl (by kernel_rfl) (by kernel_rfl) (by kernel_rfl) (fun _ _ _ h => h) (Or.inr ⟨by rfl, rfl⟩) (by assumption) ?_
          (try simp only [Act.put, List.setIfInBounds_toArray, List.set_cons_zero, List.set_cons_succ])
          refine wpAnyH_take (i := 17) (oi := ({ dst := some 107, op := Go.Op.index 9 (Go.Operand.tmp 106) (Go.Operand.const (Go.Value.int Go.IntKind.i64 0)), type := 5, pos := "l4_values.go:89", after := #[{ on := 16, ground := Go.Ground.data }, { on := 15, ground := Go.Ground.guard }], guard := some (15, false) } : Go.Oper)) (v := undef) rfl (by kernel_rfl) (by kernel_rfl) (by kernel_rfl) (fun _ _ _ h => h) (Or.inr ⟨by rfl, rfl⟩) (by assumption) ?_
          (try simp only [Act.put, List.setIfInBounds_toArray, List.set_cons_zero, List.set_cons_succ])
          refine wpAnyH_take (i := 18) (oi := ({ dst := some 108, op := Go.Op.binOp Go.BinOp.neq 5 (Go.Operand.tmp 107) (Go.Operand.const (Go.Value.int Go.IntKind.u8 44)) 5, type := 4, pos := "l4_values.go:89", after := #[{ on := 17, ground := Go.Ground.data }, { on := 15, ground := Go.Ground.guard }], guard := some (15, false) } : Go.Oper)) (v := undef) rfl (by kernel_rfl) (by kernel_rfl) (by kernel_rfl) (fun _ _ _ h => h) (Or.inr ⟨by rfl, rfl⟩) (by assumption) ?_
          (try simp only [Act.put, List.setIfInBounds_toArray, List.set_cons_zero, List.set_cons_succ])
          refine wpAnyH_take (i := 19) (oi := ({ dst := some 109, op := Go.Op.move (Go.Operand.tmp 108), type := 4, pos := "l4_values.go:89", after := #[{ on := 18, ground := Go.Ground.data }, { on := 15, ground := Go.Ground.chain }, { on := 15, ground := Go.Ground.guard }], guard := some (15, false) } : Go.Oper)) (v := undef) rfl (by kernel_rfl) (by kernel_rfl) (by kernel_rfl) (fun _ _ _ h => h) (Or.inr ⟨by rfl, rfl⟩) (by assumption) ?_
          (try simp only [Act.put, List.setIfInBounds_toArray, List.set_cons_zero, List.set_cons_succ])
          refine wpAnyH_take (i := 20) (oi := ({ dst := some 110, op := Go.Op.move (Go.Operand.tmp 18), type := 9, pos := "l4_values.go:89", after := #[{ on := 19, ground := Go.Ground.guard }], guard := some (19, true) } : Go.Oper)) (v := undef) rfl (by kernel_rfl) (by kernel_rfl) (by kernel_rfl) (fun _ _ _ h => h) (Or.inr ⟨by rfl, rfl⟩) (by assumption) ?_
          (try simp only [Act.put, List.setIfInBounds_toArray, List.set_cons_zero, List.set_cons_succ])
          refine wpAnyH_take (i := 21) (oi := ({ dst := some 111, op := Go.Op.index 9 (Go.Operand.tmp 110) (Go.Operand.const (Go.Value.int Go.IntKind.i64 0)), type := 5, pos := "l4_values.go:89", after := #[{ on := 20, ground := Go.Ground.data }, { on := 19, ground := Go.Ground.guard }], guard := some (19, true) } : Go.Oper)) (v := undef) rfl (by kernel_rfl) (by kernel_rfl) (by kernel_rfl) (fun _ _ _ h => h) (Or.inr ⟨by rfl, rfl⟩) (by assumption) ?_
          (try simp only [Act.put, List.setIfInBounds_toArray, List.set_cons_zero, List.set_cons_succ])
          refine wpAnyH_take (i := 22) (oi := ({ dst := some 112, op := Go.Op.binOp Go.BinOp.neq 5 (Go.Operand.tmp 111) (Go.Operand.const (Go.Value.int Go.IntKind.u8 125)) 5, type := 4, pos := "l4_values.go:89", after := #[{ on := 21, ground := Go.Ground.data }, { on := 19, ground := Go.Ground.guard }], guard := some (19, true) } : Go.Oper)) (v := undef) rfl (by kernel_rfl) (by kernel_rfl) (by kernel_rfl) (fun _ _ _ h => h) (Or.inr ⟨by rfl, rfl⟩) (by assumption) ?_
          (try simp only [Act.put, List.setIfInBounds_toArray, List.set_cons_zero, List.set_cons_succ])
          refine wpAnyH_take (i := 23) (oi := ({ dst := some 113, op := Go.Op.pick (Go.Operand.tmp 109) (Go.Operand.tmp 112) (Go.Operand.const (Go.Value.bool false)), type := 4, pos := "l4_values.go:89", after := #[{ on := 19, ground := Go.Ground.data }, { on := 22, ground := Go.Ground.data }, { on := 15, ground := Go.Ground.guard }], guard := some (15, false) } : Go.Oper)) (v := undef) rfl (by kernel_rfl) (by kernel_rfl) (by kernel_rfl) (fun _ _ _ h => h) (Or.inr ⟨by rfl, rfl⟩) (by assumption) ?_
          (try simp only [Act.put, List.setIfInBounds_toArray, List.set_cons_zero, List.set_cons_succ])
          refine wpAnyH_take (i := 24) (oi := ({ dst := some 114, op := Go.Op.pick (Go.Operand.tmp 105) (Go.Operand.const (Go.Value.bool true)) (Go.Operand.tmp 113), type := 4, pos := "l4_values.go:89", after := #[{ on := 15, ground := Go.Ground.data }, { on := 23, ground := Go.Ground.data }], guard := none } : Go.Oper)) (v := ?_) rfl (by kernel_rfl) (by kernel_rfl) (by kernel_rfl) (fun _ _ _ h => h) (Or.inl ⟨by rfl, ?_⟩) (by assumption) ?_
          rotate_left
          ·intro w0 hSw; (try dsimp only at hSw); go_simp; (try with_reducible rfl)
          (try simp only [Act.put, List.setIfInBounds_toArray, List.set_cons_zero, List.set_cons_succ])
          refine wpAnyH_done (by kernel_rfl) ?_ _
          go_split_ands
          go_wp2_with fail
          go_meet
          exact ⟨rfl, by first | assumption | exact below_trans (by assumption) (by assumption)⟩
         have n1 : ¬ ox = sx := by simpa using heq
         have n2 : ¬ S ox = S sx := by intro e; apply n1; have := congrArg (fun b : ByteArray => b.data.toList) e; simpa [S] using this
         rcases hways with ⟨rfl, rfl⟩ | ⟨q0, q1, q2, hways⟩
         ·clear hr01
          refine wp_region_held_drew (S := (fun w' => w'.cell? ⟨g8, 0, none⟩ = some (.int .i64 f.tag) ∧ w'.cell? ⟨g8, 1, none⟩ = some (.string (S f.name)) ∧ w'.cell? ⟨g8, 2, none⟩ = some (.string (S f.kind)) ∧ w'.cell? ⟨g8, 3, none⟩ = some (.string (S f.stand)) ∧ w'.cell? ⟨w.heap.size, 0, none⟩ = some v ∧ Below wc.heap.size wc w')) (by kernel_rfl) (⟨kf0, kf1, kf2, kf3, kr0, below_drew (Below.refl _ _)⟩) (fun hHeld => ?_)
          refine wpAnyH_take (i := 0) (oi := ({ dst := some 90, op := Go.Op.move (Go.Operand.tmp 19), type := 4, pos := "l4_values.go:89", after := #[], guard := none } : Go.Oper)) (v := ?_) rfl (by kernel_rfl) (by kernel_rfl) (by kernel_rfl) (fun _ _ _ h => h) (Or.inl ⟨by rfl, ?_⟩) (by assumption) ?_
          rotate_left
          ·intro w0 hSw; (try dsimp only at hSw); go_simp; (try with_reducible rfl)
          (try simp only [Act.put, List.setIfInBounds_toArray, List.set_cons_zero, List.set_cons_succ])
          refine wpAnyH_take (i := 1) (oi := ({ dst := some 91, op := Go.Op.unOp Go.UnOp.not 4 (Go.Operand.tmp 90), type := 4, pos := "l4_values.go:89", after := #[{ on := 0, ground := Go.Ground.data }], guard := none } : Go.Oper)) (v := ?_) rfl (by kernel_rfl) (by kernel_rfl) (by kernel_rfl) (fun _ _ _ h => h) (Or.inl ⟨by rfl, ?_⟩) (by assumption) ?_
          rotate_left
          ·intro w0 hSw; (try dsimp only at hSw); go_simp; (try with_reducible rfl)
          (try simp only [Act.put, List.setIfInBounds_toArray, List.set_cons_zero, List.set_cons_succ])
          refine wpAnyH_take (i := 2) (oi := ({ dst := some 92, op := Go.Op.move (Go.Operand.tmp 91), type := 4, pos := "l4_values.go:89", after := #[{ on := 1, ground := Go.Ground.data }], guard := none } : Go.Oper)) (v := ?_) rfl (by kernel_rfl) (by kernel_rfl) (by kernel_rfl) (fun _ _ _ h => h) (Or.inl ⟨by rfl, ?_⟩) (by assumption) ?_
          rotate_left
          ·intro w0 hSw; (try dsimp only at hSw); go_simp; (try with_reducible rfl)
          (try simp only [Act.put, List.setIfInBounds_toArray, List.set_cons_zero, List.set_cons_succ])
          refine wpAnyH_take (i := 3) (oi := ({ dst := some 93, op := Go.Op.move (Go.Operand.tmp 17), type := 80, pos := "l4_values.go:89", after := #[{ on := 2, ground := Go.Ground.guard }], guard := some (2, false) } : Go.Oper)) (v := ?_) rfl (by kernel_rfl) (by kernel_rfl) (by kernel_rfl) (fun _ _ _ h => h) (Or.inl ⟨by rfl, ?_⟩) (by assumption) ?_
          rotate_left
          ·intro w0 hSw; (try dsimp only at hSw); go_simp; (try with_reducible rfl)
          (try simp only [Act.put, List.setIfInBounds_toArray, List.set_cons_zero, List.set_cons_succ])
          refine wpAnyH_take (i := 5) (oi := ({ dst := some 95, op := Go.Op.fieldAddr 99 (Go.Operand.tmp 5) 0, type := 0, pos := "l4_values.go:89", after := #[{ on := 2, ground := Go.Ground.guard }], guard := some (2, false) } : Go.Oper)) (v := ?_) rfl (by kernel_rfl) (by kernel_rfl) (by kernel_rfl) (fun _ _ _ h => h) (Or.inl ⟨by rfl, ?_⟩) (by assumption) ?_
          rotate_left
          ·intro w0 hSw; (try dsimp only at hSw); go_simp; (try with_reducible rfl)
          (try simp only [Act.put, List.setIfInBounds_toArray, List.set_cons_zero, List.set_cons_succ])
          refine wpAnyH_take (i := 6) (oi := ({ dst := some 96, op := Go.Op.load 58 (Go.Operand.tmp 95), type := 58, pos := "l4_values.go:89", after := #[{ on := 5, ground := Go.Ground.data }, { on := 2, ground := Go.Ground.guard }], guard := some (2, false) } : Go.Oper)) (v := ?_) rfl (by kernel_rfl) (by kernel_rfl) (by kernel_rfl) (fun _ _ _ h => h) (Or.inl ⟨by rfl, ?_⟩) (by assumption) ?_
          rotate_left
          ·intro w0 hSw; (try dsimp only at hSw); go_simp; (try with_reducible rfl)
          (try simp only [Act.put, List.setIfInBounds_toArray, List.set_cons_zero, List.set_cons_succ])
          refine wpAnyH_take (i := 7) (oi := ({ dst := some 97, op := Go.Op.load 65 (Go.Operand.tmp 14), type := 65, pos := "l4_values.go:89", after := #[{ on := 2, ground := Go.Ground.guard }], guard := some (2, false) } : Go.Oper)) (v := ?_) rfl (by kernel_rfl) (by kernel_rfl) (by kernel_rfl) (fun _ _ _ h => h) (Or.inl ⟨by rfl, ?_⟩) (by assumption) ?_
          rotate_left
          ·intro w0 hSw; (try dsimp only at hSw); go_simp; (try with_reducible rfl)
          (try simp only [Act.put, List.setIfInBounds_toArray, List.set_cons_zero, List.set_cons_succ])
          refine wpAnyH_ready (rs := [4]) (by kernel_rfl) (by simp) ?_
          refine AllReadyH.cons (o := ({ dst := some 94, op := Go.Op.call { callee := Go.Callee.value (Go.Operand.func 54), args := #[Go.Operand.tmp 93], argTypes := #[80] }, type := 9, pos := "l4_values.go:89", after := #[{ on := 3, ground := Go.Ground.data }, { on := 2, ground := Go.Ground.chain }, { on := 2, ground := Go.Ground.guard }], guard := some (2, false) } : Go.Oper)) rfl (fun K hK => ?_) AllReadyH.nil
          go_simp
          (go_at_call 54; go_split_ands; (with_reducible refine (HCo.out _ (by assumption)).mono ?_); rintro e w' ⟨rfl, hb1⟩; go_wp2_with fail)
          refine hK.out _ _ ?_ (fun hHeld => ?_)
          ·(try dsimp only); (go_split_ands; refine ⟨?_, ?_, ?_, ?_, ?_, ?_⟩; (exact cell_later hb1 (by assumption)); (exact cell_later hb1 (by assumption)); (exact cell_later hb1 (by assumption)); (exact cell_later hb1 (by assumption)); (exact cell_later hb1 (by assumption)); (exact below_trans (by assumption) hb1))
          clear hK K
          (try simp only [Act.put, List.setIfInBounds_toArray, List.set_cons_zero, List.set_cons_succ])
          refine wpAnyH_ready (rs := [8]) (by kernel_rfl) (by simp) ?_
          refine AllReadyH.cons (o := ({ dst := some 98, op := Go.Op.call { callee := Go.Callee.value (Go.Operand.func 38), args := #[Go.Operand.tmp 96, Go.Operand.tmp 97], argTypes := #[58, 65] }, type := 9, pos := "l4_values.go:89", after := #[{ on := 6, ground := Go.Ground.data }, { on := 7, ground := Go.Ground.data }, { on := 4, ground := Go.Ground.chain }, { on := 2, ground := Go.Ground.guard }], guard := some (2, false) } : Go.Oper)) rfl (fun K hK => ?_) AllReadyH.nil
          go_simp
          (go_at_call 38; go_split_ands; (with_reducible refine (HCs.out _ (by assumption)).mono ?_); rintro e w' ⟨rfl, hb1⟩; go_wp2_with fail)
          refine hK.out _ _ ?_ (fun hHeld => ?_)
          ·(try dsimp only); (go_split_ands; refine ⟨?_, ?_, ?_, ?_, ?_, ?_⟩; (exact cell_later hb1 (by assumption)); (exact cell_later hb1 (by assumption)); (exact cell_later hb1 (by assumption)); (exact cell_later hb1 (by assumption)); (exact cell_later hb1 (by assumption)); (exact below_trans (by assumption) hb1))
          clear hK K
          (try simp only [Act.put, List.setIfInBounds_toArray, List.set_cons_zero, List.set_cons_succ])
          refine wpAnyH_take (i := 9) (oi := ({ dst := some 99, op := Go.Op.binOp Go.BinOp.eql 9 (Go.Operand.tmp 94) (Go.Operand.tmp 98) 9, type := 4, pos := "l4_values.go:89", after := #[{ on := 4, ground := Go.Ground.data }, { on := 8, ground := Go.Ground.data }, { on := 2, ground := Go.Ground.guard }], guard := some (2, false) } : Go.Oper)) (v := ?_) rfl (by kernel_rfl) (by kernel_rfl) (by kernel_rfl) (fun _ _ _ h => h) (Or.inl ⟨by rfl, ?_⟩) (by assumption) ?_
          rotate_left
          ·intro w0 hSw; (try dsimp only at hSw); go_simp; (try with_reducible rfl)
          (try simp only [Act.put, List.setIfInBounds_toArray, List.set_cons_zero, List.set_cons_succ])
          refine wpAnyH_take (i := 10) (oi := ({ dst := some 100, op := Go.Op.pick (Go.Operand.tmp 92) (Go.Operand.const (Go.Value.bool true)) (Go.Operand.tmp 99), type := 4, pos := "l4_values.go:89", after := #[{ on := 2, ground := Go.Ground.data }, { on := 9, ground := Go.Ground.data }], guard := none } : Go.Oper)) (v := ?_) rfl (by kernel_rfl) (by kernel_rfl) (by kernel_rfl) (fun _ _ _ h => h) (Or.inl ⟨by rfl, ?_⟩) (by assumption) ?_
          rotate_left
          ·intro w0 hSw; (try dsimp only at hSw); go_simp; (try with_reducible rfl)
          (try simp only [Act.put, List.setIfInBounds_toArray, List.set_cons_zero, List.set_cons_succ])
          refine wpAnyH_take (i := 11) (oi := ({ dst := some 101, op := Go.Op.move (Go.Operand.tmp 100), type := 4, pos := "l4_values.go:89", after := #[{ on := 10, ground := Go.Ground.data }, { on := 8, ground := Go.Ground.chain }], guard := none } : Go.Oper)) (v := ?_) rfl (by kernel_rfl) (by kernel_rfl) (by kernel_rfl) (fun _ _ _ h => h) (Or.inl ⟨by rfl, ?_⟩) (by assumption) ?_
          rotate_left
          ·intro w0 hSw; (try dsimp only at hSw); go_simp; (try with_reducible rfl)
          (try simp only [Act.put, List.setIfInBounds_toArray, List.set_cons_zero, List.set_cons_succ])
          refine wpAnyH_take (i := 12) (oi := ({ dst := some 102, op := Go.Op.move (Go.Operand.tmp 18), type := 9, pos := "l4_values.go:89", after := #[{ on := 11, ground := Go.Ground.guard }], guard := some (11, false) } : Go.Oper)) (v := ?_) rfl (by kernel_rfl) (by kernel_rfl) (by kernel_rfl) (fun _ _ _ h => h) (Or.inl ⟨by rfl, ?_⟩) (by assumption) ?_
          rotate_left
          ·intro w0 hSw; (try dsimp only at hSw); go_simp; (try with_reducible rfl)
          (try simp only [Act.put, List.setIfInBounds_toArray, List.set_cons_zero, List.set_cons_succ])
          refine wpAnyH_take (i := 13) (oi := ({ dst := some 103, op := Go.Op.binOp Go.BinOp.eql 9 (Go.Operand.tmp 102) (Go.Operand.const (Go.Value.string { data := #[] })) 9, type := 4, pos := "l4_values.go:89", after := #[{ on := 12, ground := Go.Ground.data }, { on := 11, ground := Go.Ground.guard }], guard := some (11, false) } : Go.Oper)) (v := ?_) rfl (by kernel_rfl) (by kernel_rfl) (by kernel_rfl) (fun _ _ _ h => h) (Or.inl ⟨by rfl, ?_⟩) (by assumption) ?_
          rotate_left
          ·intro w0 hSw; (try dsimp only at hSw); go_simp; (try with_reducible rfl)
          (try simp only [Act.put, List.setIfInBounds_toArray, List.set_cons_zero, List.set_cons_succ])
          refine wpAnyH_take (i := 14) (oi := ({ dst := some 104, op := Go.Op.pick (Go.Operand.tmp 101) (Go.Operand.const (Go.Value.bool true)) (Go.Operand.tmp 103), type := 4, pos := "l4_values.go:89", after := #[{ on := 11, ground := Go.Ground.data }, { on := 13, ground := Go.Ground.data }], guard := none } : Go.Oper)) (v := ?_) rfl (by kernel_rfl) (by kernel_rfl) (by kernel_rfl) (fun _ _ _ h => h) (Or.inl ⟨by rfl, ?_⟩) (by assumption) ?_
          rotate_left
          ·intro w0 hSw; (try dsimp only at hSw); go_simp; (try with_reducible rfl)
          (try simp only [Act.put, List.setIfInBounds_toArray, List.set_cons_zero, List.set_cons_succ])
          refine wpAnyH_take (i := 15) (oi := ({ dst := some 105, op := Go.Op.move (Go.Operand.tmp 104), type := 4, pos := "l4_values.go:89", after := #[{ on := 14, ground := Go.Ground.data }, { on := 11, ground := Go.Ground.chain }], guard := none } : Go.Oper)) (v := ?_) rfl (by kernel_rfl) (by kernel_rfl) (by kernel_rfl) (fun _ _ _ h => h) (Or.inl ⟨by rfl, ?_⟩) (by assumption) ?_
          rotate_left
          ·intro w0 hSw; (try dsimp only at hSw); go_simp; (try with_reducible rfl)
          (try simp only [Act.put, List.setIfInBounds_toArray, List.set_cons_zero, List.set_cons_succ])
          refine wpAnyH_take (i := 16) (oi := ({ dst := some 106, op := Go.Op.move (Go.Operand.tmp 18), type := 9, pos := "l4_values.go:89", after := #[{ on := 15, ground := Go.Ground.guard }], guard := some (15, false) } : Go.Oper)) (v := undef) rfl (by kernel_rfl) (by kernel_rfl) (by kernel_rfl) (fun _ _ _ h => h) (Or.inr ⟨by rfl, rfl⟩) (by assumption) ?_
          (try simp only [Act.put, List.setIfInBounds_toArray, List.set_cons_zero, List.set_cons_succ])
          refine wpAnyH_take (i := 17) (oi := ({ dst := some 107, op := Go.Op.index 9 (Go.Operand.tmp 106) (Go.Operand.const (Go.Value.int Go.IntKind.i64 0)), type := 5, pos := "l4_values.go:89", after := #[{ on := 16, ground := Go.Ground.data }, { on := 15, ground := Go.Ground.guard }], guard := some (15, false) } : Go.Oper)) (v := undef) rfl (by kernel_rfl) (by kernel_rfl) (by kernel_rfl) (fun _ _ _ h => h) (Or.inr ⟨by rfl, rfl⟩) (by assumption) ?_
          (try simp only [Act.put, List.setIfInBounds_toArray, List.set_cons_zero, List.set_cons_succ])
          refine wpAnyH_take (i := 18) (oi := ({ dst := some 108, op := Go.Op.binOp Go.BinOp.neq 5 (Go.Operand.tmp 107) (Go.Operand.const (Go.Value.int Go.IntKind.u8 44)) 5, type := 4, pos := "l4_values.go:89", after := #[{ on := 17, ground := Go.Ground.data }, { on := 15, ground := Go.Ground.guard }], guard := some (15, false) } : Go.Oper)) (v := undef) rfl (by kernel_rfl) (by kernel_rfl) (by kernel_rfl) (fun _ _ _ h => h) (Or.inr ⟨by rfl, rfl⟩) (by assumption) ?_
          (try simp only [Act.put, List.setIfInBounds_toArray, List.set_cons_zero, List.set_cons_succ])
          refine wpAnyH_take (i := 19) (oi := ({ dst := some 109, op := Go.Op.move (Go.Operand.tmp 108), type := 4, pos := "l4_values.go:89", after := #[{ on := 18, ground := Go.Ground.data }, { on := 15, ground := Go.Ground.chain }, { on := 15, ground := Go.Ground.guard }], guard := some (15, false) } : Go.Oper)) (v := undef) rfl (by kernel_rfl) (by kernel_rfl) (by kernel_rfl) (fun _ _ _ h => h) (Or.inr ⟨by rfl, rfl⟩) (by assumption) ?_
          (try simp only [Act.put, List.setIfInBounds_toArray, List.set_cons_zero, List.set_cons_succ])
          refine wpAnyH_take (i := 20) (oi := ({ dst := some 110, op := Go.Op.move (Go.Operand.tmp 18), type := 9, pos := "l4_values.go:89", after := #[{ on := 19, ground := Go.Ground.guard }], guard := some (19, true) } : Go.Oper)) (v := undef) rfl (by kernel_rfl) (by kernel_rfl) (by kernel_rfl) (fun _ _ _ h => h) (Or.inr ⟨by rfl, rfl⟩) (by assumption) ?_
          (try simp only [Act.put, List.setIfInBounds_toArray, List.set_cons_zero, List.set_cons_succ])
          refine wpAnyH_take (i := 21) (oi := ({ dst := some 111, op := Go.Op.index 9 (Go.Operand.tmp 110) (Go.Operand.const (Go.Value.int Go.IntKind.i64 0)), type := 5, pos := "l4_values.go:89", after := #[{ on := 20, ground := Go.Ground.data }, { on := 19, ground := Go.Ground.guard }], guard := some (19, true) } : Go.Oper)) (v := undef) rfl (by kernel_rfl) (by kernel_rfl) (by kernel_rfl) (fun _ _ _ h => h) (Or.inr ⟨by rfl, rfl⟩) (by assumption) ?_
          (try simp only [Act.put, List.setIfInBounds_toArray, List.set_cons_zero, List.set_cons_succ])
          refine wpAnyH_take (i := 22) (oi := ({ dst := some 112, op := Go.Op.binOp Go.BinOp.neq 5 (Go.Operand.tmp 111) (Go.Operand.const (Go.Value.int Go.IntKind.u8 125)) 5, type := 4, pos := "l4_values.go:89", after := #[{ on := 21, ground := Go.Ground.data }, { on := 19, ground := Go.Ground.guard }], guard := some (19, true) } : Go.Oper)) (v := undef) rfl (by kernel_rfl) (by kernel_rfl) (by kernel_rfl) (fun _ _ _ h => h) (Or.inr ⟨by rfl, rfl⟩) (by assumption) ?_
          (try simp only [Act.put, List.setIfInBounds_toArray, List.set_cons_zero, List.set_cons_succ])
          refine wpAnyH_take (i := 23) (oi := ({ dst := some 113, op := Go.Op.pick (Go.Operand.tmp 109) (Go.Operand.tmp 112) (Go.Operand.const (Go.Value.bool false)), type := 4, pos := "l4_values.go:89", after := #[{ on := 19, ground := Go.Ground.data }, { on := 22, ground := Go.Ground.data }, { on := 15, ground := Go.Ground.guard }], guard := some (15, false) } : Go.Oper)) (v := undef) rfl (by kernel_rfl) (by kernel_rfl) (by kernel_rfl) (fun _ _ _ h => h) (Or.inr ⟨by rfl, rfl⟩) (by assumption) ?_
          (try simp only [Act.put, List.setIfInBounds_toArray, List.set_cons_zero, List.set_cons_succ])
          refine wpAnyH_take (i := 24) (oi := ({ dst := some 114, op := Go.Op.pick (Go.Operand.tmp 105) (Go.Operand.const (Go.Value.bool true)) (Go.Operand.tmp 113), type := 4, pos := "l4_values.go:89", after := #[{ on := 15, ground := Go.Ground.data }, { on := 23, ground := Go.Ground.data }], guard := none } : Go.Oper)) (v := ?_) rfl (by kernel_rfl) (by kernel_rfl) (by kernel_rfl) (fun _ _ _ h => h) (Or.inl ⟨by rfl, ?_⟩) (by assumption) ?_
          rotate_left
          ·intro w0 hSw; (try dsimp only at hSw); go_simp; (try with_reducible rfl)
          (try simp only [Act.put, List.setIfInBounds_toArray, List.set_cons_zero, List.set_cons_succ])
          refine wpAnyH_done (by kernel_rfl) ?_ _
          go_split_ands
          go_wp2_with fail
          go_meet
          exact ⟨rfl, by first | assumption | exact below_trans (by assumption) (by assumption)⟩
         have c1 : (at_ r2 0 != 44) = true → ¬ at_ r2 0 = 44 := by intro h; simpa using h
         have c2 : (at_ r2 0 != 44) = true → (at_ r2 0 == 44) = false := by intro h; simpa using h
         have c3 : (at_ r2 0 != 125) = true → ¬ at_ r2 0 = 125 := by intro h; simpa using h
         have c4 : (at_ r2 0 != 125) = true → (at_ r2 0 == 125) = false := by intro h; simpa using h
         have c5 : (at_ r2 0 != 44) = false → at_ r2 0 = 44 := by intro h; simpa using h
         have c6 : (at_ r2 0 != 125) = false → at_ r2 0 = 125 := by intro h; simpa using h
         rcases hways with ⟨q3, q4, rfl⟩ | ⟨q3, rfl⟩ | ⟨q3, q4, rfl⟩
         ·have d1 := c1 q3; have d2 := c2 q3; have d3 := c3 q4; have d4 := c4 q4
          clear c1 c2 c3 c4 c5 c6
          go_region_held3 (fun w' => w'.cell? ⟨g8, 0, none⟩ = some (.int .i64 f.tag) ∧ w'.cell? ⟨g8, 1, none⟩ = some (.string (S f.name)) ∧ w'.cell? ⟨g8, 2, none⟩ = some (.string (S f.kind)) ∧ w'.cell? ⟨g8, 3, none⟩ = some (.string (S f.stand)) ∧ w'.cell? ⟨w.heap.size, 0, none⟩ = some v ∧ Below wc.heap.size wc w')
           (first | (exact ⟨kf0, kf1, kf2, kf3, kr0, below_drew (Below.refl _ _)⟩) | (go_split_ands; refine ⟨?_, ?_, ?_, ?_, ?_, ?_⟩; (exact cell_later hb1 (by assumption)); (exact cell_later hb1 (by assumption)); (exact cell_later hb1 (by assumption)); (exact cell_later hb1 (by assumption)); (exact cell_later hb1 (by assumption)); (exact below_trans (by assumption) hb1)))
           (first | (go_at_call 54; go_split_ands; (with_reducible refine (HCo.out _ (by assumption)).mono ?_); rintro e w' ⟨rfl, hb1⟩) | (go_at_call 38; go_split_ands; (with_reducible refine (HCs.out _ (by assumption)).mono ?_); rintro e w' ⟨rfl, hb1⟩))
          all_goals
           go_split_ands
           go_wp2_with fail
           go_meet
           exact ⟨rfl, by first | assumption | exact below_trans (by assumption) (by assumption)⟩
         ·have d1 := c5 q3
          have d2 : (at_ r2 0 == 44) = true := by simp [d1]
          clear c1 c2 c3 c4 c5 c6
          refine wp_region_held_drew (S := (fun w' => w'.cell? ⟨g8, 0, none⟩ = some (.int .i64 f.tag) ∧ w'.cell? ⟨g8, 1, none⟩ = some (.string (S f.name)) ∧ w'.cell? ⟨g8, 2, none⟩ = some (.string (S f.kind)) ∧ w'.cell? ⟨g8, 3, none⟩ = some (.string (S f.stand)) ∧ w'.cell? ⟨w.heap.size, 0, none⟩ = some v ∧ Below wc.heap.size wc w')) (by kernel_rfl) (⟨kf0, kf1, kf2, kf3, kr0, below_drew (Below.refl _ _)⟩) (fun hHeld => ?_)
          refine wpAnyH_take (i := 0) (oi := ({ dst := some 90, op := Go.Op.move (Go.Operand.tmp 19), type := 4, pos := "l4_values.go:89", after := #[], guard := none } : Go.Oper)) (v := ?_) rfl (by kernel_rfl) (by kernel_rfl) (by kernel_rfl) (fun _ _ _ h => h) (Or.inl ⟨by rfl, ?_⟩) (by assumption) ?_
          rotate_left
          ·intro w0 hSw; (try dsimp only at hSw); go_simp; (try with_reducible rfl)
          (try simp only [Act.put, List.setIfInBounds_toArray, List.set_cons_zero, List.set_cons_succ])
          refine wpAnyH_take (i := 1) (oi := ({ dst := some 91, op := Go.Op.unOp Go.UnOp.not 4 (Go.Operand.tmp 90), type := 4, pos := "l4_values.go:89", after := #[{ on := 0, ground := Go.Ground.data }], guard := none } : Go.Oper)) (v := ?_) rfl (by kernel_rfl) (by kernel_rfl) (by kernel_rfl) (fun _ _ _ h => h) (Or.inl ⟨by rfl, ?_⟩) (by assumption) ?_
          rotate_left
          ·intro w0 hSw; (try dsimp only at hSw); go_simp; (try with_reducible rfl)
          (try simp only [Act.put, List.setIfInBounds_toArray, List.set_cons_zero, List.set_cons_succ])
          refine wpAnyH_take (i := 2) (oi := ({ dst := some 92, op := Go.Op.move (Go.Operand.tmp 91), type := 4, pos := "l4_values.go:89", after := #[{ on := 1, ground := Go.Ground.data }], guard := none } : Go.Oper)) (v := ?_) rfl (by kernel_rfl) (by kernel_rfl) (by kernel_rfl) (fun _ _ _ h => h) (Or.inl ⟨by rfl, ?_⟩) (by assumption) ?_
          rotate_left
          ·intro w0 hSw; (try dsimp only at hSw); go_simp; (try with_reducible rfl)
          (try simp only [Act.put, List.setIfInBounds_toArray, List.set_cons_zero, List.set_cons_succ])
          refine wpAnyH_take (i := 3) (oi := ({ dst := some 93, op := Go.Op.move (Go.Operand.tmp 17), type := 80, pos := "l4_values.go:89", after := #[{ on := 2, ground := Go.Ground.guard }], guard := some (2, false) } : Go.Oper)) (v := ?_) rfl (by kernel_rfl) (by kernel_rfl) (by kernel_rfl) (fun _ _ _ h => h) (Or.inl ⟨by rfl, ?_⟩) (by assumption) ?_
          rotate_left
          ·intro w0 hSw; (try dsimp only at hSw); go_simp; (try with_reducible rfl)
          (try simp only [Act.put, List.setIfInBounds_toArray, List.set_cons_zero, List.set_cons_succ])
          refine wpAnyH_take (i := 5) (oi := ({ dst := some 95, op := Go.Op.fieldAddr 99 (Go.Operand.tmp 5) 0, type := 0, pos := "l4_values.go:89", after := #[{ on := 2, ground := Go.Ground.guard }], guard := some (2, false) } : Go.Oper)) (v := ?_) rfl (by kernel_rfl) (by kernel_rfl) (by kernel_rfl) (fun _ _ _ h => h) (Or.inl ⟨by rfl, ?_⟩) (by assumption) ?_
          rotate_left
          ·intro w0 hSw; (try dsimp only at hSw); go_simp; (try with_reducible rfl)
          (try simp only [Act.put, List.setIfInBounds_toArray, List.set_cons_zero, List.set_cons_succ])
          refine wpAnyH_take (i := 6) (oi := ({ dst := some 96, op := Go.Op.load 58 (Go.Operand.tmp 95), type := 58, pos := "l4_values.go:89", after := #[{ on := 5, ground := Go.Ground.data }, { on := 2, ground := Go.Ground.guard }], guard := some (2, false) } : Go.Oper)) (v := ?_) rfl (by kernel_rfl) (by kernel_rfl) (by kernel_rfl) (fun _ _ _ h => h) (Or.inl ⟨by rfl, ?_⟩) (by assumption) ?_
          rotate_left
          ·intro w0 hSw; (try dsimp only at hSw); go_simp; (try with_reducible rfl)
          (try simp only [Act.put, List.setIfInBounds_toArray, List.set_cons_zero, List.set_cons_succ])
          refine wpAnyH_take (i := 7) (oi := ({ dst := some 97, op := Go.Op.load 65 (Go.Operand.tmp 14), type := 65, pos := "l4_values.go:89", after := #[{ on := 2, ground := Go.Ground.guard }], guard := some (2, false) } : Go.Oper)) (v := ?_) rfl (by kernel_rfl) (by kernel_rfl) (by kernel_rfl) (fun _ _ _ h => h) (Or.inl ⟨by rfl, ?_⟩) (by assumption) ?_
          rotate_left
          ·intro w0 hSw; (try dsimp only at hSw); go_simp; (try with_reducible rfl)
          (try simp only [Act.put, List.setIfInBounds_toArray, List.set_cons_zero, List.set_cons_succ])
          refine wpAnyH_ready (rs := [4]) (by kernel_rfl) (by simp) ?_
          refine AllReadyH.cons (o := ({ dst := some 94, op := Go.Op.call { callee := Go.Callee.value (Go.Operand.func 54), args := #[Go.Operand.tmp 93], argTypes := #[80] }, type := 9, pos := "l4_values.go:89", after := #[{ on := 3, ground := Go.Ground.data }, { on := 2, ground := Go.Ground.chain }, { on := 2, ground := Go.Ground.guard }], guard := some (2, false) } : Go.Oper)) rfl (fun K hK => ?_) AllReadyH.nil
          go_simp
          (go_at_call 54; go_split_ands; (with_reducible refine (HCo.out _ (by assumption)).mono ?_); rintro e w' ⟨rfl, hb1⟩; go_wp2_with fail)
          refine hK.out _ _ ?_ (fun hHeld => ?_)
          ·(try dsimp only); (go_split_ands; refine ⟨?_, ?_, ?_, ?_, ?_, ?_⟩; (exact cell_later hb1 (by assumption)); (exact cell_later hb1 (by assumption)); (exact cell_later hb1 (by assumption)); (exact cell_later hb1 (by assumption)); (exact cell_later hb1 (by assumption)); (exact below_trans (by assumption) hb1))
          clear hK K
          (try simp only [Act.put, List.setIfInBounds_toArray, List.set_cons_zero, List.set_cons_succ])
          refine wpAnyH_ready (rs := [8]) (by kernel_rfl) (by simp) ?_
          refine AllReadyH.cons (o := ({ dst := some 98, op := Go.Op.call { callee := Go.Callee.value (Go.Operand.func 38), args := #[Go.Operand.tmp 96, Go.Operand.tmp 97], argTypes := #[58, 65] }, type := 9, pos := "l4_values.go:89", after := #[{ on := 6, ground := Go.Ground.data }, { on := 7, ground := Go.Ground.data }, { on := 4, ground := Go.Ground.chain }, { on := 2, ground := Go.Ground.guard }], guard := some (2, false) } : Go.Oper)) rfl (fun K hK => ?_) AllReadyH.nil
          go_simp
          (go_at_call 38; go_split_ands; (with_reducible refine (HCs.out _ (by assumption)).mono ?_); rintro e w' ⟨rfl, hb1⟩; go_wp2_with fail)
          refine hK.out _ _ ?_ (fun hHeld => ?_)
          ·(try dsimp only); (go_split_ands; refine ⟨?_, ?_, ?_, ?_, ?_, ?_⟩; (exact cell_later hb1 (by assumption)); (exact cell_later hb1 (by assumption)); (exact cell_later hb1 (by assumption)); (exact cell_later hb1 (by assumption)); (exact cell_later hb1 (by assumption)); (exact below_trans (by assumption) hb1))
          clear hK K
          (try simp only [Act.put, List.setIfInBounds_toArray, List.set_cons_zero, List.set_cons_succ])
          refine wpAnyH_take (i := 9) (oi := ({ dst := some 99, op := Go.Op.binOp Go.BinOp.eql 9 (Go.Operand.tmp 94) (Go.Operand.tmp 98) 9, type := 4, pos := "l4_values.go:89", after := #[{ on := 4, ground := Go.Ground.data }, { on := 8, ground := Go.Ground.data }, { on := 2, ground := Go.Ground.guard }], guard := some (2, false) } : Go.Oper)) (v := ?_) rfl (by kernel_rfl) (by kernel_rfl) (by kernel_rfl) (fun _ _ _ h => h) (Or.inl ⟨by rfl, ?_⟩) (by assumption) ?_
          rotate_left
          ·intro w0 hSw; (try dsimp only at hSw); go_simp; (try with_reducible rfl)
          (try simp only [Act.put, List.setIfInBounds_toArray, List.set_cons_zero, List.set_cons_succ])
          refine wpAnyH_take (i := 10) (oi := ({ dst := some 100, op := Go.Op.pick (Go.Operand.tmp 92) (Go.Operand.const (Go.Value.bool true)) (Go.Operand.tmp 99), type := 4, pos := "l4_values.go:89", after := #[{ on := 2, ground := Go.Ground.data }, { on := 9, ground := Go.Ground.data }], guard := none } : Go.Oper)) (v := ?_) rfl (by kernel_rfl) (by kernel_rfl) (by kernel_rfl) (fun _ _ _ h => h) (Or.inl ⟨by rfl, ?_⟩) (by assumption) ?_
          rotate_left
          ·intro w0 hSw; (try dsimp only at hSw); go_simp; (try with_reducible rfl)
          (try simp only [Act.put, List.setIfInBounds_toArray, List.set_cons_zero, List.set_cons_succ])
          refine wpAnyH_take (i := 11) (oi := ({ dst := some 101, op := Go.Op.move (Go.Operand.tmp 100), type := 4, pos := "l4_values.go:89", after := #[{ on := 10, ground := Go.Ground.data }, { on := 8, ground := Go.Ground.chain }], guard := none } : Go.Oper)) (v := ?_) rfl (by kernel_rfl) (by kernel_rfl) (by kernel_rfl) (fun _ _ _ h => h) (Or.inl ⟨by rfl, ?_⟩) (by assumption) ?_
          rotate_left
          ·intro w0 hSw; (try dsimp only at hSw); go_simp; (try with_reducible rfl)
          (try simp only [Act.put, List.setIfInBounds_toArray, List.set_cons_zero, List.set_cons_succ])
          refine wpAnyH_take (i := 12) (oi := ({ dst := some 102, op := Go.Op.move (Go.Operand.tmp 18), type := 9, pos := "l4_values.go:89", after := #[{ on := 11, ground := Go.Ground.guard }], guard := some (11, false) } : Go.Oper)) (v := ?_) rfl (by kernel_rfl) (by kernel_rfl) (by kernel_rfl) (fun _ _ _ h => h) (Or.inl ⟨by rfl, ?_⟩) (by assumption) ?_
          rotate_left
          ·intro w0 hSw; (try dsimp only at hSw); go_simp; (try with_reducible rfl)
          (try simp only [Act.put, List.setIfInBounds_toArray, List.set_cons_zero, List.set_cons_succ])
          refine wpAnyH_take (i := 13) (oi := ({ dst := some 103, op := Go.Op.binOp Go.BinOp.eql 9 (Go.Operand.tmp 102) (Go.Operand.const (Go.Value.string { data := #[] })) 9, type := 4, pos := "l4_values.go:89", after := #[{ on := 12, ground := Go.Ground.data }, { on := 11, ground := Go.Ground.guard }], guard := some (11, false) } : Go.Oper)) (v := ?_) rfl (by kernel_rfl) (by kernel_rfl) (by kernel_rfl) (fun _ _ _ h => h) (Or.inl ⟨by rfl, ?_⟩) (by assumption) ?_
          rotate_left
          ·intro w0 hSw; (try dsimp only at hSw); go_simp; (try with_reducible rfl)
          (try simp only [Act.put, List.setIfInBounds_toArray, List.set_cons_zero, List.set_cons_succ])
          refine wpAnyH_take (i := 14) (oi := ({ dst := some 104, op := Go.Op.pick (Go.Operand.tmp 101) (Go.Operand.const (Go.Value.bool true)) (Go.Operand.tmp 103), type := 4, pos := "l4_values.go:89", after := #[{ on := 11, ground := Go.Ground.data }, { on := 13, ground := Go.Ground.data }], guard := none } : Go.Oper)) (v := ?_) rfl (by kernel_rfl) (by kernel_rfl) (by kernel_rfl) (fun _ _ _ h => h) (Or.inl ⟨by rfl, ?_⟩) (by assumption) ?_
          rotate_left
          ·intro w0 hSw; (try dsimp only at hSw); go_simp; (try with_reducible rfl)
          (try simp only [Act.put, List.setIfInBounds_toArray, List.set_cons_zero, List.set_cons_succ])
          refine wpAnyH_take (i := 15) (oi := ({ dst := some 105, op := Go.Op.move (Go.Operand.tmp 104), type := 4, pos := "l4_values.go:89", after := #[{ on := 14, ground := Go.Ground.data }, { on := 11, ground := Go.Ground.chain }], guard := none } : Go.Oper)) (v := ?_) rfl (by kernel_rfl) (by kernel_rfl) (by kernel_rfl) (fun _ _ _ h => h) (Or.inl ⟨by rfl, ?_⟩) (by assumption) ?_
          rotate_left
          ·intro w0 hSw; (try dsimp only at hSw); go_simp; (try with_reducible rfl)
          (try simp only [Act.put, List.setIfInBounds_toArray, List.set_cons_zero, List.set_cons_succ])
          refine wpAnyH_take (i := 16) (oi := ({ dst := some 106, op := Go.Op.move (Go.Operand.tmp 18), type := 9, pos := "l4_values.go:89", after := #[{ on := 15, ground := Go.Ground.guard }], guard := some (15, false) } : Go.Oper)) (v := ?_) rfl (by kernel_rfl) (by kernel_rfl) (by kernel_rfl) (fun _ _ _ h => h) (Or.inl ⟨by rfl, ?_⟩) (by assumption) ?_
          rotate_left
          ·intro w0 hSw; (try dsimp only at hSw); go_simp; (try with_reducible rfl)
          (try simp only [Act.put, List.setIfInBounds_toArray, List.set_cons_zero, List.set_cons_succ])
          refine wpAnyH_take (i := 17) (oi := ({ dst := some 107, op := Go.Op.index 9 (Go.Operand.tmp 106) (Go.Operand.const (Go.Value.int Go.IntKind.i64 0)), type := 5, pos := "l4_values.go:89", after := #[{ on := 16, ground := Go.Ground.data }, { on := 15, ground := Go.Ground.guard }], guard := some (15, false) } : Go.Oper)) (v := ?_) rfl (by kernel_rfl) (by kernel_rfl) (by kernel_rfl) (fun _ _ _ h => h) (Or.inl ⟨by rfl, ?_⟩) (by assumption) ?_
          rotate_left
          ·intro w0 hSw; (try dsimp only at hSw); go_simp; (try with_reducible rfl)
          (try simp only [Act.put, List.setIfInBounds_toArray, List.set_cons_zero, List.set_cons_succ])
          refine wpAnyH_take (i := 18) (oi := ({ dst := some 108, op := Go.Op.binOp Go.BinOp.neq 5 (Go.Operand.tmp 107) (Go.Operand.const (Go.Value.int Go.IntKind.u8 44)) 5, type := 4, pos := "l4_values.go:89", after := #[{ on := 17, ground := Go.Ground.data }, { on := 15, ground := Go.Ground.guard }], guard := some (15, false) } : Go.Oper)) (v := ?_) rfl (by kernel_rfl) (by kernel_rfl) (by kernel_rfl) (fun _ _ _ h => h) (Or.inl ⟨by rfl, ?_⟩) (by assumption) ?_
          rotate_left
          ·intro w0 hSw; (try dsimp only at hSw); go_simp; (try with_reducible rfl)
          (try simp only [Act.put, List.setIfInBounds_toArray, List.set_cons_zero, List.set_cons_succ])
          refine wpAnyH_take (i := 19) (oi := ({ dst := some 109, op := Go.Op.move (Go.Operand.tmp 108), type := 4, pos := "l4_values.go:89", after := #[{ on := 18, ground := Go.Ground.data }, { on := 15, ground := Go.Ground.chain }, { on := 15, ground := Go.Ground.guard }], guard := some (15, false) } : Go.Oper)) (v := ?_) rfl (by kernel_rfl) (by kernel_rfl) (by kernel_rfl) (fun _ _ _ h => h) (Or.inl ⟨by rfl, ?_⟩) (by assumption) ?_
          rotate_left
          ·intro w0 hSw; (try dsimp only at hSw); go_simp; (try with_reducible rfl)
          (try simp only [Act.put, List.setIfInBounds_toArray, List.set_cons_zero, List.set_cons_succ])
          refine wpAnyH_take (i := 20) (oi := ({ dst := some 110, op := Go.Op.move (Go.Operand.tmp 18), type := 9, pos := "l4_values.go:89", after := #[{ on := 19, ground := Go.Ground.guard }], guard := some (19, true) } : Go.Oper)) (v := undef) rfl (by kernel_rfl) (by kernel_rfl) (by kernel_rfl) (fun _ _ _ h => h) (Or.inr ⟨by rfl, rfl⟩) (by assumption) ?_
          (try simp only [Act.put, List.setIfInBounds_toArray, List.set_cons_zero, List.set_cons_succ])
          refine wpAnyH_take (i := 21) (oi := ({ dst := some 111, op := Go.Op.index 9 (Go.Operand.tmp 110) (Go.Operand.const (Go.Value.int Go.IntKind.i64 0)), type := 5, pos := "l4_values.go:89", after := #[{ on := 20, ground := Go.Ground.data }, { on := 19, ground := Go.Ground.guard }], guard := some (19, true) } : Go.Oper)) (v := undef) rfl (by kernel_rfl) (by kernel_rfl) (by kernel_rfl) (fun _ _ _ h => h) (Or.inr ⟨by rfl, rfl⟩) (by assumption) ?_
          (try simp only [Act.put, List.setIfInBounds_toArray, List.set_cons_zero, List.set_cons_succ])
          refine wpAnyH_take (i := 22) (oi := ({ dst := some 112, op := Go.Op.binOp Go.BinOp.neq 5 (Go.Operand.tmp 111) (Go.Operand.const (Go.Value.int Go.IntKind.u8 125)) 5, type := 4, pos := "l4_values.go:89", after := #[{ on := 21, ground := Go.Ground.data }, { on := 19, ground := Go.Ground.guard }], guard := some (19, true) } : Go.Oper)) (v := undef) rfl (by kernel_rfl) (by kernel_rfl) (by kernel_rfl) (fun _ _ _ h => h) (Or.inr ⟨by rfl, rfl⟩) (by assumption) ?_
          (try simp only [Act.put, List.setIfInBounds_toArray, List.set_cons_zero, List.set_cons_succ])
          refine wpAnyH_take (i := 23) (oi := ({ dst := some 113, op := Go.Op.pick (Go.Operand.tmp 109) (Go.Operand.tmp 112) (Go.Operand.const (Go.Value.bool false)), type := 4, pos := "l4_values.go:89", after := #[{ on := 19, ground := Go.Ground.data }, { on := 22, ground := Go.Ground.data }, { on := 15, ground := Go.Ground.guard }], guard := some (15, false) } : Go.Oper)) (v := ?_) rfl (by kernel_rfl) (by kernel_rfl) (by kernel_rfl) (fun _ _ _ h => h) (Or.inl ⟨by rfl, ?_⟩) (by assumption) ?_
          rotate_left
          ·intro w0 hSw; (try dsimp only at hSw); go_simp; (try with_reducible rfl)
          (try simp only [Act.put, List.setIfInBounds_toArray, List.set_cons_zero, List.set_cons_succ])
          refine wpAnyH_take (i := 24) (oi := ({ dst := some 114, op := Go.Op.pick (Go.Operand.tmp 105) (Go.Operand.const (Go.Value.bool true)) (Go.Operand.tmp 113), type := 4, pos := "l4_values.go:89", after := #[{ on := 15, ground := Go.Ground.data }, { on := 23, ground := Go.Ground.data }], guard := none } : Go.Oper)) (v := ?_) rfl (by kernel_rfl) (by kernel_rfl) (by kernel_rfl) (fun _ _ _ h => h) (Or.inl ⟨by rfl, ?_⟩) (by assumption) ?_
          rotate_left
          ·intro w0 hSw; (try dsimp only at hSw); go_simp; (try with_reducible rfl)
          (try simp only [Act.put, List.setIfInBounds_toArray, List.set_cons_zero, List.set_cons_succ])
          refine wpAnyH_done (by kernel_rfl) ?_ _
          go_split_ands
          go_wp2_with fail
          go_meet
          exact ⟨rfl, by first | assumption | exact below_trans (by assumption) (by assumption)⟩
         ·have d1 := c1 q3; have d2 := c2 q3; have d3 := c6 q4
          have d4 : (at_ r2 0 == 125) = true := by simp [d3]
          clear c1 c2 c3 c4 c5 c6
          go_region_held3 (fun w' => w'.cell? ⟨g8, 0, none⟩ = some (.int .i64 f.tag) ∧ w'.cell? ⟨g8, 1, none⟩ = some (.string (S f.name)) ∧ w'.cell? ⟨g8, 2, none⟩ = some (.string (S f.kind)) ∧ w'.cell? ⟨g8, 3, none⟩ = some (.string (S f.stand)) ∧ w'.cell? ⟨w.heap.size, 0, none⟩ = some v ∧ Below wc.heap.size wc w')
           (first | (exact ⟨kf0, kf1, kf2, kf3, kr0, below_drew (Below.refl _ _)⟩) | (go_split_ands; refine ⟨?_, ?_, ?_, ?_, ?_, ?_⟩; (exact cell_later hb1 (by assumption)); (exact cell_later hb1 (by assumption)); (exact cell_later hb1 (by assumption)); (exact cell_later hb1 (by assumption)); (exact cell_later hb1 (by assumption)); (exact below_trans (by assumption) hb1)))
           (first | (go_at_call 54; go_split_ands; (with_reducible refine (HCo.out _ (by assumption)).mono ?_); rintro e w' ⟨rfl, hb1⟩) | (go_at_call 38; go_split_ands; (with_reducible refine (HCs.out _ (by assumption)).mono ?_); rintro e w' ⟨rfl, hb1⟩))
          all_goals
           go_split_ands
           go_wp2_with fail
           go_meet
           exact ⟨rfl, by first | assumption | exact below_trans (by assumption) (by assumption)⟩
        case rest =>
         obtain ⟨rfl, hb4⟩ := hcut
         have hbw4 : Below w.heap.size w wc := below_trans hbw3 hb4
         have KF4 := Lib.hid (KF3.out.keep hb4)
         have KR4 := Lib.hid (KR3.out.keep hb4)
         have KT4 := Lib.hid (KT3.out.keep hb4)
         have PP4 := Lib.hid (PP3.out.belowed hb4)
         have HX4 := Lib.hid (HX.out.belowed hb4)
         have hz4 : w.heap.size + 3 ≤ wc.heap.size := by have := hb4.size; omega
         have hg84 : g8 < wc.heap.size := KF4.out.lt
         clear kf0 kf1 kf2 kf3 kr0 KF3 KR3 KT3 PP3 HX hbw3 hb4 HCo HCs hg83 heq
         cases b2 with
         | true =>
          have HN := Lib.hid (show recordR rd X t k s = none by
           rw [HF.out, ← HO.out, hI.out]
           rcases HBT.out rfl with e | ⟨e1, e2⟩
           ·rw [fields_stand HOT.out HCC.out HO2.out (HEQ.out.1 e)]; rfl
           ·by_cases hee : outV x = standM X f
            ·rw [fields_stand HOT.out HCC.out HO2.out hee]; rfl
            ·rw [fields_bad HOT.out HCC.out HO2.out e1 e2]; rfl)
          clear HOT HF HO hI HO2 HCC HBT HBF HEQ
          go_wp2_with fail
          go_ret3
          exact RetV.no HN.out hbw4
         | false =>
          obtain ⟨heF, hr30, hc⟩ := HBF.out rfl
          have HNE := Lib.hid (show outV x ≠ standM X f from fun e => by rw [HEQ.out.2 e] at heF; cases heF)
          have hgl : gs.length ≤ 1500001 := by omega
          clear HBT HBF HEQ heF
          obtain ⟨hq, p2, -, -, -, -, -⟩ := PP4.out.cells
          have kf0 := KF4.out.cell 0
          simp at kf0
          go_upto_region 10 with fail
          go_cut [123] (fun z wx => ∃ g cap, PP wx (w.heap.size + 3) (w.heap.size + 2) k [82] (gs ++ [f.tag]) l ps (some ⟨g, 0, none⟩) cap a2 c2 ∧ VAt wx (Fr (w.heap.size + 3) (.slice (some ⟨g, 0, none⟩) (gs ++ [f.tag]).length cap) (.slice a2 l.length c2)) x p ∧ Blk wx w.heap.size 99 #[v] ∧ Blk wx (w.heap.size + 1) 61 #[.int .u8 t.sort, .string (S t.name), .slice a t.fields.length c] ∧ Below w.heap.size w wx)
          case first =>
           have HPf := Lib.hid (fun W (hbw : Below wc.heap.size wc W) => PP4.out.belowed hbw)
           have HXf := Lib.hid (fun W (hbw : Below wc.heap.size wc W) => HX4.out.belowed hbw)
           have HKf := Lib.hid (fun W (hbw : Below wc.heap.size wc W) => And.intro (KR4.out.keep hbw) (And.intro (KT4.out.keep hbw) (below_trans hbw4 hbw)))
           clear HF HO HLEN HT hI HO2 HTV HOUT HTG HFL HKO HST HOT HCC hko hfm hgn hTv HB3 HNE KF4 KR4 KT4 PP4 HX4 hbw4
           go_region_law (refine step_app_tg rfl (.tmp 120) (.tmp 123) rfl (fun b => w.heap.size + 3 ≤ b) _ gs (by simp [Act.eval, Act.put]) (HPf.out _ (by repeat (with_reducible first | exact Below.refl _ _ | apply below_drew | apply below_alloc))).tgs wc.heap.size f.tag (by simp [Act.eval, Act.put]) (by simp [go_sem]) (by omega) (wc.heap.size + 1) (by simp) ?_; intro g cap w' hk' hg' hgg hlt'; obtain ⟨kq, fq, lq⟩ := PP.after_tag (HPf.out _ (by repeat (with_reducible first | exact Below.refl _ _ | apply below_drew | apply below_alloc))) hg')
           all_goals
            go_wp2_with fail
            go_meet
            obtain ⟨z1, z2⟩ := PP.tag' (HPf.out _ (by repeat (with_reducible first | exact Below.refl _ _ | apply below_drew | apply below_alloc))) (wc.heap.size + 1) (by simp) (HXf.out _ (by repeat (with_reducible first | exact Below.refl _ _ | apply below_drew | apply below_alloc))) hk' hg' hgg (by omega)
            exact ⟨g, cap, z1, z2, ((HPf.out _ (by repeat (with_reducible first | exact Below.refl _ _ | apply below_drew | apply below_alloc))).beside_tag hg' (HKf.out _ (by repeat (with_reducible first | exact Below.refl _ _ | apply below_drew | apply below_alloc))).1 (by omega)).far (by first | (simp; done) | (simp; omega)) _, ((HPf.out _ (by repeat (with_reducible first | exact Below.refl _ _ | apply below_drew | apply below_alloc))).beside_tag hg' (HKf.out _ (by repeat (with_reducible first | exact Below.refl _ _ | apply below_drew | apply below_alloc))).2.1 (by omega)).far (by first | (simp; done) | (simp; omega)) _, below_set ((HKf.out _ (by repeat (with_reducible first | exact Below.refl _ _ | apply below_drew | apply below_alloc))).2.2.trans ((HPf.out _ (by repeat (with_reducible first | exact Below.refl _ _ | apply below_drew | apply below_alloc))).below_tag hg' (by simp; omega) (by omega))) (by first | (simp; done) | (simp; omega)) _⟩
          case rest =>
           obtain ⟨g, cap, hP5, hX5, hK5, hT5, hb5⟩ := hcut
           have hps := hP5.mny.1
           have PX := Lib.hid (hP5.belowed (below_alloc (Below.refl _ _) (.cells #[vp p] 80)))
           have KX := Lib.hid (hK5.alloc (.cells #[vp p] 80))
           have TX := Lib.hid (hT5.alloc (.cells #[vp p] 80))
           have VX := Lib.hid (hX5.belowed (below_alloc (Below.refl _ _) (.cells #[vp p] 80)))
           obtain ⟨hqc, -, p3c, -, -, -, -⟩ := hP5.cells
           have hz5 : w.heap.size + 3 ≤ wc.heap.size := by omega
           have HB5 := Lib.hid hb5
           have hr31 : (1 : Int) ≤ (r2.length : Int) := by omega
           clear hP5 hX5 hK5 hT5 hb5 KF4 KR4 KT4 PP4 HX4 hbw4 p2 kf0 HB3 hTv hLL hq
           rcases hc with ⟨h125, e3⟩ | ⟨h44, e3⟩
           ·have HY := Lib.hid (show recordR rd X t k s = some (.mk k [82] (gs ++ [f.tag]) (l ++ [x]), r2.drop 1) by rw [HF.out, ← HO.out, hI.out, fields_end HOT.out HCC.out HO2.out HNE.out h125]; rfl)
            clear h125 HOT HF HO hI HO2 HCC HNE
            go_wp2_with (at_builtin; refine app_kid rfl _ _ rfl (fun b => w.heap.size + 3 ≤ b) _ ps rfl PX.out.kds wc.heap.size p rfl (by simp [go_sem]) (by omega) (wc.heap.size + 1) (by simp) ?_)
            intro g2 cap2 w' hk' hg' hgg hlt'
            have hgg2 : (Value.slice a2 l.length c2).ownBlock = some g2 ∨ g2 = (wc.alloc (.cells #[vp p] 80)).heap.size := by rw [World.size_alloc]; exact hgg
            have HNew := Lib.hid (PX.out.kid1 VX.out (hk'.imp (by intro b h1 h2; rw [World.size_alloc]; exact h2)) hg' hgg2 (by simp; omega))
            have KY := Lib.hid (PX.out.beside_kid hg' KX.out (by omega))
            have TY := Lib.hid (PX.out.beside_kid hg' TX.out (by omega))
            have KQ := Lib.hid (PX.out.blk.grown hg' (fun e => by have := PX.out.kds.2 _ e.symm; omega))
            have hbe : Below w.heap.size w w' := (below_alloc HB5.out _).trans (PX.out.below_kid hg' (by simp; omega) (by omega))
            have q3 := KQ.out.cell 3
            have f3 := KQ.out.frozen 3
            simp at q3
            have hqw : w.heap.size + 2 < w'.heap.size := KQ.out.lt
            clear hk' hg' hgg hgg2 PX KX TX VX KQ
            go_wp2_with fail
            go_ret3
            exact RetV.yes (by simpa using HY.out) (below_set hbe (by first | (simp; done) | (simp; omega)) _) (HNew.out.done (by omega))
           ·have HY := Lib.hid (show fieldsR rd X t (s.length + 1) s [] [] = fieldsR rd X t m (r2.drop 1) (gs ++ [f.tag]) (l ++ [x]) by rw [hI.out, fields_more HOT.out HCC.out HO2.out HNE.out h44])
            clear h44 HOT hI HO2 HCC HNE
            go_wp2_with (at_builtin; refine app_kid rfl _ _ rfl (fun b => w.heap.size + 3 ≤ b) _ ps rfl PX.out.kds wc.heap.size p rfl (by simp [go_sem]) (by omega) (wc.heap.size + 1) (by simp) ?_)
            intro g2 cap2 w' hk' hg' hgg hlt'
            have hgg2 : (Value.slice a2 l.length c2).ownBlock = some g2 ∨ g2 = (wc.alloc (.cells #[vp p] 80)).heap.size := by rw [World.size_alloc]; exact hgg
            have HNew := Lib.hid (PX.out.kid1 VX.out (hk'.imp (by intro b h1 h2; rw [World.size_alloc]; exact h2)) hg' hgg2 (by simp; omega))
            have KY := Lib.hid (PX.out.beside_kid hg' KX.out (by omega))
            have TY := Lib.hid (PX.out.beside_kid hg' TX.out (by omega))
            have KQ := Lib.hid (PX.out.blk.grown hg' (fun e => by have := PX.out.kds.2 _ e.symm; omega))
            have hbe : Below w.heap.size w w' := (below_alloc HB5.out _).trans (PX.out.below_kid hg' (by simp; omega) (by omega))
            have q3 := KQ.out.cell 3
            have f3 := KQ.out.frozen 3
            simp at q3
            have hqw : w.heap.size + 2 < w'.heap.size := KQ.out.lt
            clear hk' hg' hgg hgg2 PX KX TX VX KQ
            go_wp2_with fail
            go_roundg m
            case measure => omega
            case rel => exact ⟨r2.drop 1, gs ++ [f.tag], l ++ [x], ps ++ [p], some ⟨g, 0, none⟩, cap, some ⟨g2, 0, none⟩, cap2, by simp, by rw [List.length_drop]; omega, by simp; omega, by have := HLG.out; simp; omega, KY.out.far (by first | (simp; done) | (simp; omega)) _, TY.out.far (by first | (simp; done) | (simp; omega)) _, HNew.out, HY.out, below_set hbe (by first | (simp; done) | (simp; omega)) _⟩
end Go.Proofs.YtcjooeklehggaaaGreatDoor
