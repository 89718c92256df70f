/- Lemmas of this seat. -/
import Derived.Test.YtcjooeklehggaaaGreatDoorYCs
set_option linter.unusedVariables false
set_option linter.unusedSimpArgs false
set_option maxRecDepth 100000
namespace Go.Proofs.YtcjooeklehggaaaGreatDoor
open Go.ChangeShapes Go.WideShapes Go.ChangeAt Go.RowKit M
theorem items_none {rd : Bs → Option (V × Bs)} {n : Nat} {s : Bs} {acc : List V} (h : rd s = none) : itemsR rd (n + 1) s acc = none := by rw [itemsR, h]
theorem items_end {rd : Bs → Option (V × Bs)} {n : Nat} {s r : Bs} {acc : List V} {x : V} (h : rd s = some (x, r)) (h1 : at_ r 0 = 93) : itemsR rd (n + 1) s acc = some (acc ++ [x], r.drop 1) := by rw [itemsR, h]; exact if_pos h1
theorem items_more {rd : Bs → Option (V × Bs)} {n : Nat} {s r : Bs} {acc : List V} {x : V} (h : rd s = some (x, r)) (h1 : at_ r 0 = 44) : itemsR rd (n + 1) s acc = itemsR rd n (r.drop 1) (acc ++ [x]) := by
 rw [itemsR, h]; exact (if_neg (by simp only; omega)).trans (if_pos h1)
theorem items_bad {rd : Bs → Option (V × Bs)} {n : Nat} {s r : Bs} {acc : List V} {x : V} (h : rd s = some (x, r)) (h1 : at_ r 0 ≠ 93) (h2 : at_ r 0 ≠ 44) : itemsR rd (n + 1) s acc = none := by
 rw [itemsR, h]; exact (if_neg h1).trans (if_neg h2)
def IRead (v : Value) (tps : List (Ty × Value)) (B d : Nat) : Prop := ∀ (s k : Bs) (w : World), s.length ≤ 1500000 → kOk k = true → Tys w B v tps → B ≤ w.heap.size →
 Calls Tryz.prog 59 #[rv v, .string (S s), .string (S k), .int .i64 (d : Int)] w (RetV w (readF (tps.map (·.1)) d s k))
def Read (w : World) (o : Option (V × Bs)) (pv : Option Addr) (r : Bs) (wx : World) : Prop := Below w.heap.size w wx ∧ ∀ x, o = some x → r = x.2 ∧ ∃ p, pv = some ⟨p, 0, none⟩ ∧ VAt wx (fun b => w.heap.size ≤ b) x.1 p
theorem listR_on {rd : Bs → Option (V × Bs)} {k s : Bs} (h : at_ s 0 ≠ 93) {o : Option (List V × Bs)} (ho : itemsR rd 20 s [] = o) : listR rd k s = o.map fun x => (.mk k [] [] x.1, x.2) := by unfold listR; rw [if_neg h, ho]
theorem Read.of {w W w' : World} {o : Option (V × Bs)} {pv : Option Addr} {r : Bs} (hb : Below w.heap.size w W) (hb1 : Below W.heap.size W w') (hx : ∀ x, o = some x → r = x.2 ∧ ∃ p, pv = some ⟨p, 0, none⟩ ∧ VAt w' (fun b => W.heap.size ≤ b) x.1 p) : Read w o pv r w' := by
 refine ⟨below_trans hb hb1, fun x h => ?_⟩
 obtain ⟨h1, p, h2, h3⟩ := hx x h
 exact ⟨h1, p, h2, h3.imp (by intro b _ h4; have := hb.size; omega)⟩
theorem k_list_nil (v : Value) (rd : Bs → Option (V × Bs)) (s k : Bs) (d : Int) (w : World) (hs : s.length ≤ 1500000) (h93 : at_ s 0 = 93) :
  Calls Tryz.prog 84 #[rv v, .string (S s), .string (S k), .int .i64 d] w (RetV w (listR rd k s)) := by
 have HF := Lib.hid (show listR rd k s = some (.mk k [] [] [], s.drop 1) by unfold listR; rw [if_pos h93])
 have hl : 0 < s.length := by
  cases s with
  | nil => cases h93
  | cons _ _ => simp
 have hb1 : s.isEmpty = false := by cases s with | nil => simp at hl | cons _ _ => rfl
 have hb2 : (s != []) = true := by cases s with | nil => simp at hl | cons _ _ => rfl
 unfold rv
 go_enter Tryz.func84, Tryz.ntmps84
 go_wp2_with fail
 go_region
 all_goals
  go_wp2_with fail
  go_ret3
  exact RetV.yes (by simpa using HF.out) (by (repeat (first | with_reducible exact Below.refl _ _ | with_reducible apply below_drew | with_reducible apply below_draws | with_reducible apply below_alloc | with_reducible apply below_set | (with_reducible refine below_trans ?_ (by assumption)) | (with_reducible refine Below.trans ?_ (by assumption)) | exact Nat.le_refl _ | omega | (simp <;> omega)))) (VAt.freshAt _ _ (by simp) (by omega))
set_option maxHeartbeats 8000000 in
theorem k_list_on (v : Value) (tps : List (Ty × Value)) (B d : Nat) (IH : IRead v tps B d) (s k : Bs) (w : World) (hs : s.length ≤ 1500000) (hk : kOk (k.drop 1) = true) (hk0 : 0 < k.length) (hd : d ≤ 100) (hT : Tys w B v tps) (hB : B ≤ w.heap.size) (h93 : at_ s 0 ≠ 93) :
  Calls Tryz.prog 84 #[rv v, .string (S s), .string (S k), .int .i64 ((d : Int) + 1)] w (RetV w (listR (fun s => readF (tps.map (·.1)) d s (k.drop 1)) k s)) := by
 obtain ⟨rd, hrd⟩ : ∃ rd, (fun s => readF (tps.map (·.1)) d s (k.drop 1)) = rd := ⟨_, rfl⟩
 rw [hrd]
 obtain ⟨o, ho⟩ : ∃ o, itemsR rd 20 s [] = o := ⟨_, rfl⟩
 have HF := Lib.hid (listR_on (k := k) h93 ho)
 have HO := Lib.hid ho; clear ho
 have HLEN := Lib.hid (fun s x r (h : rd s = some (x, r)) => (by subst hrd; have := readF_len h; simp only at this; omega : r.length ≤ s.length))
 have HIR := Lib.hid (fun s w (h1 : s.length ≤ 1500000) (h2 : Tys w B v tps) (h3 : B ≤ w.heap.size) => (by subst hrd; exact IH s (k.drop 1) w h1 hk h2 h3 : Calls Tryz.prog 59 #[rv v, .string (S s), .string (S (k.drop 1)), .int .i64 (d : Int)] w (RetV w (rd s))))
 have HT := Lib.hid hT
 clear IH hk hrd hT
 have hd1 : IntKind.i64.wrap ((d : Int) + 1 - 1) = d := by rw [Int.add_sub_cancel]; exact IntWalk.i64_in _ (by omega)
 have hd2 : IntKind.i64.wrap (d : Int) = d := IntWalk.i64_in _ (by omega)
 have hb9 : s = [] ∨ (0 < s.length ∧ s.isEmpty = false ∧ (s != []) = true ∧ (at_ s 0 == 93) = false) := by
  cases s with
  | nil => exact .inl rfl
  | cons x r => exact .inr ⟨by simp, rfl, rfl, by simpa using h93⟩
 clear h93
 unfold rv at *
 go_enter Tryz.func84, Tryz.ntmps84
 go_upto_region 2 with fail
 go_cut [24] (fun x wx => x = .bool false ∧ wx = (w.alloc (.cells #[v] 99)).alloc (.cells #[.string (S k), .string { data := #[] }, .slice none 0 0, .slice none 0 0] 133))
 case first =>
  rcases hb9 with rfl | ⟨hb0, hb1, hb2, hb3⟩
  ·go_wp2_with fail
   go_meet
   exact ⟨rfl, rfl⟩
  ·go_wp2_with fail
   go_meet
   exact ⟨rfl, rfl⟩
 case rest =>
  obtain ⟨rfl, rfl⟩ := hcut
  clear hb9
  have KR0 := Lib.hid ((Blk.new w 99 #[v]).alloc (.cells #[.string (S k), .string { data := #[] }, .slice none 0 0, .slice none 0 0] 133))
  have PP0 := Lib.hid (PP.start (B := w.heap.size + 2) (q := w.heap.size + 1) (k := k) (t := []) ((w.alloc (.cells #[v] 99)).alloc (.cells #[.string (S k), .string { data := #[] }, .slice none 0 0, .slice none 0 0] 133)) (by omega) (by
   have := Blk.new (w.alloc (.cells #[v] 99)) 133 #[.string (S k), .string { data := #[] }, .slice none 0 0, .slice none 0 0]
   rw [World.size_alloc] at this; exact this))
  go_wp2_with fail
  go_loopg [1] 20 (fun n x wr => ∃ (s' : Bs) (l : List V) (ps : List Nat) (a' : Option Addr) (c' : Nat), x = .string (S s') ∧ s'.length ≤ 1500000 ∧ l.length + n = 20 ∧ Hid (Blk wr w.heap.size 99 #[v]) ∧ Hid (PP wr (w.heap.size + 2) (w.heap.size + 1) k [] [] l ps none 0 a' c') ∧ Hid (itemsR rd 20 s [] = itemsR rd n s' l) ∧ Hid (Below w.heap.size w wr))
  case atStart => exact ⟨s, [], [], none, 0, rfl, hs, rfl, KR0.out, PP0.out, rfl, below_alloc (below_alloc (Below.refl _ _) _) _⟩
  case round =>
   obtain ⟨s', l, ps, a', c', rfl, hs', hln, hKR, hPP, hI, hb⟩ := hrel
   obtain ⟨hq, -, p3, -, -, -, ha'⟩ := hPP.out.cells
   have kr0 := hKR.out.cell 0
   simp at kr0
   clear KR0 PP0
   by_cases hgk : 0 < gk
   ·have hl20 : l.length < 20 := by omega
    obtain ⟨m, rfl⟩ : ∃ m, gk = m + 1 := ⟨gk - 1, by omega⟩
    have HC := Lib.hid (fun W (hbw : Below wr.heap.size wr W) => HIR.out s' W hs' (HT.out.below (below_trans hb.out hbw)) (by have := hb.out.size; have := hbw.size; omega))
    obtain ⟨o2, ho2⟩ : ∃ o2, rd s' = o2 := ⟨_, rfl⟩
    rw [ho2] at HC
    have HO2 := Lib.hid ho2; clear ho2
    rw [List.drop_one] at HC
    go_upto_region 5 with fail
    go_cut [12, 13, 14] (fun x y z wx => ∃ pv r, x = .pointer pv ∧ y = .string (S r) ∧ z = .bool o2.isSome ∧ Read wr o2 pv r wx)
    case first =>
     clear HF HO HLEN HIR HT hI hKR hPP hb HO2 p3 ha' hl20 hln hgk
     go_region_with (go_at_call 59; (with_reducible refine (HC.out _ (by repeat (first | with_reducible exact Below.refl _ _ | with_reducible apply below_drew))).mono ?_); rintro e w' ⟨pv, r, rfl, hb1, hx1⟩)
     all_goals
      go_wp2_with fail
      go_meet
      exact ⟨pv, r, rfl, rfl, rfl, Read.of (by repeat (first | with_reducible exact Below.refl _ _ | with_reducible apply below_drew)) hb1 hx1⟩
    case rest =>
     obtain ⟨pv, r, rfl, rfl, rfl, hb1, hx1⟩ := hcut
     have hbx : Below w.heap.size w wc := below_trans hb.out hb1
     clear HC hd1 hd2 HIR kr0
     cases o2 with
     | none =>
      have HN := Lib.hid (show listR rd k s = none by rw [HF.out, ← HO.out, hI.out, items_none HO2.out]; rfl)
      clear hx1 HO2 HF HO hI
      go_wp2_with fail
      go_ret3
      exact RetV.no HN.out hbx
     | some x =>
      obtain ⟨x, r'⟩ := x
      obtain ⟨rfl, p, rfl, hv⟩ := hx1 _ rfl
      simp only at hv
      have hrl := HLEN.out _ _ _ HO2.out
      rcases (show r = [] ∨ (0 < r.length ∧ r.isEmpty = false ∧ (r == []) = false) by cases r with | nil => exact .inl rfl | cons _ _ => exact .inr ⟨by simp, rfl, rfl⟩) with rfl | ⟨hr0, hr1, hr2⟩
      ·have HN := Lib.hid (show listR rd k s = none by rw [HF.out, ← HO.out, hI.out, items_bad HO2.out (by decide) (by decide)]; rfl)
       clear hx1 HO2 HF HO hI hv hKR hPP
       go_wp2_with fail
       go_ret3
       exact RetV.no HN.out hbx
      by_cases h93 : at_ r 0 = 93
      ·have e1 : (at_ r 0 != 44) = true := by simp [h93]
       have e2 : (at_ r 0 != 93) = false := by simp [h93]
       have e3 : (at_ r 0 == 93) = true := by simp [h93]
       have HY := Lib.hid (show listR rd k s = some (.mk k [] [] (l ++ [x]), r.drop 1) by rw [HF.out, ← HO.out, hI.out, items_end HO2.out h93]; rfl)
       clear h93 HO2 HF HO hI
       have hps := hPP.out.mny.1
       have PX := Lib.hid ((hPP.out.belowed hb1).belowed (below_alloc (Below.refl _ _) (.cells #[vp p] 80)))
       have KX := Lib.hid (((hKR.out.keep hb1)).alloc (.cells #[vp p] 80))
       have VX := Lib.hid (hv.belowed (below_alloc (Below.refl _ _) (.cells #[vp p] 80)))
       obtain ⟨hqc, -, p3c, -, -, -, -⟩ := (hPP.out.belowed hb1).cells
       have hzx := hb1.size
       have hzw : w.heap.size + 2 ≤ wr.heap.size := by omega
       clear p3 hKR hPP hv hx1
       go_wp2_with (at_builtin; refine app_kid rfl _ _ rfl (fun b => w.heap.size + 2 ≤ b) _ ps rfl PX.out.kds wc.heap.size p rfl ?c1 (by omega) (wc.heap.size + 1) (by simp) ?_)
       case c1 => simp [go_sem]
       intro g cap w' hk' hg' hgg hlt'
       have hgg2 : (Value.slice a' l.length c').ownBlock = some g ∨ g = (wc.alloc (.cells #[vp p] 80)).heap.size := by rw [World.size_alloc]; exact hgg
       have HNew := Lib.hid (PX.out.kid VX.out hzw (by intro g e; cases e) ha' (hk'.imp (by intro b h1 h2; rw [World.size_alloc]; exact h2)) hg' hgg2 (by simp; omega))
       have KY := Lib.hid (PX.out.beside_kid hg' KX.out (by omega))
       have KQ := Lib.hid (PX.out.blk.grown hg' (fun e => by have := PX.out.kds.2 _ e.symm; omega))
       have hbe : Below w.heap.size w w' := (below_alloc hbx _).trans (PX.out.below_kid hg' (by simp; omega) (by omega))
       have q3 := KQ.out.cell 3
       have f3 := KQ.out.frozen 3
       simp at q3
       have hqw : w.heap.size + 1 < w'.heap.size := KQ.out.lt
       clear hk' hg' hgg hgg2 PX KX VX KQ
       go_wp2_with fail
       go_ret3
       exact RetV.yes (by simpa using HY.out) (below_set hbe (by simp) _) (HNew.out.done (by omega))
      by_cases h44 : at_ r 0 = 44
      ·have e1 : (at_ r 0 != 44) = false := by simp [h44]
       have e3 : (at_ r 0 == 93) = false := by simp [h44]
       have HY := Lib.hid (show itemsR rd 20 s [] = itemsR rd m (r.drop 1) (l ++ [x]) by rw [hI.out, items_more HO2.out h44])
       clear h44 h93 HO2 HF HO hI
       have hps := hPP.out.mny.1
       have PX := Lib.hid ((hPP.out.belowed hb1).belowed (below_alloc (Below.refl _ _) (.cells #[vp p] 80)))
       have KX := Lib.hid (((hKR.out.keep hb1)).alloc (.cells #[vp p] 80))
       have VX := Lib.hid (hv.belowed (below_alloc (Below.refl _ _) (.cells #[vp p] 80)))
       obtain ⟨hqc, -, p3c, -, -, -, -⟩ := (hPP.out.belowed hb1).cells
       have hzx := hb1.size
       have hzw : w.heap.size + 2 ≤ wr.heap.size := by omega
       clear p3 hKR hPP hv hx1
       go_wp2_with (at_builtin; refine app_kid rfl _ _ rfl (fun b => w.heap.size + 2 ≤ b) _ ps rfl PX.out.kds wc.heap.size p rfl ?c1 (by omega) (wc.heap.size + 1) (by simp) ?_)
       case c1 => simp [go_sem]
       intro g cap w' hk' hg' hgg hlt'
       have hgg2 : (Value.slice a' l.length c').ownBlock = some g ∨ g = (wc.alloc (.cells #[vp p] 80)).heap.size := by rw [World.size_alloc]; exact hgg
       have HNew := Lib.hid (PX.out.kid VX.out hzw (by intro g e; cases e) ha' (hk'.imp (by intro b h1 h2; rw [World.size_alloc]; exact h2)) hg' hgg2 (by simp; omega))
       have KY := Lib.hid (PX.out.beside_kid hg' KX.out (by omega))
       have KQ := Lib.hid (PX.out.blk.grown hg' (fun e => by have := PX.out.kds.2 _ e.symm; omega))
       have hbe : Below w.heap.size w w' := (below_alloc hbx _).trans (PX.out.below_kid hg' (by simp; omega) (by omega))
       have q3 := KQ.out.cell 3
       have f3 := KQ.out.frozen 3
       simp at q3
       have hqw : w.heap.size + 1 < w'.heap.size := KQ.out.lt
       clear hk' hg' hgg hgg2 PX KX VX KQ
       go_wp2_with fail
       go_roundg m
       case measure => omega
       case rel => exact ⟨r.drop 1, l ++ [x], ps ++ [p], some ⟨g, 0, none⟩, cap, by simp, by simp; omega, by simp; omega, KY.out.far (by simp) _, HNew.out, HY.out, below_set hbe (by simp) _⟩
      ·have e1 : (at_ r 0 != 44) = true := by simp [h44]
       have e2 : (at_ r 0 != 93) = true := by simp [h93]
       have HN := Lib.hid (show listR rd k s = none by rw [HF.out, ← HO.out, hI.out, items_bad HO2.out h93 h44]; rfl)
       clear hx1 HO2 HF HO hI hv hKR hPP h93 h44
       go_wp2_with fail
       go_ret3
       exact RetV.no HN.out hbx
   ·have hl20 : l.length = 20 := by omega
    obtain rfl : gk = 0 := by omega
    have HN := Lib.hid (show listR rd k s = none by rw [HF.out, ← HO.out, hI.out]; rfl)
    go_wp2_with fail
    go_ret3
    exact RetV.no HN.out hb.out
theorem RetV.later {w W w' : World} {o : Option (V × Bs)} {e : Ending} (hb : Below w.heap.size w W) (h : RetV W o e w') : RetV w o e w' := by
 obtain ⟨pv, r, h1, h2, h3⟩ := h
 refine ⟨pv, r, h1, below_trans hb h2, fun x hx => ?_⟩
 obtain ⟨h4, p, h5, h6⟩ := h3 x hx
 exact ⟨h4, p, h5, h6.imp (by intro b _ h7; have := hb.size; omega)⟩
def namedO (X : List Ty) (d : Nat) (s k : Bs) : Option (V × Bs) := match refT X k with | none => none | some t => namedR (fun s k => readF X d s k) X t k s
def INamed (v : Value) (tps : List (Ty × Value)) (B d : Nat) : Prop := ∀ (s k : Bs) (w : World), s.length ≤ 1500000 → 0 < s.length → kOk k = true → at_ k 0 = 64 → Tys w B v tps → B ≤ w.heap.size →
 Calls Tryz.prog 85 #[rv v, .string (S s), .string (S k), .int .i64 ((d : Int) + 1)] w (RetV w (namedO (tps.map (·.1)) d s k))
theorem kOk_drop {k : Bs} (hk : kOk k = true) (h0 : at_ k 0 = 91 ∨ at_ k 0 = 63) : kOk (k.drop 1) = true := by
 rcases kind_cases k with hn | ⟨n, m, hn, -, -, -, h2⟩
 ·simp [kOk, hn] at hk
 ·cases m with
  | succ m => unfold kOk; rw [kindR_drop hn]; rfl
  | zero =>
   rcases h2 with ⟨-, -, -, e⟩ | ⟨-, e⟩
   ·omega
   ·rcases h0 with h0 | h0 <;> omega
theorem kOk_plain {k : Bs} (hk : kOk k = true) (h1 : at_ k 0 ≠ 91) (h2 : at_ k 0 ≠ 63) (h3 : at_ k 0 ≠ 64) : k = [110] ∨ k = [116] ∨ k = [102] := by
 rcases kind_cases k with hn | ⟨n, m, hn, hl, hd, h4, h5⟩
 ·simp [kOk, hn] at hk
 ·cases m with
  | succ m => have := h4 0 (by omega); omega
  | zero =>
   rcases h5 with ⟨-, -, -, e⟩ | ⟨e1, e2⟩
   ·omega
   ·simp only [List.drop_zero] at e2
    rcases e2 with ⟨e, -⟩ | ⟨e, -⟩ | ⟨e, -⟩
    ·exact .inl e
    ·exact .inr (.inl e)
    ·exact .inr (.inr e)
theorem k_plain (v : Value) (s k : Bs) (w : World) (hs : s.length ≤ 2000000) (h0 : 0 < s.length) (hk : k = [110] ∨ k = [116] ∨ k = [102]) :
  Calls Tryz.prog 86 #[rv v, .string (S s), .string (S k)] w (RetV w (plainR s k)) := by
 rcases hk with rfl | rfl | rfl
 ·exact k_plain_n v s w hs
 ·exact k_plain_t v s w hs h0
 ·exact k_plain_f v s _ w hs (by decide) (by decide)
theorem k_list (v : Value) (tps : List (Ty × Value)) (B d : Nat) (IH : IRead v tps B d) (s k : Bs) (w : World) (hs : s.length ≤ 1500000) (hk : kOk (k.drop 1) = true) (hk0 : 0 < k.length) (hd : d ≤ 100) (hT : Tys w B v tps) (hB : B ≤ w.heap.size) :
  Calls Tryz.prog 84 #[rv v, .string (S s), .string (S k), .int .i64 ((d : Int) + 1)] w (RetV w (listR (fun s => readF (tps.map (·.1)) d s (k.drop 1)) k s)) := by
 by_cases h93 : at_ s 0 = 93
 ·exact k_list_nil v _ s k _ w hs h93
 ·exact k_list_on v tps B d IH s k w hs hk hk0 hd hT hB h93
theorem readF_nil (X : List Ty) (d : Nat) (k : Bs) : readF X d [] k = none := by cases d <;> rfl
theorem readF_list {X : List Ty} {d : Nat} {s k : Bs} (hs : s ≠ []) (h : at_ k 0 = 91) : readF X (d + 1) s k = if at_ s 0 = 91 then listR (fun s => readF X d s (k.drop 1)) k (s.drop 1) else none := by rw [readF, if_neg hs, if_pos h]
theorem readF_may {X : List Ty} {d : Nat} {s k : Bs} (hs : s ≠ []) (h : at_ k 0 = 63) : readF X (d + 1) s k = if at_ s 0 = 45 then some (.mk k [] [] [], s.drop 1) else if at_ s 0 = 43 then (readF X d (s.drop 1) (k.drop 1)).map fun x => (.mk k [] [] [x.1], x.2) else none := by
 rw [readF, if_neg hs, if_neg (by omega), if_pos h]
theorem readF_named {X : List Ty} {d : Nat} {s k : Bs} (hs : s ≠ []) (h : at_ k 0 = 64) : readF X (d + 1) s k = namedO X d s k := by
 rw [readF, if_neg hs, if_neg (by omega), if_neg (by omega), if_pos h]; rfl
theorem readF_plain {X : List Ty} {d : Nat} {s k : Bs} (hs : s ≠ []) (h1 : at_ k 0 ≠ 91) (h2 : at_ k 0 ≠ 63) (h3 : at_ k 0 ≠ 64) : readF X (d + 1) s k = plainR s k := by
 rw [readF, if_neg hs, if_neg h1, if_neg h2, if_neg h3]
theorem k_read_nil (v : Value) (k : Bs) (d : Int) (w : World) (o : Option (V × Bs)) (ho : o = none) :
  Calls Tryz.prog 59 #[rv v, .string (S []), .string (S k), .int .i64 d] w (RetV w o) := by
 have HO := Lib.hid ho; clear ho
 unfold rv
 go_enter Tryz.func59, Tryz.ntmps59
 go_wp2_with fail
 go_ret3
 exact RetV.no HO.out (by (repeat (first | with_reducible exact Below.refl _ _ | with_reducible apply below_drew | with_reducible apply below_draws | with_reducible apply below_alloc | with_reducible apply below_set | (with_reducible refine below_trans ?_ (by assumption)) | (with_reducible refine Below.trans ?_ (by assumption)) | exact Nat.le_refl _ | omega | (simp <;> omega))))
set_option maxHeartbeats 4000000 in
theorem k_read_list (v : Value) (tps : List (Ty × Value)) (B d : Nat) (IH : IRead v tps B d) (s k : Bs) (w : World) (hs : s.length ≤ 1500000) (hs0 : 0 < s.length) (hk : kOk k = true) (h91 : at_ k 0 = 91) (hd : d ≤ 100) (hT : Tys w B v tps) (hB : B ≤ w.heap.size) :
  Calls Tryz.prog 59 #[rv v, .string (S s), .string (S k), .int .i64 ((d : Int) + 1)] w (RetV w (readF (tps.map (·.1)) (d + 1) s k)) := by
 have hsn : s ≠ [] := by intro e; rw [e] at hs0; simp at hs0
 have HF := Lib.hid (readF_list (X := tps.map (·.1)) (d := d) hsn h91)
 have hk0 := (kOk_len hk).2
 have hkd := kOk_drop hk (.inl h91)
 have hb1 : s.isEmpty = false := by cases s with | nil => simp at hs0 | cons _ _ => rfl
 have hb2 : (s == []) = false := by cases s with | nil => simp at hs0 | cons _ _ => rfl
 have hd1 : ¬ ((d : Int) + 1 < 1) := by omega
 have hs1 : (1 : Int) ≤ (s.length : Int) := by omega
 by_cases hc : at_ s 0 = 91
 ·have HF2 := Lib.hid (HF.out.trans (if_pos hc))
  have HL := Lib.hid (fun W (hbw : Below w.heap.size w W) => k_list v tps B d IH (s.drop 1) k W (by rw [List.length_drop]; omega) hkd hk0 hd (hT.below hbw) (by have := hbw.size; omega))
  rw [← HF2.out, List.drop_one] at HL
  generalize readF (tps.map (·.1)) (d + 1) s k = o at *
  clear HF HF2 IH hT hkd hk hsn
  unfold rv at *
  go_enter Tryz.func59, Tryz.ntmps59
  go_upto_region 7 with fail
  go_region_held3 (fun w' => w'.cell? ⟨w.heap.size, 0, none⟩ = some v ∧ Below w.heap.size w w')
   (first | (exact ⟨by simp [go_sem], below_drew (below_alloc (Below.refl _ _) _)⟩) | (go_split_ands; exact ⟨cell_later hb1' (by assumption), below_trans (by assumption) hb1'⟩))
   (first | (go_at_call 84; go_split_ands; (with_reducible refine (HL.out _ (by assumption)).mono ?_); rintro e w' ⟨pv, r, rfl, hb1', hx1⟩))
  all_goals
   go_split_ands
   go_wp2_with fail
   go_ret3
   exact RetV.later (by assumption) ⟨pv, r, rfl, hb1', hx1⟩
 ·have HF2 := Lib.hid (HF.out.trans (if_neg hc))
  have hcb : (at_ s 0 != 91) = true := by simp [hc]
  generalize readF (tps.map (·.1)) (d + 1) s k = o at *
  clear HF IH hT hkd hk hsn hc
  unfold rv
  go_enter Tryz.func59, Tryz.ntmps59
  go_wp2_with fail
  go_ret3
  exact RetV.no HF2.out (by (repeat (first | with_reducible exact Below.refl _ _ | with_reducible apply below_drew | with_reducible apply below_draws | with_reducible apply below_alloc | with_reducible apply below_set | (with_reducible refine below_trans ?_ (by assumption)) | (with_reducible refine Below.trans ?_ (by assumption)) | exact Nat.le_refl _ | omega | (simp <;> omega))))
theorem VAt.some_ {w W : World} {N : Nat → Prop} {k : Bs} {x : V} {p : Nat} (hx : VAt W (fun b => w.heap.size ≤ b) x p) (hb : w.heap.size ≤ W.heap.size) :
  VAt ((W.alloc (.cells #[vp p] 80)).alloc (.cells #[.string (S k), .string (S []), .slice none 0 0, .slice (some ⟨W.heap.size, 0, none⟩) 1 1] 133)) (fun b => w.heap.size ≤ b) (.mk k [] [] [x]) (W.heap.size + 1) := by
 have hb2 : Below W.heap.size W ((W.alloc (.cells #[vp p] 80)).alloc (.cells #[.string (S k), .string (S []), .slice none 0 0, .slice (some ⟨W.heap.size, 0, none⟩) 1 1] 133)) := below_alloc (below_alloc (Below.refl _ _) _) _
 have hB := Blk.new (W.alloc (.cells #[vp p] 80)) 133 #[.string (S k), .string (S []), .slice none 0 0, .slice (some ⟨W.heap.size, 0, none⟩) 1 1]
 rw [World.size_alloc] at hB
 refine .make (ps := [p]) (by show w.heap.size ≤ _; omega) hB (Tgs.nil_ _ _) ?_ ?_
 ·have h1 : Kids (W.alloc (.cells #[vp p] 80)) (fun b => w.heap.size ≤ b) (.slice (some ⟨W.heap.size, 0, none⟩) 1 1) [p] :=
   ⟨World.ownsRow_lit W #[vp p] 1 (Nat.zero_le _) (by unfold maxLen; omega) rfl, by intro g hg; injection hg with hg; have : W.heap.size = g := hg; omega⟩
  exact h1.rowed (grown_of_below (below_alloc (Below.refl _ _) _) none) (by intro r e; cases e)
 ·exact (Many.nil_ _ _).snoc (hx.belowed hb2)
set_option maxHeartbeats 4000000 in
theorem k_read_may (v : Value) (tps : List (Ty × Value)) (B d : Nat) (IH : IRead v tps B d) (s k : Bs) (w : World) (hs : s.length ≤ 1500000) (hs0 : 0 < s.length) (hk : kOk k = true) (h63 : at_ k 0 = 63) (hd : d ≤ 100) (hT : Tys w B v tps) (hB : B ≤ w.heap.size) :
  Calls Tryz.prog 59 #[rv v, .string (S s), .string (S k), .int .i64 ((d : Int) + 1)] w (RetV w (readF (tps.map (·.1)) (d + 1) s k)) := by
 have hsn : s ≠ [] := by intro e; rw [e] at hs0; simp at hs0
 have HF := Lib.hid (readF_may (X := tps.map (·.1)) (d := d) hsn h63)
 have hk0 := (kOk_len hk).2
 have hkd := kOk_drop hk (.inr h63)
 have hb1 : s.isEmpty = false := by cases s with | nil => simp at hs0 | cons _ _ => rfl
 have hb2 : (s == []) = false := by cases s with | nil => simp at hs0 | cons _ _ => rfl
 have hd1 : ¬ ((d : Int) + 1 < 1) := by omega
 have hd2 : IntKind.i64.wrap ((d : Int) + 1 - 1) = d := by rw [Int.add_sub_cancel]; exact IntWalk.i64_in _ (by omega)
 have hd3 : IntKind.i64.wrap (d : Int) = d := IntWalk.i64_in _ (by omega)
 have hs1 : (1 : Int) ≤ (s.length : Int) := by omega
 have hk1 : (1 : Int) ≤ (k.length : Int) := by omega
 by_cases h45 : at_ s 0 = 45
 ·have HF2 := Lib.hid (HF.out.trans (if_pos h45))
  generalize readF (tps.map (·.1)) (d + 1) s k = o at *
  clear HF IH hT hkd hk hsn
  unfold rv
  go_enter Tryz.func59, Tryz.ntmps59
  go_wp2_with fail
  go_region
  all_goals
   go_wp2_with fail
   go_ret3
   exact RetV.yes (by simpa using HF2.out) (by (repeat (first | with_reducible exact Below.refl _ _ | with_reducible apply below_drew | with_reducible apply below_draws | with_reducible apply below_alloc | with_reducible apply below_set | (with_reducible refine below_trans ?_ (by assumption)) | (with_reducible refine Below.trans ?_ (by assumption)) | exact Nat.le_refl _ | omega | (simp <;> omega)))) (VAt.freshAt _ _ (by simp) (by omega))
 ·by_cases h43 : at_ s 0 = 43
  ·have HF2 := Lib.hid (HF.out.trans ((if_neg h45).trans (if_pos h43)))
   have hcb : (at_ s 0 == 45) = false := by simp [h45]
   have hcc : (at_ s 0 != 43) = false := by simp [h43]
   have HL := Lib.hid (fun W (hbw : Below w.heap.size w W) => IH (s.drop 1) (k.drop 1) W (by rw [List.length_drop]; omega) hkd (hT.below hbw) (by have := hbw.size; omega))
   obtain ⟨o2, ho2⟩ : ∃ o2, readF (tps.map (·.1)) d (s.drop 1) (k.drop 1) = o2 := ⟨_, rfl⟩
   rw [ho2] at HF2 HL
   rw [List.drop_one, List.drop_one] at HL
   generalize readF (tps.map (·.1)) (d + 1) s k = o at *
   clear HF IH hT hkd hk hsn ho2 h45 h43
   unfold rv at *
   go_enter Tryz.func59, Tryz.ntmps59
   go_upto_region 13 with fail
   go_cut [11, 12, 13] (fun x y z wx => ∃ pv r, x = .pointer pv ∧ y = .string (S r) ∧ z = .bool o2.isSome ∧ Read w o2 pv r wx)
   case first =>
    clear HF2
    go_region_held3 (fun w' => w'.cell? ⟨w.heap.size, 0, none⟩ = some v ∧ Below w.heap.size w w')
     (first | (exact ⟨by simp [go_sem], below_drew (below_alloc (Below.refl _ _) _)⟩) | (go_split_ands; exact ⟨cell_later hb1' (by assumption), below_trans (by assumption) hb1'⟩))
     (first | (go_at_call 59; go_split_ands; (with_reducible refine (HL.out _ (by assumption)).mono ?_); rintro e w' ⟨pv, r, rfl, hb1', hx1⟩))
    all_goals
     go_split_ands
     go_wp2_with fail
     go_meet
     exact ⟨pv, r, rfl, rfl, rfl, Read.of (by assumption) hb1' hx1⟩
   case rest =>
    obtain ⟨pv, r, rfl, rfl, rfl, hb3, hx3⟩ := hcut
    have HB3 := Lib.hid hb3
    clear HL
    cases o2 with
    | none =>
     have HN := Lib.hid (show o = none by rw [HF2.out]; rfl)
     clear hx3 HF2
     go_wp2_with fail
     go_ret3
     exact RetV.no HN.out (below_alloc (below_alloc HB3.out _) _)
    | some y =>
     obtain ⟨x, r'⟩ := y
     obtain ⟨rfl, p, rfl, hv⟩ := hx3 _ rfl
     have HN := Lib.hid (show o = some (.mk k [] [] [x], r) by rw [HF2.out]; rfl)
     have HV := Lib.hid (show VAt wc (fun b => w.heap.size ≤ b) x p from hv)
     clear hx3 HF2 hv
     go_wp2_with fail
     go_ret3
     exact RetV.yes HN.out (below_alloc (below_alloc HB3.out _) _) (VAt.some_ (N := fun _ => True) HV.out (by have := HB3.out.size; omega))
  ·have HF2 := Lib.hid (HF.out.trans ((if_neg h45).trans (if_neg h43)))
   have hcb : (at_ s 0 == 45) = false := by simp [h45]
   have hcc : (at_ s 0 != 43) = true := by simp [h43]
   generalize readF (tps.map (·.1)) (d + 1) s k = o at *
   clear HF IH hT hkd hk hsn h45 h43
   unfold rv
   go_enter Tryz.func59, Tryz.ntmps59
   go_wp2_with fail
   go_ret3
   exact RetV.no HF2.out (by (repeat (first | with_reducible exact Below.refl _ _ | with_reducible apply below_drew | with_reducible apply below_draws | with_reducible apply below_alloc | with_reducible apply below_set | (with_reducible refine below_trans ?_ (by assumption)) | (with_reducible refine Below.trans ?_ (by assumption)) | exact Nat.le_refl _ | omega | (simp <;> omega))))
set_option maxHeartbeats 4000000 in
theorem k_read_other (v : Value) (tps : List (Ty × Value)) (B d : Nat) (IN : INamed v tps B d) (s k : Bs) (w : World) (hs : s.length ≤ 1500000) (hs0 : 0 < s.length) (hk : kOk k = true) (h91 : at_ k 0 ≠ 91) (h63 : at_ k 0 ≠ 63) (hd : d ≤ 100) (hT : Tys w B v tps) (hB : B ≤ w.heap.size) :
  Calls Tryz.prog 59 #[rv v, .string (S s), .string (S k), .int .i64 ((d : Int) + 1)] w (RetV w (readF (tps.map (·.1)) (d + 1) s k)) := by
 have hsn : s ≠ [] := by intro e; rw [e] at hs0; simp at hs0
 have hk0 := (kOk_len hk).2
 have hb1 : s.isEmpty = false := by cases s with | nil => simp at hs0 | cons _ _ => rfl
 have hb2 : (s == []) = false := by cases s with | nil => simp at hs0 | cons _ _ => rfl
 have hd1 : ¬ ((d : Int) + 1 < 1) := by omega
 have c1 : (at_ k 0 == 91) = false := by simp [h91]
 have c2 : (at_ k 0 == 63) = false := by simp [h63]
 by_cases h64 : at_ k 0 = 64
 ·have HF := Lib.hid (readF_named (X := tps.map (·.1)) (d := d) hsn h64)
  have HL := Lib.hid (fun W (hbw : Below w.heap.size w W) => IN s k W hs hs0 hk h64 (hT.below hbw) (by have := hbw.size; omega))
  rw [← HF.out] at HL
  generalize readF (tps.map (·.1)) (d + 1) s k = o at *
  clear HF IN hT hk hsn h91 h63
  unfold rv at *
  go_enter Tryz.func59, Tryz.ntmps59
  go_wp2_with (go_at_call 85; (with_reducible refine (HL.out _ (below_alloc (Below.refl _ _) _)).mono ?_); rintro e w' ⟨pv, r, rfl, hb1', hx1⟩)
  go_ret3
  exact RetV.later (below_alloc (Below.refl _ _) _) ⟨pv, r, rfl, hb1', hx1⟩
 ·have c3 : (at_ k 0 == 64) = false := by simp [h64]
  have HF := Lib.hid (readF_plain (X := tps.map (·.1)) (d := d) hsn h91 h63 h64)
  have HL := Lib.hid (fun W => k_plain v s k W (by omega) hs0 (kOk_plain hk h91 h63 h64))
  rw [← HF.out] at HL
  generalize readF (tps.map (·.1)) (d + 1) s k = o at *
  clear HF IN hT hk hsn h91 h63 h64
  unfold rv at *
  go_enter Tryz.func59, Tryz.ntmps59
  go_wp2_with (go_at_call 86; (with_reducible refine (HL.out _).mono ?_); rintro e w' ⟨pv, r, rfl, hb1', hx1⟩)
  go_ret3
  exact RetV.later (below_alloc (Below.refl _ _) _) ⟨pv, r, rfl, hb1', hx1⟩
theorem k_read_step (v : Value) (tps : List (Ty × Value)) (B d : Nat) (hd : d ≤ 100) (IH : IRead v tps B d) (IN : INamed v tps B d) : IRead v tps B (d + 1) := by
 intro s k w hs hk hT hB
 have e : (((d + 1 : Nat)) : Int) = (d : Int) + 1 := rfl
 rw [e]
 by_cases hs0 : 0 < s.length
 ·by_cases h91 : at_ k 0 = 91
  ·exact k_read_list v tps B d IH s k w hs hs0 hk h91 hd hT hB
  ·by_cases h63 : at_ k 0 = 63
   ·exact k_read_may v tps B d IH s k w hs hs0 hk h63 hd hT hB
   ·exact k_read_other v tps B d IN s k w hs hs0 hk h91 h63 hd hT hB
 ·obtain rfl : s = [] := List.eq_nil_of_length_eq_zero (by omega)
  exact k_read_nil v k _ w _ (readF_nil _ _ _)
theorem k_find_none (v : Value) (ps : List (Ty × Value)) (B : Nat) (n : Bs) (w : World) (h : Tys w B v ps) (hl : ps.length ≤ 1000000) (hB : B ≤ w.heap.size) (hn : find (ps.map (·.1)) n = none) :
  Calls Tryz.prog 67 #[v, .string (S n)] w fun e w' => e = .returned (.tuple #[tv ⟨0, [], []⟩ (.slice none 0 0), .bool false]) ∧ Below w.heap.size w w' := by
 obtain ⟨ao, cap, rfl, hc, hf⟩ := h.form
 obtain ⟨m, hm⟩ : ∃ m, ps.length = m := ⟨_, rfl⟩
 rw [hm] at hc hl h ⊢
 have HO := Lib.hid hn; clear hn
 have H := Lib.hid h; clear h
 have HM := Lib.hid hm; clear hm
 have HF := Lib.hid hf; clear hf
 go_enter Tryz.func67, Tryz.ntmps67
 go_wp2_with fail
 go_loop [6] (fun i => ∃ k : Nat, k ≤ m ∧ i = .int .i64 k ∧ Hid (find ((ps.map (·.1)).drop k) n = none)) (fun i => m - (intOf i).toNat)
 case atStart => exact ⟨0, by omega, rfl, HO.out⟩
 case round =>
  obtain ⟨k, hk, rfl, hh⟩ := hrel
  by_cases hlt : k < m
  ·obtain ⟨g, rfl, hg1, hg2⟩ : ∃ g, ao = some ⟨g, 0, none⟩ ∧ B ≤ g ∧ g < w.heap.size := by
    rcases HF.out with ⟨_, h0⟩ | h0
    ·have h1 := HM.out; rw [h0] at h1; simp at h1; omega
    ·exact h0
   have hkl : k < ps.length := by rw [HM.out]; exact hlt
   obtain ⟨t, a, c, he, hF, c0, c1, c2⟩ := H.out.cells3 k hkl
   have hX : k < (ps.map (·.1)).length := by simpa using hkl
   have hXk : (ps.map (·.1))[k] = t := by rw [List.getElem_map, he]
   cases hnm : (t.name == n) with
   | true =>
    have := find_yes _ n k hX (by rw [hXk]; exact hnm)
    rw [hh.out] at this
    cases this
   | false =>
    have HR := Lib.hid ((find_no _ n k hX (by rw [hXk]; exact hnm)).symm.trans hh.out)
    clear he hXk hF
    go_wp2_with fail
    go_round
    case rel => exact ⟨k + 1, by omega, by go_num, HR.out⟩
    case measure => simp [intOf]; omega
  ·go_wp2_with fail
   refine bodyPost_ret (v := .tuple #[tv ⟨0, [], []⟩ (.slice none 0 0), .bool false]) ?_ rfl ?_
   ·simp [results, Tryz.results67, go_sem, tv]; rfl
   ·exact ⟨rfl, by (repeat (first | with_reducible exact Below.refl _ _ | with_reducible apply below_drew | with_reducible apply below_draws | with_reducible apply below_alloc | with_reducible apply below_set | (with_reducible refine below_trans ?_ (by assumption)) | (with_reducible refine Below.trans ?_ (by assumption)) | exact Nat.le_refl _ | omega | (simp <;> omega)))⟩
theorem k_ref_none (v : Value) (ps : List (Ty × Value)) (B : Nat) (k : Bs) (w : World) (h : Tys w B v ps) (hl : ps.length ≤ 1000000) (hB : B ≤ w.heap.size) (hk : kOk k = true) (hn0 : refT (ps.map (·.1)) k = none) :
  Calls Tryz.prog 74 #[v, .string (S k)] w fun e w' => e = .returned (.tuple #[tv ⟨0, [], []⟩ (.slice none 0 0), .bool false]) ∧ Below w.heap.size w w' := by
 rcases ref_ways hk with ⟨n, hn, hnl, rfl, hr⟩ | ⟨h64, h0, hkl, hr⟩
 ·rw [hr] at hn0
  clear hr hk hn
  have H := Lib.hid h
  have HV := Lib.hid h.form; clear h
  have HC := Lib.hid (fun w (h : Tys w B v ps) (hB : B ≤ w.heap.size) => k_find_none v ps B n w h hl hB hn0)
  clear hn0
  go_enter Tryz.func74, Tryz.ntmps74
  go_wp2_with (go_at_call 72; refine (k_l2Ref_yes n _ (by omega)).mono ?_; rintro e w' ⟨rfl, rfl⟩)
  refine (HC.out _ (H.out.below (by (repeat (first | with_reducible exact Below.refl _ _ | with_reducible apply below_drew | with_reducible apply below_draws | with_reducible apply below_alloc | with_reducible apply below_set | (with_reducible refine below_trans ?_ (by assumption)) | (with_reducible refine Below.trans ?_ (by assumption)) | exact Nat.le_refl _ | omega | (simp <;> omega))))) (by simp; omega)).mono ?_
  rintro e w2 ⟨rfl, hb⟩
  have hz := hb.size
  simp at hz
  have hlt : w.heap.size < w2.heap.size := by omega
  have K := (Blk.new w 61 #[.int .u8 0, .string { data := #[] }, .slice none 0 0]).keep hb
  have k0 := K.cell 0
  have k1 := K.cell 1
  have k2 := K.cell 2
  have f0 := K.frozen 0
  have f1 := K.frozen 1
  have f2 := K.frozen 2
  simp at k0 k1 k2
  unfold tv
  go_wp2_with fail
  refine bodyPost_ret (v := .tuple #[tv ⟨0, [], []⟩ (.slice none 0 0), .bool false]) ?_ rfl ?_
  ·simp [results, Tryz.results74, go_sem, tv, k0, k1, k2, f0, f1, f2, hlt] <;> rfl
  ·exact ⟨rfl, by (repeat (first | with_reducible exact Below.refl _ _ | with_reducible apply below_drew | with_reducible apply below_draws | with_reducible apply below_alloc | with_reducible apply below_set | (with_reducible refine below_trans ?_ (by assumption)) | (with_reducible refine Below.trans ?_ (by assumption)) | exact Nat.le_refl _ | omega | (simp <;> omega)))⟩
 ·clear hr hk h hn0
  go_enter Tryz.func74, Tryz.ntmps74
  go_wp2_with (go_at_call 72; refine (k_l2Ref_no k _ h64 h0 (by omega)).mono ?_; rintro e w' ⟨rfl, rfl⟩)
  refine bodyPost_ret (v := .tuple #[tv ⟨0, [], []⟩ (.slice none 0 0), .bool false]) ?_ rfl ?_
  ·simp [results, Tryz.results74, go_sem, tv]; rfl
  ·exact ⟨rfl, by (repeat (first | with_reducible exact Below.refl _ _ | with_reducible apply below_drew | with_reducible apply below_draws | with_reducible apply below_alloc | with_reducible apply below_set | (with_reducible refine below_trans ?_ (by assumption)) | (with_reducible refine Below.trans ?_ (by assumption)) | exact Nat.le_refl _ | omega | (simp <;> omega)))⟩
def IRecord (v : Value) (tps : List (Ty × Value)) (B d : Nat) : Prop := ∀ (t : Ty) (a : Option Addr) (c : Nat) (s k : Bs) (w : World), GoodT t → t.sort ≠ 69 → s.length ≤ 1500000 → Tys w B v tps → B ≤ w.heap.size → Flds w B (.slice a t.fields.length c) t.fields →
 Calls Tryz.prog 109 #[rv v, .string (S s), .string (S k), tv t (.slice a t.fields.length c), .int .i64 ((d : Int) + 1)] w (RetV w (recordR (fun s k => readF (tps.map (·.1)) d s k) (tps.map (·.1)) t k s))
theorem namedO_none {X : List Ty} {d : Nat} {s k : Bs} (h : refT X k = none) : namedO X d s k = none := by unfold namedO; rw [h]
theorem namedO_some {X : List Ty} {d : Nat} {s k : Bs} {t : Ty} (h : refT X k = some t) : namedO X d s k = namedR (fun s k => readF X d s k) X t k s := by unfold namedO; rw [h]
theorem named_ways {X : List Ty} {t : Ty} (hgt : GoodT t) (rd : Bs → Bs → Option (V × Bs)) (k s : Bs) :
  (t.sort = 82 ∧ at_ s 0 = 123 ∧ namedR rd X t k s = recordR rd X t k (s.drop 1)) ∨ (t.sort = 69 ∧ at_ s 0 = 35 ∧ namedR rd X t k s = enumR t k (s.drop 1)) ∨ (t.sort = 85 ∧ at_ s 0 = 60 ∧ namedR rd X t k s = unionR rd t k (s.drop 1)) ∨
  (namedR rd X t k s = none ∧ ((t.sort = 82 ∧ at_ s 0 ≠ 123) ∨ (t.sort = 69 ∧ at_ s 0 ≠ 35) ∨ (t.sort = 85 ∧ at_ s 0 ≠ 60))) := by
 have hs : t.sort = 82 ∨ t.sort = 85 ∨ t.sort = 69 := by have := hgt.1; unfold isSort at this; simp at this; omega
 rcases hs with h | h | h
 ·by_cases hc : at_ s 0 = 123
  ·exact .inl ⟨h, hc, by unfold namedR; rw [if_pos ⟨h, hc⟩]⟩
  ·exact .inr (.inr (.inr ⟨by unfold namedR; rw [if_neg (by omega), if_neg (by omega), if_neg (by omega)], .inl ⟨h, hc⟩⟩))
 ·by_cases hc : at_ s 0 = 60
  ·exact .inr (.inr (.inl ⟨h, hc, by unfold namedR; rw [if_neg (by omega), if_neg (by omega), if_pos ⟨h, hc⟩]⟩))
  ·exact .inr (.inr (.inr ⟨by unfold namedR; rw [if_neg (by omega), if_neg (by omega), if_neg (by omega)], .inr (.inr ⟨h, hc⟩)⟩))
 ·by_cases hc : at_ s 0 = 35
  ·exact .inr (.inl ⟨h, hc, by unfold namedR; rw [if_neg (by omega), if_pos ⟨h, hc⟩]⟩)
  ·exact .inr (.inr (.inr ⟨by unfold namedR; rw [if_neg (by omega), if_neg (by omega), if_neg (by omega)], .inr (.inl ⟨h, hc⟩)⟩))
set_option maxHeartbeats 4000000 in
theorem k_nm_none (v : Value) (tps : List (Ty × Value)) (B d : Nat) (hl8 : tps.length ≤ 8) (s k : Bs) (w : World) (hs : s.length ≤ 1500000) (hk : kOk k = true) (hr : refT (tps.map (·.1)) k = none) (hT : Tys w B v tps) (hB : B ≤ w.heap.size) :
  Calls Tryz.prog 85 #[rv v, .string (S s), .string (S k), .int .i64 ((d : Int) + 1)] w (RetV w (namedO (tps.map (·.1)) d s k)) := by
 have HF := Lib.hid (namedO_none (d := d) (s := s) hr)
 have HC := Lib.hid (fun w hT hB => k_ref_none v tps B k w hT (by omega) hB hk hr)
 have HT := Lib.hid hT
 generalize namedO (tps.map (·.1)) d s k = o at *
 clear hT hr hk
 unfold rv
 go_enter Tryz.func85, Tryz.ntmps85
 go_wp2_with fail
 refine (HC.out _ (HT.out.below (below_alloc (Below.refl _ _) _)) (by simp; omega)).mono ?_
 rintro e w1 ⟨rfl, hb⟩
 unfold tv
 have hbw : Below w.heap.size w w1 := below_trans (below_alloc (Below.refl _ _) _) hb
 clear hb
 go_wp2_with fail
 go_ret3
 exact RetV.no HF.out (by (repeat (first | with_reducible exact Below.refl _ _ | with_reducible apply below_drew | with_reducible apply below_draws | with_reducible apply below_alloc | with_reducible apply below_set | (with_reducible refine below_trans ?_ (by assumption)) | (with_reducible refine Below.trans ?_ (by assumption)) | exact Nat.le_refl _ | omega | (simp <;> omega))))
set_option maxHeartbeats 4000000 in
theorem k_nm_record (v : Value) (tps : List (Ty × Value)) (B d : Nat) (IREC : IRecord v tps B d) (hl8 : tps.length ≤ 8) (t : Ty) (hgt : GoodT t) (s k : Bs) (w : World) (hs : s.length ≤ 1500000) (hs0 : 0 < s.length) (hk : kOk k = true) (hr : refT (tps.map (·.1)) k = some t) (hT : Tys w B v tps) (hB : B ≤ w.heap.size)
  (h82 : t.sort = 82) (h123 : at_ s 0 = 123) (o : Option (V × Bs)) (ho : o = recordR (fun s k => readF (tps.map (·.1)) d s k) (tps.map (·.1)) t k (s.drop 1)) :
  Calls Tryz.prog 85 #[rv v, .string (S s), .string (S k), .int .i64 ((d : Int) + 1)] w (RetV w o) := by
 have HC := Lib.hid (fun w hT hB => k_ref v tps B k w hT (by omega) hB hk)
 rw [hr] at HC
 have HT := Lib.hid hT
 have HR := Lib.hid (fun a c W (h2 : Tys W B v tps) (h3 : B ≤ W.heap.size) (h4 : Flds W B (.slice a t.fields.length c) t.fields) => IREC t a c (s.drop 1) k W hgt (by omega) (by rw [List.length_drop]; omega) h2 h3 h4)
 rw [← ho, List.drop_one] at HR
 have b1 : (t.sort == 82) = true := by simp [h82]
 have b2 : (at_ s 0 == 123) = true := by simp [h123]
 have hs1 : (1 : Int) ≤ (s.length : Int) := by omega
 clear hT hr hk IREC ho hgt h82 h123
 unfold rv tv at *
 go_enter Tryz.func85, Tryz.ntmps85
 go_wp2_with fail
 refine (HC.out _ (HT.out.below (below_alloc (Below.refl _ _) _)) (by simp; omega)).mono ?_
 rintro e w1 ⟨t', u, rfl, ht, hF, hb⟩
 obtain rfl : t' = t := ht _ rfl
 obtain ⟨a, c, rfl, -, -⟩ := hF.form
 have hbw : Below w.heap.size w w1 := below_trans (below_alloc (Below.refl _ _) _) hb
 have kr := cell_later hb (show (w.alloc (.cells #[v] 99)).cell? ⟨w.heap.size, 0, none⟩ = some v by simp [go_sem])
 have HL := Lib.hid (fun W (hbw2 : Below w1.heap.size w1 W) => HR.out a c W (HT.out.below (below_trans hbw hbw2)) (by have := hbw.size; have := hbw2.size; omega) (hF.below hbw2))
 clear hb hF ht HR HT HC
 have KT := Blk.new w1 61 #[.int .u8 t'.sort, .string (S t'.name), .slice a t'.fields.length c]
 have q0 := KT.cell 0
 have q1 := KT.cell 1
 have q2 := KT.cell 2
 have kr' := cell_later (below_alloc (Below.refl w1.heap.size w1) (.cells #[.int .u8 t'.sort, .string (S t'.name), .slice a t'.fields.length c] 61)) kr
 have Q := Lib.hid (And.intro kr' (And.intro q0 (And.intro q1 q2)))
 clear q0 q1 q2 kr' KT
 unfold tv
 go_wp2_with fail
 obtain ⟨kr', q0, q1, q2⟩ := Q.out
 go_region_held3 (fun w' => w'.cell? ⟨w.heap.size, 0, none⟩ = some v ∧ w'.cell? ⟨w1.heap.size, 0, none⟩ = some (.int .u8 t'.sort) ∧ w'.cell? ⟨w1.heap.size, 1, none⟩ = some (.string (S t'.name)) ∧ w'.cell? ⟨w1.heap.size, 2, none⟩ = some (.slice a t'.fields.length c) ∧ Below w1.heap.size w1 w')
  (first | (exact ⟨kr', q0, q1, q2, below_drew (below_alloc (Below.refl _ _) _)⟩) | (go_split_ands; exact ⟨cell_later hb1' (by assumption), cell_later hb1' (by assumption), cell_later hb1' (by assumption), cell_later hb1' (by assumption), below_trans (by assumption) hb1'⟩))
  (first | (go_at_call 109; go_split_ands; (with_reducible refine (HL.out _ (by assumption)).mono ?_); rintro e w' ⟨pv, r, rfl, hb1', hx1⟩))
 all_goals
  go_split_ands
  go_wp2_with fail
  go_ret3
  exact RetV.later (below_trans hbw (by assumption)) ⟨pv, r, rfl, hb1', hx1⟩
end Go.Proofs.YtcjooeklehggaaaGreatDoor
