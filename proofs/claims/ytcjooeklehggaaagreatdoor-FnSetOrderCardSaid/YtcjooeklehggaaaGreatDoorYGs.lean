/- Lemmas of this seat. -/
import Derived.Test.YtcjooeklehggaaaGreatDoorYAs
import Derived.Test.YtcjooeklehggaaaGreatDoorYFs
set_option linter.unusedVariables false
set_option linter.unusedSimpArgs false
set_option maxRecDepth 100000
namespace Go.Proofs.YtcjooeklehggaaaGreatDoor
open Go.ChangeShapes Go.WideShapes Go.ChangeAt Go.RowKit M
def unionO (rd : Bs → Bs → Option (V × Bs)) (k : Bs) : Option (Fl × Bs) → Option (V × Bs)
 | none => none
 | some y => if at_ y.2 0 = 61 then (match rd (y.2.drop 1) y.1.kind with
   | none => none
   | some x => if at_ x.2 0 = 62 then some (.mk k [85] [y.1.tag] [x.1], x.2.drop 1) else none) else none
theorem unionR_O (rd : Bs → Bs → Option (V × Bs)) (t : Ty) (k s : Bs) : unionR rd t k s = unionO rd k (tagR s t) := by unfold unionR unionO; cases tagR s t <;> rfl
def unionE (k : Bs) (g : Int) : Option (V × Bs) → Option (V × Bs) | none => none | some x => if at_ x.2 0 = 62 then some (.mk k [85] [g] [x.1], x.2.drop 1) else none
theorem union_read {rd : Bs → Bs → Option (V × Bs)} {k r : Bs} {f : Fl} {o : Option (V × Bs)} (h : at_ r 0 = 61) (ho : rd (r.drop 1) f.kind = o) : unionO rd k (some (f, r)) = unionE k f.tag o := by
 have e : unionO rd k (some (f, r)) = (match rd (r.drop 1) f.kind with | none => none | some x => if at_ x.2 0 = 62 then some (.mk k [85] [f.tag] [x.1], x.2.drop 1) else none) := if_pos h
 rw [e, ho]
 cases o <;> rfl
theorem VAt.union_ {w W : World} {k : Bs} {g : Int} {x : V} {p : Nat} (hx : VAt W (fun b => w.heap.size ≤ b) x p) (hb : w.heap.size ≤ W.heap.size) :
  VAt (((W.alloc (.cells #[.int .i64 g] 3)).alloc (.cells #[vp p] 80)).alloc (.cells #[.string (S k), .string (S [85]), .slice (some ⟨W.heap.size, 0, none⟩) 1 1, .slice (some ⟨W.heap.size + 1, 0, none⟩) 1 1] 133)) (fun b => w.heap.size ≤ b) (.mk k [85] [g] [x]) (W.heap.size + 1 + 1) := by
 have hb3 : Below W.heap.size W (((W.alloc (.cells #[.int .i64 g] 3)).alloc (.cells #[vp p] 80)).alloc (.cells #[.string (S k), .string (S [85]), .slice (some ⟨W.heap.size, 0, none⟩) 1 1, .slice (some ⟨W.heap.size + 1, 0, none⟩) 1 1] 133)) := below_alloc (below_alloc (below_alloc (Below.refl _ _) _) _) _
 have hB := Blk.new ((W.alloc (.cells #[.int .i64 g] 3)).alloc (.cells #[vp p] 80)) 133 #[.string (S k), .string (S [85]), .slice (some ⟨W.heap.size, 0, none⟩) 1 1, .slice (some ⟨W.heap.size + 1, 0, none⟩) 1 1]
 rw [World.size_alloc, World.size_alloc] at hB
 refine .make (ps := [p]) (by show w.heap.size ≤ _; omega) hB ?_ ?_ ?_
 ·have h3 : Tgs (W.alloc (.cells #[.int .i64 g] 3)) (fun b => w.heap.size ≤ b) (.slice (some ⟨W.heap.size, 0, none⟩) 1 1) [g] :=
   ⟨World.ownsRow_lit W #[.int .i64 g] 1 (Nat.zero_le _) (by unfold maxLen; omega) rfl, by intro q hq; injection hq with hq; have : W.heap.size = q := hq; omega⟩
  exact h3.rowed (grown_of_below (below_alloc (below_alloc (Below.refl _ _) _) _) none) (by intro r e; cases e)
 ·have h3 : Kids ((W.alloc (.cells #[.int .i64 g] 3)).alloc (.cells #[vp p] 80)) (fun b => w.heap.size ≤ b) (.slice (some ⟨W.heap.size + 1, 0, none⟩) 1 1) [p] := by
   have h4 := World.ownsRow_lit (base := 0) (e := 80) (size := 1) (W.alloc (.cells #[.int .i64 g] 3)) #[vp p] 1 (Nat.zero_le _) (by unfold maxLen; omega) rfl
   rw [World.size_alloc] at h4
   exact ⟨h4, by intro q hq; injection hq with hq; have : W.heap.size + 1 = q := hq; omega⟩
  exact h3.rowed (grown_of_below (below_alloc (Below.refl _ _) _) none) (by intro r e; cases e)
 ·exact (Many.nil_ _ _).snoc (hx.belowed hb3)
theorem VAt.union2_ {w W : World} {k : Bs} {g : Int} {x : V} {p : Nat} (hx : VAt W (fun b => w.heap.size ≤ b) x p) (hb : w.heap.size ≤ W.heap.size) :
  VAt (((W.alloc (.cells #[vp p] 80)).alloc (.cells #[.int .i64 g] 3)).alloc (.cells #[.string (S k), .string (S [85]), .slice (some ⟨W.heap.size + 1, 0, none⟩) 1 1, .slice (some ⟨W.heap.size, 0, none⟩) 1 1] 133)) (fun b => w.heap.size ≤ b) (.mk k [85] [g] [x]) (W.heap.size + 1 + 1) := by
 have hb3 : Below W.heap.size W (((W.alloc (.cells #[vp p] 80)).alloc (.cells #[.int .i64 g] 3)).alloc (.cells #[.string (S k), .string (S [85]), .slice (some ⟨W.heap.size + 1, 0, none⟩) 1 1, .slice (some ⟨W.heap.size, 0, none⟩) 1 1] 133)) := below_alloc (below_alloc (below_alloc (Below.refl _ _) _) _) _
 have hB := Blk.new ((W.alloc (.cells #[vp p] 80)).alloc (.cells #[.int .i64 g] 3)) 133 #[.string (S k), .string (S [85]), .slice (some ⟨W.heap.size + 1, 0, none⟩) 1 1, .slice (some ⟨W.heap.size, 0, none⟩) 1 1]
 rw [World.size_alloc, World.size_alloc] at hB
 refine .make (ps := [p]) (by show w.heap.size ≤ _; omega) hB ?_ ?_ ?_
 ·have h3 : Tgs ((W.alloc (.cells #[vp p] 80)).alloc (.cells #[.int .i64 g] 3)) (fun b => w.heap.size ≤ b) (.slice (some ⟨W.heap.size + 1, 0, none⟩) 1 1) [g] := by
   have h4 := World.ownsRow_lit (base := 0) (e := 3) (size := 1) (W.alloc (.cells #[vp p] 80)) #[.int .i64 g] 1 (Nat.zero_le _) (by unfold maxLen; omega) rfl
   rw [World.size_alloc] at h4
   exact ⟨h4, by intro q hq; injection hq with hq; have : W.heap.size + 1 = q := hq; omega⟩
  exact h3.rowed (grown_of_below (below_alloc (Below.refl _ _) _) none) (by intro r e; cases e)
 ·have h3 : Kids (W.alloc (.cells #[vp p] 80)) (fun b => w.heap.size ≤ b) (.slice (some ⟨W.heap.size, 0, none⟩) 1 1) [p] :=
   ⟨World.ownsRow_lit W #[vp p] 1 (Nat.zero_le _) (by unfold maxLen; omega) rfl, by intro q hq; injection hq with hq; have : W.heap.size = q := hq; omega⟩
  exact h3.rowed (grown_of_below (below_alloc (below_alloc (Below.refl _ _) _) _) none) (by intro r e; cases e)
 ·exact (Many.nil_ _ _).snoc (hx.belowed hb3)
set_option maxHeartbeats 4000000 in
theorem k_nm_union (v : Value) (tps : List (Ty × Value)) (B d : Nat) (hl8 : tps.length ≤ 8) (t : Ty) (hgt : GoodT t) (s k : Bs) (w : World) (hs : s.length ≤ 1500000) (hs0 : 0 < s.length) (hk : kOk k = true) (hr : refT (tps.map (·.1)) k = some t) (hT : Tys w B v tps) (hB : B ≤ w.heap.size)
  (IH : IRead v tps B d) (hd : d ≤ 100) (h85 : t.sort = 85) (h60 : at_ s 0 = 60) (o : Option (V × Bs)) (ho : o = unionR (fun s k => readF (tps.map (·.1)) d s k) t k (s.drop 1)) :
  Calls Tryz.prog 85 #[rv v, .string (S s), .string (S k), .int .i64 ((d : Int) + 1)] w (RetV w o) := by
 have HC := Lib.hid (fun w hT hB => k_ref v tps B k w hT (by omega) hB hk)
 rw [hr] at HC
 have HT := Lib.hid hT
 obtain ⟨ot, hot⟩ : ∃ ot, tagR (s.drop 1) t = ot := ⟨_, rfl⟩
 obtain ⟨rd, hrd⟩ : ∃ rd, (fun s k => readF (tps.map (·.1)) d s k) = rd := ⟨_, rfl⟩
 rw [hrd] at ho
 have HIR := Lib.hid (fun s k w (h1 : s.length ≤ 1500000) (hk : kOk k = true) (h2 : Tys w B v tps) (h3 : B ≤ w.heap.size) => (by subst hrd; exact IH s k w h1 hk h2 h3 : Calls Tryz.prog 59 #[rv v, .string (S s), .string (S k), .int .i64 (d : Int)] w (RetV w (rd s k))))
 have HKO := Lib.hid (fun f (hf : f ∈ t.fields) => (hgt.2.2.2.2 f hf).2.2.2.2.2.1 (by omega))
 have HO := Lib.hid (show o = unionO rd k ot by rw [ho, unionR_O, hot])
 have HOT := Lib.hid hot
 have hd2 : IntKind.i64.wrap ((d : Int) + 1 - 1) = d := by rw [Int.add_sub_cancel]; exact IntWalk.i64_in _ (by omega)
 have hd3 : IntKind.i64.wrap (d : Int) = d := IntWalk.i64_in _ (by omega)
 have HR := Lib.hid (fun a c W (h4 : Flds W B (.slice a t.fields.length c) t.fields) => k_tag v t a c B (s.drop 1) W (by rw [List.length_drop]; omega) h4 (by have := hgt.2.2.1; omega))
 rw [hot, List.drop_one] at HR
 have b2 : (at_ s 0 == 60) = true := by simp [h60]
 have hs1 : (1 : Int) ≤ (s.length : Int) := by omega
 clear hT hr hk ho hot hgt h60 IH hrd
 unfold rv tv at *
 go_enter Tryz.func85, Tryz.ntmps85
 go_wp2_with fail
 refine (HC.out _ (HT.out.below (below_alloc (Below.refl _ _) _)) (by simp; omega)).mono ?_
 rintro e w1 ⟨t', u, rfl, ht, hF, hb⟩
 obtain rfl : t' = t := ht _ rfl
 obtain ⟨a, c, rfl, -, -⟩ := hF.form
 have hbw : Below w.heap.size w w1 := below_trans (below_alloc (Below.refl _ _) _) hb
 have kr := cell_later hb (show (w.alloc (.cells #[v] 99)).cell? ⟨w.heap.size, 0, none⟩ = some v by simp [go_sem])
 have HL := Lib.hid (fun W (hbw2 : Below w1.heap.size w1 W) => HR.out a c W (hF.below hbw2))
 have hww : w.heap.size < w1.heap.size := by have := hb.size; simp at this; omega
 have HT1 := Lib.hid (HT.out.below hbw)
 have hBz : B ≤ w1.heap.size := by omega
 clear hb hF ht HR HT HC
 unfold tv
 rw [h85] at HL ⊢
 clear h85
 obtain ⟨n', hn'⟩ : ∃ n', t'.name = n' := ⟨_, rfl⟩
 obtain ⟨fl, hfl⟩ : ∃ fl, t'.fields.length = fl := ⟨_, rfl⟩
 rw [hn', hfl] at HL ⊢
 clear hn' hfl
 go_upto_region 8 with fail
 go_cut [16, 17, 18] (fun x y z wx => ∃ (f : Fl) (r : Bs) (b : Nat), x = vp b ∧ y = .string (S r) ∧ z = .bool ot.isSome ∧ Blk wx b 65 #[.int .i64 f.tag, .string (S f.name), .string (S f.kind), .string (S f.stand)] ∧ (∀ q, ot = some q → f = q.1 ∧ r = q.2) ∧ Below w1.heap.size w1 wx ∧ w1.heap.size ≤ b)
 case first =>
  clear HO hl8 hs hB hs0 HIR HKO HOT HT1 hd2 hd3 hd hBz
  go_region_with (go_at_call 110; (with_reducible refine (HL.out _ (by repeat (with_reducible first | exact Below.refl _ _ | apply below_drew | apply below_alloc))).mono ?_); rintro e w' ⟨f, r, rfl, hf, hb⟩; obtain ⟨hce, hfr⟩ := bcell hb; unfold fv)
  all_goals
   clear HL
   go_wp2_with fail
   go_meet
   refine ⟨f, r, _, rfl, rfl, rfl, ?_, hf, ?_, ?_⟩
   ·first | (with_reducible exact Blk.new _ _ _) | (have KN := Blk.keep ((Blk.new (w1.alloc (.cells #[.int .u8 85, .string (S n'), .slice a fl c] 61)) 65 _).drew) hb; rw [World.size_alloc] at KN; exact fld_sets KN)
   ·first | (with_reducible exact below_alloc (below_trans (below_drew (below_alloc (Below.refl _ _) _)) hb) _) | (exact below_set (below_set (below_set (below_set (below_trans (below_drew (below_alloc (below_alloc (Below.refl _ _) _) _)) hb) (Nat.le_succ _) _) (Nat.le_succ _) _) (Nat.le_succ _) _) (Nat.le_succ _) _)
   ·first | (exact Nat.le_succ _) | (clear hce hfr; have := hb.size; simp at this; omega)
 case rest =>
  obtain ⟨f, r, b, rfl, rfl, rfl, hK, hf, hbx, hbb⟩ := hcut
  have HB := Lib.hid (below_trans hbw hbx)
  have hz := HB.out.size
  have hbl := hK.lt
  have k0 := hK.cell 0
  have k1 := hK.cell 1
  have k2 := hK.cell 2
  have k3 := hK.cell 3
  simp at k0 k1 k2 k3
  have kr2 := cell_later hbx kr
  have HT2 := Lib.hid (HT1.out.below hbx)
  clear kr HT1 hK
  cases ot with
  | none =>
   have HN := Lib.hid (show o = none from HO.out)
   clear hf HO hbx HL HOT
   go_wp2_with fail
   go_ret3
   exact RetV.no HN.out HB.out
  | some q =>
   obtain ⟨f', r'⟩ := q
   obtain ⟨rfl, rfl⟩ := hf _ rfl
   have hfm := (tagR_out HOT.out).2.2.2.1
   have hrl := tagR_len HOT.out
   rw [List.length_drop] at hrl
   clear hf HL
   rcases (show r = [] ∨ (0 < r.length ∧ r.isEmpty = false ∧ (r == []) = false) by cases r with | nil => exact .inl rfl | cons _ _ => exact .inr ⟨by simp, rfl, rfl⟩) with rfl | ⟨hr0, hr1, hr2⟩
   ·have HN := Lib.hid (show o = none by rw [HO.out]; rfl)
    clear HO hbx HOT
    go_wp2_with fail
    go_ret3
    exact RetV.no HN.out HB.out
   by_cases h61 : at_ r 0 = 61
   ·have e1 : (at_ r 0 != 61) = false := by simp [h61]
    have hr3 : (1 : Int) ≤ (r.length : Int) := by omega
    have hko := HKO.out f hfm
    have HC := Lib.hid (fun W (hbw2 : Below wc.heap.size wc W) => HIR.out (r.drop 1) f.kind W (by rw [List.length_drop]; omega) hko (HT2.out.below hbw2) (by have := hbw2.size; omega))
    obtain ⟨o2, ho2⟩ : ∃ o2, rd (r.drop 1) f.kind = o2 := ⟨_, rfl⟩
    rw [ho2, List.drop_one] at HC
    have HO2 := Lib.hid (HO.out.trans (union_read h61 ho2))
    clear HO HIR HKO HOT ho2 h61 hko hfm HT2
    go_upto_region 11 with fail
    go_cut [19, 20, 21] (fun x y z wx => ∃ pv r2, x = .pointer pv ∧ y = .string (S r2) ∧ z = .bool o2.isSome ∧ Read wc o2 pv r2 wx)
    case first =>
     clear HO2 HB
     go_region_held3 (fun w' => w'.cell? ⟨b, 2, none⟩ = some (.string (S f.kind)) ∧ w'.cell? ⟨w.heap.size, 0, none⟩ = some v ∧ Below wc.heap.size wc w')
      (first | (exact ⟨k2, kr2, below_drew (Below.refl _ _)⟩) | (go_split_ands; refine ⟨?_, ?_, ?_⟩; (exact cell_later hb1 (by assumption)); (exact cell_later hb1 (by assumption)); (exact below_trans (by assumption) hb1)))
      (first | (go_at_call 59; go_split_ands; (with_reducible refine (HC.out _ (by assumption)).mono ?_); rintro e w' ⟨pv, r2, rfl, hb1, hx1⟩))
     all_goals
      go_split_ands
      go_wp2_with fail
      go_meet
      exact ⟨pv, r2, rfl, rfl, rfl, Read.of (by assumption) hb1 hx1⟩
    case rest =>
     obtain ⟨pv, r2, rfl, rfl, rfl, hb3, hx3⟩ := hcut
     have HB3 := Lib.hid (below_trans HB.out hb3)
     have j0 := cell_later hb3 k0
     have hbl3 : b < wc.heap.size := by have := hb3.size; omega
     clear HC k0 k1 k2 k3 kr2 hbx
     cases o2 with
     | none =>
      have HN := Lib.hid (show o = none by rw [HO2.out]; rfl)
      clear hx3 HO2
      go_wp2_with fail
      go_ret3
      exact RetV.no HN.out HB3.out
     | some y =>
      obtain ⟨x, r3⟩ := y
      obtain ⟨rfl, p, rfl, hv⟩ := hx3 _ rfl
      have HV := Lib.hid (hv.imp (N' := fun b => w.heap.size ≤ b) (by intro b _ h; have h2 : _ ≤ b := h; have := HB.out.size; omega))
      clear hx3 hv
      rcases (show r2 = [] ∨ (0 < r2.length ∧ r2.isEmpty = false ∧ (r2 == []) = false) by cases r2 with | nil => exact .inl rfl | cons _ _ => exact .inr ⟨by simp, rfl, rfl⟩) with rfl | ⟨hq0, hq1, hq2⟩
      ·have HN := Lib.hid (show o = none by rw [HO2.out]; rfl)
       clear HO2
       go_wp2_with fail
       go_ret3
       exact RetV.no HN.out HB3.out
      by_cases h62 : at_ r2 0 = 62
      ·have e2 : (at_ r2 0 != 62) = false := by simp [h62]
       have hq3 : (1 : Int) ≤ (r2.length : Int) := by omega
       have HN := Lib.hid (show o = some (.mk k [85] [f.tag] [x], r2.drop 1) from HO2.out.trans (if_pos h62))
       clear HO2 h62
       go_wp2_with fail
       go_region
       all_goals
        go_wp2_with fail
        go_ret3
        exact RetV.yes (by simpa using HN.out) (by first | exact below_drew (below_alloc (below_alloc (below_alloc HB3.out _) _) _) | exact below_draws (below_alloc (below_alloc (below_alloc HB3.out _) _) _) _ | (repeat (first | with_reducible exact Below.refl _ _ | with_reducible apply below_drew | with_reducible apply below_draws | with_reducible apply below_alloc | with_reducible apply below_set | (with_reducible refine below_trans ?_ (by assumption)) | (with_reducible refine Below.trans ?_ (by assumption)) | exact Nat.le_refl _ | omega | (simp <;> omega)))) (by first | exact (VAt.union_ HV.out HB3.out.size).belowed (below_drew (Below.refl _ _)) | exact (VAt.union2_ HV.out HB3.out.size).belowed (below_drew (Below.refl _ _)))
      ·have e2 : (at_ r2 0 != 62) = true := by simp [h62]
       have HN := Lib.hid (show o = none from HO2.out.trans (if_neg h62))
       clear HO2 h62
       go_wp2_with fail
       go_ret3
       exact RetV.no HN.out HB3.out
   ·have e1 : (at_ r 0 != 61) = true := by simp [h61]
    have HN := Lib.hid (show o = none from HO.out.trans (if_neg h61))
    clear HO hbx HOT h61
    go_wp2_with fail
    go_ret3
    exact RetV.no HN.out HB.out
end Go.Proofs.YtcjooeklehggaaaGreatDoor
