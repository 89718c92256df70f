/- Lemmas of this seat. -/
import Derived.Test.YtcjooeklehggaaaGreatDoorYDs
set_option linter.unusedVariables false
set_option linter.unusedSimpArgs false
set_option maxRecDepth 100000
namespace Go.Proofs.YtcjooeklehggaaaGreatDoor
open Go.ChangeShapes Go.WideShapes Go.ChangeAt Go.RowKit M
def enumO (k : Bs) : Option (Fl × Bs) → Option (V × Bs) | none => none | some y => some (.mk k [69] [y.1.tag] [], y.2)
theorem enumR_O (t : Ty) (k s : Bs) : enumR t k s = enumO k (tagR s t) := by unfold enumR enumO; cases tagR s t <;> rfl
set_option maxHeartbeats 4000000 in
theorem k_nm_no (v : Value) (tps : List (Ty × Value)) (B d : Nat) (hl8 : tps.length ≤ 8) (t : Ty) (s k : Bs) (w : World) (hs : s.length ≤ 1500000) (hs0 : 0 < s.length) (hk : kOk k = true) (hr : refT (tps.map (·.1)) k = some t) (hT : Tys w B v tps) (hB : B ≤ w.heap.size)
  (hw : (t.sort = 82 ∧ at_ s 0 ≠ 123) ∨ (t.sort = 69 ∧ at_ s 0 ≠ 35) ∨ (t.sort = 85 ∧ at_ s 0 ≠ 60)) (o : Option (V × Bs)) (ho : o = none) :
  Calls Tryz.prog 85 #[rv v, .string (S s), .string (S k), .int .i64 ((d : Int) + 1)] w (RetV w o) := by
 have HC := Lib.hid (fun w hT hB => k_ref v tps B k w hT (by omega) hB hk)
 rw [hr] at HC
 have HT := Lib.hid hT
 have HO := Lib.hid ho
 clear hT hr hk ho
 unfold rv
 go_enter Tryz.func85, Tryz.ntmps85
 go_wp2_with fail
 refine (HC.out _ (HT.out.below (below_alloc (Below.refl _ _) _)) (by simp; omega)).mono ?_
 rintro e w1 ⟨t', u, rfl, ht, hF, hb⟩
 obtain rfl : t' = t := ht _ rfl
 obtain ⟨a, c, rfl, -, -⟩ := hF.form
 have hbw : Below w.heap.size w w1 := below_trans (below_alloc (Below.refl _ _) _) hb
 clear hb hF ht HT HC
 unfold tv
 rcases hw with ⟨h1, h2⟩ | ⟨h1, h2⟩ | ⟨h1, h2⟩
 ·have b1 : (at_ s 0 == 123) = false := by simp [h2]
  rw [h1]
  clear h1 h2
  go_wp2_with fail
  go_ret3
  exact RetV.no HO.out (by (repeat (first | with_reducible exact Below.refl _ _ | with_reducible apply below_drew | with_reducible apply below_draws | with_reducible apply below_alloc | with_reducible apply below_set | (with_reducible refine below_trans ?_ (by assumption)) | (with_reducible refine Below.trans ?_ (by assumption)) | exact Nat.le_refl _ | omega | (simp <;> omega))))
 ·have b1 : (at_ s 0 == 35) = false := by simp [h2]
  rw [h1]
  clear h1 h2
  go_wp2_with fail
  go_ret3
  exact RetV.no HO.out (by (repeat (first | with_reducible exact Below.refl _ _ | with_reducible apply below_drew | with_reducible apply below_draws | with_reducible apply below_alloc | with_reducible apply below_set | (with_reducible refine below_trans ?_ (by assumption)) | (with_reducible refine Below.trans ?_ (by assumption)) | exact Nat.le_refl _ | omega | (simp <;> omega))))
 ·have b1 : (at_ s 0 == 60) = false := by simp [h2]
  rw [h1]
  clear h1 h2
  go_wp2_with fail
  go_ret3
  exact RetV.no HO.out (by (repeat (first | with_reducible exact Below.refl _ _ | with_reducible apply below_drew | with_reducible apply below_draws | with_reducible apply below_alloc | with_reducible apply below_set | (with_reducible refine below_trans ?_ (by assumption)) | (with_reducible refine Below.trans ?_ (by assumption)) | exact Nat.le_refl _ | omega | (simp <;> omega))))
theorem VAt.enum_ {W : World} {N : Nat → Prop} {k : Bs} {g : Int} (h1 : N W.heap.size) (h2 : N (W.heap.size + 1)) :
  VAt ((W.alloc (.cells #[.int .i64 g] 3)).alloc (.cells #[.string (S k), .string (S [69]), .slice (some ⟨W.heap.size, 0, none⟩) 1 1, .slice none 0 0] 133)) N (.mk k [69] [g] []) (W.heap.size + 1) := by
 have hB := Blk.new (W.alloc (.cells #[.int .i64 g] 3)) 133 #[.string (S k), .string (S [69]), .slice (some ⟨W.heap.size, 0, none⟩) 1 1, .slice none 0 0]
 rw [World.size_alloc] at hB
 refine .make (ps := []) h2 hB ?_ (Kids.nil_ _ _) (Many.nil_ _ _)
 have h3 : Tgs (W.alloc (.cells #[.int .i64 g] 3)) N (.slice (some ⟨W.heap.size, 0, none⟩) 1 1) [g] :=
  ⟨World.ownsRow_lit W #[.int .i64 g] 1 (Nat.zero_le _) (by unfold maxLen; omega) rfl, by intro q hq; injection hq with hq; have : W.heap.size = q := hq; rw [← this]; exact h1⟩
 exact h3.rowed (grown_of_below (below_alloc (Below.refl _ _) _) none) (by intro r e; cases e)
set_option maxHeartbeats 4000000 in
theorem k_nm_enum (v : Value) (tps : List (Ty × Value)) (B d : Nat) (hl8 : tps.length ≤ 8) (t : Ty) (hgt : GoodT t) (s k : Bs) (w : World) (hs : s.length ≤ 1500000) (hs0 : 0 < s.length) (hk : kOk k = true) (hr : refT (tps.map (·.1)) k = some t) (hT : Tys w B v tps) (hB : B ≤ w.heap.size)
  (h69 : t.sort = 69) (h35 : at_ s 0 = 35) (o : Option (V × Bs)) (ho : o = enumR t k (s.drop 1)) :
  Calls Tryz.prog 85 #[rv v, .string (S s), .string (S k), .int .i64 ((d : Int) + 1)] w (RetV w o) := by
 have HC := Lib.hid (fun w hT hB => k_ref v tps B k w hT (by omega) hB hk)
 rw [hr] at HC
 have HT := Lib.hid hT
 obtain ⟨ot, hot⟩ : ∃ ot, tagR (s.drop 1) t = ot := ⟨_, rfl⟩
 have HO := Lib.hid (show o = enumO k ot by rw [ho, enumR_O, hot])
 have HR := Lib.hid (fun a c W (h4 : Flds W B (.slice a t.fields.length c) t.fields) => k_tag v t a c B (s.drop 1) W (by rw [List.length_drop]; omega) h4 (by have := hgt.2.2.1; omega))
 rw [hot, List.drop_one] at HR
 have b0 : (at_ s 0 == 123) = false := by simp [h35]
 have b2 : (at_ s 0 == 35) = true := by simp [h35]
 have hs1 : (1 : Int) ≤ (s.length : Int) := by omega
 clear hT hr hk ho hot hgt h35
 unfold rv tv at *
 go_enter Tryz.func85, Tryz.ntmps85
 go_wp2_with fail
 refine (HC.out _ (HT.out.below (below_alloc (Below.refl _ _) _)) (by simp; omega)).mono ?_
 rintro e w1 ⟨t', u, rfl, ht, hF, hb⟩
 obtain rfl : t' = t := ht _ rfl
 obtain ⟨a, c, rfl, -, -⟩ := hF.form
 have hbw : Below w.heap.size w w1 := below_trans (below_alloc (Below.refl _ _) _) hb
 have kr := cell_later hb (show (w.alloc (.cells #[v] 99)).cell? ⟨w.heap.size, 0, none⟩ = some v by simp [go_sem])
 have HL := Lib.hid (fun W (hbw2 : Below w1.heap.size w1 W) => HR.out a c W (hF.below hbw2))
 have hww : w.heap.size < w1.heap.size := by have := hb.size; simp at this; omega
 clear hb hF ht HR HT HC
 unfold tv
 rw [h69] at HL ⊢
 clear h69
 obtain ⟨n', hn'⟩ : ∃ n', t'.name = n' := ⟨_, rfl⟩
 obtain ⟨fl, hfl⟩ : ∃ fl, t'.fields.length = fl := ⟨_, rfl⟩
 rw [hn', hfl] at HL ⊢
 clear hn' hfl
 go_upto_region 5 with fail
 go_cut [13, 14, 15] (fun x y z wx => ∃ (f : Fl) (r : Bs) (b : Nat), x = vp b ∧ y = .string (S r) ∧ z = .bool ot.isSome ∧ Blk wx b 65 #[.int .i64 f.tag, .string (S f.name), .string (S f.kind), .string (S f.stand)] ∧ (∀ q, ot = some q → f = q.1 ∧ r = q.2) ∧ Below w1.heap.size w1 wx ∧ w1.heap.size ≤ b)
 case first =>
  clear HO hl8 hs hB hs0
  go_region_with (go_at_call 110; (with_reducible refine (HL.out _ (by repeat (with_reducible first | exact Below.refl _ _ | apply below_drew | apply below_alloc))).mono ?_); rintro e w' ⟨f, r, rfl, hf, hb⟩; obtain ⟨hce, hfr⟩ := bcell hb; unfold fv)
  all_goals
   clear HL
   go_wp2_with fail
   go_meet
   refine ⟨f, r, _, rfl, rfl, rfl, ?_, hf, ?_, ?_⟩
   ·first | (with_reducible exact Blk.new _ _ _) | (have KN := Blk.keep ((Blk.new (w1.alloc (.cells #[.int .u8 69, .string (S n'), .slice a fl c] 61)) 65 _).drew) hb; rw [World.size_alloc] at KN; exact fld_sets KN)
   ·first | (with_reducible exact below_alloc (below_trans (below_drew (below_alloc (Below.refl _ _) _)) hb) _) | (exact below_set (below_set (below_set (below_set (below_trans (below_drew (below_alloc (below_alloc (Below.refl _ _) _) _)) hb) (Nat.le_succ _) _) (Nat.le_succ _) _) (Nat.le_succ _) _) (Nat.le_succ _) _)
   ·first | (exact Nat.le_succ _) | (clear hce hfr; have := hb.size; simp at this; omega)
 case rest =>
  obtain ⟨f, r, b, rfl, rfl, rfl, hK, hf, hbx, hbb⟩ := hcut
  have HB := Lib.hid (below_trans hbw hbx)
  have hz := HB.out.size
  have k0 := hK.cell 0
  simp at k0
  cases ot with
  | none =>
   have HN := Lib.hid (show o = none from HO.out)
   clear hf HO hK hbx HL
   go_wp2_with fail
   go_ret3
   exact RetV.no HN.out (below_alloc (below_alloc HB.out _) _)
  | some q =>
   obtain ⟨e1, e2⟩ := hf q rfl
   have HN := Lib.hid (show o = some (.mk k [69] [f.tag] [], r) by rw [HO.out, e1, e2]; rfl)
   clear hf HO hK hbx HL e1 e2
   go_wp2_with fail
   go_ret3
   exact RetV.yes HN.out (below_alloc (below_alloc HB.out _) _) (VAt.enum_ (by show w.heap.size ≤ _; omega) (by show w.heap.size ≤ _; omega))
end Go.Proofs.YtcjooeklehggaaaGreatDoor
