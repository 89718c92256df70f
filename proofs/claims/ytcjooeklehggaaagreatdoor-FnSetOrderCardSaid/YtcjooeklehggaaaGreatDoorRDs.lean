/- Lemmas of this seat. -/
import Derived.Test.YtcjooeklehggaaaGreatDoorZCs
import Derived.Test.YtcjooeklehggaaaGreatDoorRCs
set_option linter.unusedVariables false
set_option linter.unusedSimpArgs false
set_option maxRecDepth 100000
namespace Go.Proofs.YtcjooeklehggaaaGreatDoor
open Go.ChangeShapes Go.WideShapes Go.ChangeAt Go.RowKit M
section
variable {w w' : World} {B q : Nat} {k t : Bs} {gs : List Int} {l : List V} {ps : List Nat} {a a' : Option Addr} {c c' : Nat}
theorem PP.tag_lit (h : PP w B q k t [] l ps none 0 a' c') (hB : B ≤ w.heap.size) (n : Int) : PP ((w.setCell ⟨q, 2, none⟩ (.slice (some ⟨w.heap.size, 0, none⟩) 1 1)).alloc (.cells #[.int .i64 n] 3)) B q k t [n] l ps (some ⟨w.heap.size, 0, none⟩) 1 a' c' := by
 rw [← World.setCell_alloc_past _ _ _ _ h.blk.lt]
 have h3 : Tgs (w.alloc (.cells #[.int .i64 n] 3)) (fun b => B ≤ b ∨ w.heap.size ≤ b) (.slice (some ⟨w.heap.size, 0, none⟩) ([] ++ [n]).length 1) [n] :=
  ⟨World.ownsRow_lit w #[.int .i64 n] 1 (Nat.zero_le _) (by unfold maxLen; omega) rfl, by intro x hx; injection hx with hx; have : w.heap.size = x := hx; omega⟩
 exact PP.tag h (n := n) (g := w.heap.size) (cap := 1) h3 (grown_of_below (below_alloc (Below.refl _ _) _) _) (.inr rfl) hB
theorem PP.kid_lit (h : PP w B q k t gs [] [] a c none 0) (hB : B ≤ w.heap.size) {x : V} {p L : Nat} (hx : VAt w (fun b => L ≤ b) x p) (hBL : B ≤ L) (ha : ∀ g, (Value.slice a gs.length c).ownBlock = some g → g < L) : PP ((w.setCell ⟨q, 3, none⟩ (.slice (some ⟨w.heap.size, 0, none⟩) 1 1)).alloc (.cells #[vp p] 80)) B q k t gs [x] [p] a c (some ⟨w.heap.size, 0, none⟩) 1 := by
 rw [← World.setCell_alloc_past _ _ _ _ h.blk.lt]
 have h3 : Kids (w.alloc (.cells #[vp p] 80)) (fun b => B ≤ b ∨ w.heap.size ≤ b) (.slice (some ⟨w.heap.size, 0, none⟩) 1 1) [p] :=
  ⟨World.ownsRow_lit w #[vp p] 1 (Nat.zero_le _) (by unfold maxLen; omega) rfl, by intro x hx; injection hx with hx; have : w.heap.size = x := hx; omega⟩
 exact PP.kid h (x := x) (p := p) (L := L) (g := w.heap.size) (cap := 1) hx hBL ha (by intro g e; cases e) h3 (grown_of_below (below_alloc (Below.refl _ _) _) _) (.inr rfl) hB
end
theorem lit_below {w0 : World} {C : Nat} (o : Obj) (hC : C ≤ w0.heap.size) {q : Nat} (hq : C ≤ q) (i : Nat) (u : Value) : Below C w0 ((w0.setCell ⟨q, i, none⟩ u).alloc o) := by
 have h1 : Below C w0 (w0.setCell ⟨q, i, none⟩ u) := (Below.refl C w0).setCell hq u
 refine h1.trans ((below_alloc (Below.refl _ _) o).mono ?_)
 have := h1.size
 omega
section
variable {w0 w : World} {C f g : Nat} {ty : TypeId} {cs : Array Value} (c0 c1 c2 c3 : Value)
theorem set4_below (h : C ≤ f) : Below C w0 ((((w0.setCell ⟨f, 0, none⟩ c0).setCell ⟨f, 1, none⟩ c1).setCell ⟨f, 2, none⟩ c2).setCell ⟨f, 3, none⟩ c3) := ((((Below.refl C w0).setCell h _).setCell h _).setCell h _).setCell h _
theorem set4_far (h : Blk w g ty cs) (hn : g ≠ f) : Blk ((((w.setCell ⟨f, 0, none⟩ c0).setCell ⟨f, 1, none⟩ c1).setCell ⟨f, 2, none⟩ c2).setCell ⟨f, 3, none⟩ c3) g ty cs := (((h.far hn _).far hn _).far hn _).far hn _
theorem set4_own {x0 x1 x2 x3 : Value} (h : Blk w f ty #[x0, x1, x2, x3]) : Blk ((((w.setCell ⟨f, 0, none⟩ c0).setCell ⟨f, 1, none⟩ c1).setCell ⟨f, 2, none⟩ c2).setCell ⟨f, 3, none⟩ c3) f ty #[c0, c1, c2, c3] := by
 have := (((h.set_ 0 c0).set_ 1 c1).set_ 2 c2).set_ 3 c3
 simpa using this
end
theorem field_at {t : Ty} (hgt : GoodT t) (ha : Asc t.fields) (j : Nat) (hj : j < t.fields.length) : fieldM t t.fields[j].tag = some t.fields[j] ∧ 0 ≤ t.fields[j].tag ∧ t.fields[j].tag ≤ 200 := by
 have := hgt.2.2.2.2 _ (List.getElem_mem hj)
 have h1 := this.1
 have h2 := this.2.1
 exact ⟨asc_find ha j hj, by omega, by omega⟩
section
variable {v : Value} {tps : List (Ty × Value)} {B0 B b : Nat} {ao : Option Addr} {len cap : Nat} {p d D : Int} {L : Nat} {k : Bs} {t : Ty} {w : World}
def Typed (B0 b : Nat) (k : Bs) (t : Ty) (g c q : Nat) (w1 wx : World) : Prop :=
 w1.heap.size < q ∧ Blk wx w1.heap.size 61 #[.int .u8 t.sort, .string (S t.name), .slice (some ⟨g, 0, none⟩) t.fields.length c] ∧ PP wx (q + 1) q k [B8 t.sort] [] [] [] none 0 none 0 ∧ Flds wx B0 (.slice (some ⟨g, 0, none⟩) t.fields.length c) t.fields ∧ Below w1.heap.size w1 wx
set_option maxHeartbeats 4000000 in
theorem d_typed_E (h64 : at_ k 0 = 64) (hko : kOk k = true) (hr : refT (tps.map (·.1)) k = some t) (hgt : GoodT t) (ha : Asc t.fields) (h69 : t.sort = 69) (h : Rdr B w b ao len cap p) (h1 : p ≤ 890000) (hT : Tys w B0 v tps) (hl8 : tps.length ≤ 8) (hbB : b < B0) (hB : B0 ≤ w.heap.size) :
  Calls Tryz.prog 108 #[.pointer (some ⟨b, 0, none⟩), v, .string (S k), .int .i64 d] w (DrawV (tps.map (·.1)) k B b ao len cap p 1 4 w) := by
 have H := Lib.hid h
 have hlt := h.lt
 have hne : t.fields ≠ [] := hgt.2.2.2.1 (by omega)
 have hpos : 0 < t.fields.length := List.length_pos_iff.2 hne
 have hn8 : t.fields.length ≤ 8 := hgt.2.2.1
 have HD := Lib.hid (fun (j : Nat) (hj : j < t.fields.length) => draw_enum (X := tps.map (·.1)) hko h64 hr h69 (field_at hgt ha j hj).1 (field_at hgt ha j hj).2)
 have HRF := Lib.hid (k_ref v tps B0 k w hT (by omega) hB hko)
 rw [hr] at HRF
 have e1 : (t.sort == 69) = true := by simp [h69]
 have HB8 := Lib.hid (show [B8 t.sort] = [69] by rw [h69]; rfl)
 clear h hr hgt ha h69 h64 hko hT hl8
 go_enter Tryz.func108, Tryz.ntmps108
 go_wp2_with fail
 refine HRF.out.mono ?_
 rintro e w1 ⟨t', u, rfl, ht, hF, hb⟩
 obtain rfl : t' = t := ht _ rfl
 obtain ⟨a, c, rfl, -, hfo⟩ := hF.form
 obtain ⟨g, rfl, hgB, hgw⟩ : ∃ g, a = some ⟨g, 0, none⟩ ∧ B0 ≤ g ∧ g < w1.heap.size := by
  rcases hfo with ⟨_, h0⟩ | h0
  ·exact absurd h0 hne
  ·exact h0
 have HF := Lib.hid hF
 have HB1 := Lib.hid hb
 have hbz := hb.size
 clear hF hfo ht hne HRF
 unfold tv
 go_upto_region 2 with fail
 go_cut [11] (fun z wx => ∃ q, z = vp q ∧ Typed B0 b k t' g c q w1 wx)
 case first =>
  have KT := Lib.hid (fun o1 o2 => ((Blk.new w1 61 #[.int .u8 t'.sort, .string (S t'.name), .slice (some ⟨g, 0, none⟩) t'.fields.length c]).alloc o1).alloc o2)
  have KV := Lib.hid (fun o1 o2 => Blk.new ((w1.alloc o1).alloc o2) 133 #[.string (S k), .string (S [B8 t'.sort]), .slice none 0 0, .slice none 0 0])
  have hc := conv1
  have hc1 := cellIs_some
  have hc2 := cellB_some
  go_wp2_with fail
  go_meet
  refine ⟨_, rfl, by omega, KT.out _ _, ?_, HF.out.below (below_alloc (below_alloc (below_alloc (Below.refl _ _) _) _) _), below_alloc (below_alloc (below_alloc (Below.refl _ _) _) _) _⟩
  refine PP.start _ (by omega) ?_
  have := KV.out (.cells #[.int .u8 t'.sort, .string (S t'.name), .slice (some ⟨g, 0, none⟩) t'.fields.length c] 61) (.cells #[.int .u8 t'.sort] 5)
  rw [World.size_alloc, World.size_alloc] at this
  exact this
 case rest =>
  obtain ⟨q, rfl, hq, hK, hP, hFx, hbx⟩ := hcut
  have t0 := hK.cell 0
  have t2 := hK.cell 2
  simp at t0 t2
  have HP := Lib.hid hP
  have HFx := Lib.hid hFx
  have n1 : ¬ w1.heap.size = b := by omega
  have n2 : ¬ q = b := by omega
  have n3 : ¬ g = b := by omega
  have hxz := hbx.size
  obtain ⟨hqx, p2, -, f2, -, -, -⟩ := hP.cells
  have HG := Lib.hid (only_beh (only_beh (World.grownBy.refl w (some b)) hb) hbx)
  have HQ := Lib.hid (fun W (hbw : Below wc.heap.size wc W) => ((H.out.below hb).below hbx).below hbw)
  have HPw := Lib.hid (fun W (hbw : Below wc.heap.size wc W) => hP.belowed hbw)
  have HGw := Lib.hid (fun W (hbw : Below wc.heap.size wc W) => only_beh HG.out hbw)
  clear hK hP hFx hbx hb HB1 HF
  go_upto_region 5 with fail
  go_region_law (go_simp; go_at_call 32; ((with_reducible refine (pick_g (HQ.out _ (by repeat (with_reducible first | exact Below.refl _ _ | apply below_drew | apply below_alloc))) (by omega) _ (by omega) (by omega)).mono ?_); rintro e w3 ⟨m, rfl, m0, m1, HR3, -, hc3, hf3, hg3⟩; obtain ⟨j, rfl⟩ := Int.eq_ofNat_of_zero_le m0; have hj : j < t'.fields.length := (by omega); have x0 := HFx.out.cell j 0 hj (by omega); have x1 : wc.cell? ⟨g, j * 4, none⟩ = some (.int .i64 t'.fields[j].tag) := x0; have HP3 := Lib.hid ((HPw.out _ (by repeat (with_reducible first | exact Below.refl _ _ | apply below_drew | apply below_alloc))).rowed hg3.out (by omega)); have HG3 := Lib.hid (only_trans (HGw.out _ (by repeat (with_reducible first | exact Below.refl _ _ | apply below_drew | apply below_alloc))) hg3.out); obtain ⟨hq3, -, -, -, -, -, -⟩ := HP3.out.cells))
  all_goals
   go_wp2_with fail
   go_ret
   have hz3 := HG3.out.size
   refine DrawV.mk_ (HD.out j hj) rfl (Nat.le_refl _) ?_ (by omega) (by omega) (HR3.out.aside (lit_below (C := w.heap.size) _ (by omega) (by omega) _ _) hlt) (only_up HG3.out (lit_below (C := w.heap.size) _ (by omega) (by omega) _ _) (Nat.le_refl _))
   have := (HP3.out.tag_lit (by omega) t'.fields[j].tag).done (B' := w.heap.size) (by omega)
   rw [HB8.out] at this
   exact this
end
end Go.Proofs.YtcjooeklehggaaaGreatDoor
