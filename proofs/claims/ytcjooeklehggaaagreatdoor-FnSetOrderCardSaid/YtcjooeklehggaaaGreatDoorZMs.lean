/- Lemmas of this seat. -/
import Derived.Test.YtcjooeklehggaaaGreatDoorZLs
set_option linter.unusedVariables false
set_option linter.unusedSimpArgs false
set_option maxRecDepth 100000
namespace Go.Proofs.YtcjooeklehggaaaGreatDoor
open Go.ChangeShapes Go.WideShapes Go.ChangeAt Go.RowKit M
theorem only_drew {a w : World} {row : Option Nat} (h : a.grownBy w row) : a.grownBy w.drew row := ⟨h.os, h.tape, h.output, h.size, h.block⟩
set_option maxHeartbeats 8000000 in
theorem l91Schema {B : Nat} {w : World} {b : Nat} {ao : Option Addr} {len cap : Nat} {p : Int} (h : Rdr B w b ao len cap p) (h1 : p ≤ 600000) :
  Calls Tryz.prog 30 #[.pointer (some ⟨b, 0, none⟩)] w (DrawS B b ao len cap p 300 1000 w) := by
 have H := Lib.hid h
 have hlt := h.lt
 clear h
 have n0 : ¬ w.heap.size = b := by omega
 have HT := Lib.hid (fun (w : World) (p : Int) (so nm : Bs) (hso : so = [82] ∨ so = [85] ∨ so = [69]) (hnm : nm.length ≤ 1) (h : Rdr B w b ao len cap p) (h1 : p ≤ 700000) => l91Type (B := B) (w := w) (b := b) (ao := ao) (len := len) (cap := cap) (p := p) so nm hso hnm h h1)
 go_enter Tryz.func30, Tryz.ntmps30
 go_wp2_with fail
 refine (HT.out _ p [82] [97] (.inl rfl) (by simp) H.out (by omega)).mono ?_
 rintro e w1 ⟨s1, p1, rfl, hl1, hn1, hp1, hp1', HR1, hg1⟩
 have HG1 := Lib.hid hg1
 have hlt1 := HR1.out.lt
 have m1 : ¬ w1.heap.size = b := by omega
 clear hg1
 go_wp2_with fail
 refine (pick_g (HR1.out.below (by (repeat (first | exact Below.refl _ _ | apply below_drew | apply below_draws | apply below_alloc | (refine below_trans ?_ (by assumption)) | (refine Below.trans ?_ (by assumption)))))) (by omega) _ (by omega) (by omega)).mono ?_
 rintro e w2 ⟨v, rfl, v0, v1, HR2, hz2, hc2, hf2, hg2⟩
 have HG2 := Lib.hid (only_trans (only_alloc HG1.out _) hg2.out)
 obtain ⟨x, hx, hx'⟩ := idxS [[82], [85], [85], [69]] v v0 v1
 have hx2 : ∀ h, ([.string { data := #[82] }, .string { data := #[85] }, .string { data := #[85] }, .string { data := #[69] }] : List Value)[v.toNat]'h = .string (S x) := hx'
 have hxs : x = [82] ∨ x = [85] ∨ x = [69] := by simp at hx; rcases hx with rfl | rfl | rfl <;> simp
 have HXS := Lib.hid hxs
 clear hx hx' hxs hg2
 go_wp2_with fail
 clear hc2 hf2 hz2 hx2
 refine (HT.out _ (p1 + 1) x [98] HXS.out (by simp) HR2.out (by omega)).mono ?_
 rintro e w3 ⟨s3, p3, rfl, hl3, hn3, hp3, hp3', HR3, hg3⟩
 have HG3 := Lib.hid (only_trans HG2.out hg3)
 have hlt3 := HR3.out.lt
 have m3 : ¬ w3.heap.size = b := by omega
 have hcat1 := cat_run s1 s3 (by omega)
 obtain ⟨s4, hs4⟩ : ∃ s4 : Bs, s1 ++ s3 = s4 := ⟨_, rfl⟩
 have hl4 : s4.length ≤ 600 := by rw [← hs4]; simp; omega
 rw [hs4] at hcat1
 clear hg3 hs4
 go_wp2_with fail
 clear hcat1
 refine (pick_g (HR3.out.below (by (repeat (first | exact Below.refl _ _ | apply below_drew | apply below_draws | apply below_alloc | (refine below_trans ?_ (by assumption)) | (refine Below.trans ?_ (by assumption)))))) (by omega) _ (by omega) (by omega)).mono ?_
 rintro e w5 ⟨u, rfl, u0, u1, HR5, hz5, hc5, hf5, hg5⟩
 have HG5 := Lib.hid (only_trans (only_alloc HG3.out _) hg5.out)
 obtain ⟨y, hy, hy'⟩ := idxS [[82], [69], [85]] u u0 u1
 have hy2 : ∀ h, ([.string { data := #[82] }, .string { data := #[69] }, .string { data := #[85] }] : List Value)[u.toNat]'h = .string (S y) := hy'
 have hys : y = [82] ∨ y = [85] ∨ y = [69] := by simp at hy; rcases hy with rfl | rfl | rfl <;> simp
 have HYS := Lib.hid hys
 clear hy hy' hys hg5
 go_wp2_with fail
 clear hc5 hf5 hz5 hy2
 refine (HT.out _ (p3 + 1) y [99] HYS.out (by simp) HR5.out (by omega)).mono ?_
 rintro e w6 ⟨s6, p6, rfl, hl6, hn6, hp6, hp6', HR6, hg6⟩
 have HG6 := Lib.hid (only_trans HG5.out hg6)
 have hlt6 := HR6.out.lt
 have hcat2 := cat_run s4 s6 (by omega)
 obtain ⟨s7, hs7⟩ : ∃ s7 : Bs, s4 ++ s6 = s7 := ⟨_, rfl⟩
 have hl7 : s7.length ≤ 900 ∧ 1 ≤ s7.length := by rw [← hs7]; simp; omega
 rw [hs7] at hcat2
 have HK := Lib.hid (fun w => k_SchemaOk s7 w (by omega))
 obtain ⟨ok, hok⟩ : ∃ ok, (ofS s7).isSome = ok := ⟨_, rfl⟩
 rw [hok] at HK
 clear hg6 hs7 hok
 go_wp2_with fail
 refine (HK.out _).mono ?_
 rintro e w7 ⟨rfl, hb7⟩
 have HR7 := Lib.hid (HR6.out.below hb7)
 have HG7 := Lib.hid (only_below HG6.out hb7)
 clear hb7 hcat2 HK
 cases ok with
 | true =>
  go_wp2_with fail
  refine (pick_g HR7.out (by omega) _ (by omega) (by omega)).mono ?_
  rintro e wa ⟨t, rfl, t0, t1, HRa, hza, hca, hfa, hga⟩
  have HGa := Lib.hid (only_trans HG7.out hga.out)
  clear hca hfa hga hza
  by_cases ht : t = 0
  case neg =>
   have ht' : (t == 0) = false := by simp [ht]
   clear ht
   go_wp2_with fail
   go_ret
   exact ⟨_, p6 + 1, rfl, by omega, by omega, by omega, HRa, HGa.out⟩
  subst ht
  have hnb : 1 ≤ s7.length ∧ s7.length ≤ 900 := by (first | omega | (simp; done))
  go_wp2_with fail
  refine (pick_g HRa (by omega) _ (by omega) (by omega)).mono ?_
  rintro e wb ⟨k, rfl, k0, k1, HRb, hzb, hcb, hfb, hgb⟩
  have HGb := Lib.hid (only_trans HGa.out hgb.out)
  clear hcb hfb hgb hzb
  have hltb := HRb.out.lt
  have nb : ¬ wb.heap.size = b := by omega
  have hle : k + 1 ≤ (s7.length : Int) := by omega
  have hkk : k.toNat < s7.length := by omega
  have hk2 : (k + 1).toNat ≤ s7.length := by omega
  have hlk : (s7.take k.toNat).length ≤ 900 := by simp; omega
  have hld : (s7.drop (k + 1).toNat).length ≤ 900 := by simp; omega
  have ew : IntKind.i64.wrap (k + 1) = k + 1 := IntWalk.i64_in _ (by omega)
  have hcx := fun (y : Bs) (hy : y.length ≤ 1) => cat_run (s7.take k.toNat) y (by simp; omega)
  have hcy := fun (y : Bs) (hy : y.length ≤ 1) => cat_run (s7.take k.toNat ++ y) (s7.drop (k + 1).toNat) (by simp; omega)
  go_wp2_with fail
  clear HT HG1 HG2 HG3 HG5 HG6 HG7 HGa HR1 HR2 HR3 HR5 HR6 HR7 HRa HXS HYS hlt hlt1 hlt3 hlt6 n0 m1 m3 hl1 hl3 hl4 hl6 hl7 hn1 hn3 hn6 H
  have k2 : 0 ≤ k + 1 := by omega
  go_region_with (go_at_call 32; ((with_reducible refine (pick_g (HRb.out.below (by repeat (with_reducible first | exact Below.refl _ _ | apply below_drew | apply below_alloc))) (by omega) _ (by omega) (by omega)).mono ?_); rintro e w' ⟨z, rfl, z0, z1, HRc, hzc, hcc, hfc, hgc⟩; (obtain ⟨y, hy, hy'⟩ := idxS [[], [44], [58], [49], [10]] z z0 z1); (have hy2 : ∀ h, ([.string { data := #[] }, .string { data := #[44] }, .string { data := #[58] }, .string { data := #[49] }, .string { data := #[10] }] : List Value)[z.toNat]'h = .string (S y) := hy'); (have hyl : y.length ≤ 1 := by (simp at hy; rcases hy with rfl | rfl | rfl | rfl | rfl <;> simp)); have h1 := hcx y hyl; have h2 := hcy y hyl; clear hy hy'))
  all_goals
   go_wp2_with fail
   go_ret
   exact ⟨_, p6 + 1 + 1 + 1, rfl, by simp; omega, by omega, by omega, (by first | exact HRc | exact Rdr.below HRc.out (below_alloc (Below.refl _ _) _)), (by repeat (first | exact HGb.out | with_reducible refine only_trans ?_ hgc.out | with_reducible apply only_drew | with_reducible apply only_alloc))⟩
 | false =>
  go_wp2_with fail
  refine (pick_g HR7.out (by omega) _ (by omega) (by omega)).mono ?_
  rintro e w8 ⟨q, rfl, q0, q1, HR8, hz8, hc8, hf8, hg8⟩
  have HG8 := Lib.hid (only_trans HG7.out hg8.out)
  clear hc8 hf8 hg8 hz8
  by_cases hq : 0 < q
  ·go_wp2_with fail
   obtain ⟨s8, hs8, hl8⟩ : ∃ s8 : Bs, (ByteArray.mk #[82, 97, 61, 49, 58, 112, 58, 110, 61, 53, 44, 50, 58, 113, 58, 91, 116, 44, 52, 58, 114, 58, 63, 64, 97, 59, 44, 53, 58, 115, 58, 64, 98, 59, 10, 85, 98, 61, 49, 58, 112, 58, 110, 44, 51, 58, 113, 58, 64, 97, 59, 10, 69, 99, 61, 49, 58, 112, 44, 50, 58, 113, 10]) = S s8 ∧ (s8.length ≤ 900 ∧ 1 ≤ s8.length) := ⟨[82, 97, 61, 49, 58, 112, 58, 110, 61, 53, 44, 50, 58, 113, 58, 91, 116, 44, 52, 58, 114, 58, 63, 64, 97, 59, 44, 53, 58, 115, 58, 64, 98, 59, 10, 85, 98, 61, 49, 58, 112, 58, 110, 44, 51, 58, 113, 58, 64, 97, 59, 10, 69, 99, 61, 49, 58, 112, 44, 50, 58, 113, 10], rfl, by decide⟩
   rw [hs8]
   clear hs8 hq
   refine (pick_g HR8 (by omega) _ (by omega) (by omega)).mono ?_
   rintro e wa ⟨t, rfl, t0, t1, HRa, hza, hca, hfa, hga⟩
   have HGa := Lib.hid (only_trans HG8.out hga.out)
   clear hca hfa hga hza
   by_cases ht : t = 0
   case neg =>
    have ht' : (t == 0) = false := by simp [ht]
    clear ht
    go_wp2_with fail
    go_ret
    exact ⟨_, (p6 + 1) + 1, rfl, by omega, by omega, by omega, HRa, HGa.out⟩
   subst ht
   have hnb : 1 ≤ s8.length ∧ s8.length ≤ 900 := by (first | omega | (simp; done))
   go_wp2_with fail
   refine (pick_g HRa (by omega) _ (by omega) (by omega)).mono ?_
   rintro e wb ⟨k, rfl, k0, k1, HRb, hzb, hcb, hfb, hgb⟩
   have HGb := Lib.hid (only_trans HGa.out hgb.out)
   clear hcb hfb hgb hzb
   have hltb := HRb.out.lt
   have nb : ¬ wb.heap.size = b := by omega
   have hle : k + 1 ≤ (s8.length : Int) := by omega
   have hkk : k.toNat < s8.length := by omega
   have hk2 : (k + 1).toNat ≤ s8.length := by omega
   have hlk : (s8.take k.toNat).length ≤ 900 := by simp; omega
   have hld : (s8.drop (k + 1).toNat).length ≤ 900 := by simp; omega
   have ew : IntKind.i64.wrap (k + 1) = k + 1 := IntWalk.i64_in _ (by omega)
   have hcx := fun (y : Bs) (hy : y.length ≤ 1) => cat_run (s8.take k.toNat) y (by simp; omega)
   have hcy := fun (y : Bs) (hy : y.length ≤ 1) => cat_run (s8.take k.toNat ++ y) (s8.drop (k + 1).toNat) (by simp; omega)
   go_wp2_with fail
   clear HT HG1 HG2 HG3 HG5 HG6 HG7 HGa HR1 HR2 HR3 HR5 HR6 HR7 HRa HXS HYS hlt hlt1 hlt3 hlt6 n0 m1 m3 hl1 hl3 hl4 hl6 hl7 hn1 hn3 hn6 H
   have k2 : 0 ≤ k + 1 := by omega
   go_region_with (go_at_call 32; ((with_reducible refine (pick_g (HRb.out.below (by repeat (with_reducible first | exact Below.refl _ _ | apply below_drew | apply below_alloc))) (by omega) _ (by omega) (by omega)).mono ?_); rintro e w' ⟨z, rfl, z0, z1, HRc, hzc, hcc, hfc, hgc⟩; (obtain ⟨y, hy, hy'⟩ := idxS [[], [44], [58], [49], [10]] z z0 z1); (have hy2 : ∀ h, ([.string { data := #[] }, .string { data := #[44] }, .string { data := #[58] }, .string { data := #[49] }, .string { data := #[10] }] : List Value)[z.toNat]'h = .string (S y) := hy'); (have hyl : y.length ≤ 1 := by (simp at hy; rcases hy with rfl | rfl | rfl | rfl | rfl <;> simp)); have h1 := hcx y hyl; have h2 := hcy y hyl; clear hy hy'))
   all_goals
    go_wp2_with fail
    go_ret
    exact ⟨_, (p6 + 1) + 1 + 1 + 1, rfl, by simp; omega, by omega, by omega, (by first | exact HRc | exact Rdr.below HRc.out (below_alloc (Below.refl _ _) _)), (by repeat (first | exact HGb.out | with_reducible refine only_trans ?_ hgc.out | with_reducible apply only_drew | with_reducible apply only_alloc))⟩
  ·obtain rfl : q = 0 := by omega
   clear hq
   go_wp2_with fail
   refine (pick_g HR8 (by omega) _ (by omega) (by omega)).mono ?_
   rintro e wa ⟨t, rfl, t0, t1, HRa, hza, hca, hfa, hga⟩
   have HGa := Lib.hid (only_trans HG8.out hga.out)
   clear hca hfa hga hza
   by_cases ht : t = 0
   case neg =>
    have ht' : (t == 0) = false := by simp [ht]
    clear ht
    go_wp2_with fail
    go_ret
    exact ⟨_, (p6 + 1) + 1, rfl, by omega, by omega, by omega, HRa, HGa.out⟩
   subst ht
   have hnb : 1 ≤ s7.length ∧ s7.length ≤ 900 := by (first | omega | (simp; done))
   go_wp2_with fail
   refine (pick_g HRa (by omega) _ (by omega) (by omega)).mono ?_
   rintro e wb ⟨k, rfl, k0, k1, HRb, hzb, hcb, hfb, hgb⟩
   have HGb := Lib.hid (only_trans HGa.out hgb.out)
   clear hcb hfb hgb hzb
   have hltb := HRb.out.lt
   have nb : ¬ wb.heap.size = b := by omega
   have hle : k + 1 ≤ (s7.length : Int) := by omega
   have hkk : k.toNat < s7.length := by omega
   have hk2 : (k + 1).toNat ≤ s7.length := by omega
   have hlk : (s7.take k.toNat).length ≤ 900 := by simp; omega
   have hld : (s7.drop (k + 1).toNat).length ≤ 900 := by simp; omega
   have ew : IntKind.i64.wrap (k + 1) = k + 1 := IntWalk.i64_in _ (by omega)
   have hcx := fun (y : Bs) (hy : y.length ≤ 1) => cat_run (s7.take k.toNat) y (by simp; omega)
   have hcy := fun (y : Bs) (hy : y.length ≤ 1) => cat_run (s7.take k.toNat ++ y) (s7.drop (k + 1).toNat) (by simp; omega)
   go_wp2_with fail
   clear HT HG1 HG2 HG3 HG5 HG6 HG7 HGa HR1 HR2 HR3 HR5 HR6 HR7 HRa HXS HYS hlt hlt1 hlt3 hlt6 n0 m1 m3 hl1 hl3 hl4 hl6 hl7 hn1 hn3 hn6 H
   have k2 : 0 ≤ k + 1 := by omega
   go_region_with (go_at_call 32; ((with_reducible refine (pick_g (HRb.out.below (by repeat (with_reducible first | exact Below.refl _ _ | apply below_drew | apply below_alloc))) (by omega) _ (by omega) (by omega)).mono ?_); rintro e w' ⟨z, rfl, z0, z1, HRc, hzc, hcc, hfc, hgc⟩; (obtain ⟨y, hy, hy'⟩ := idxS [[], [44], [58], [49], [10]] z z0 z1); (have hy2 : ∀ h, ([.string { data := #[] }, .string { data := #[44] }, .string { data := #[58] }, .string { data := #[49] }, .string { data := #[10] }] : List Value)[z.toNat]'h = .string (S y) := hy'); (have hyl : y.length ≤ 1 := by (simp at hy; rcases hy with rfl | rfl | rfl | rfl | rfl <;> simp)); have h1 := hcx y hyl; have h2 := hcy y hyl; clear hy hy'))
   all_goals
    go_wp2_with fail
    go_ret
    exact ⟨_, (p6 + 1) + 1 + 1 + 1, rfl, by simp; omega, by omega, by omega, (by first | exact HRc | exact Rdr.below HRc.out (below_alloc (Below.refl _ _) _)), (by repeat (first | exact HGb.out | with_reducible refine only_trans ?_ hgc.out | with_reducible apply only_drew | with_reducible apply only_alloc))⟩
end Go.Proofs.YtcjooeklehggaaaGreatDoor
