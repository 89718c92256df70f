/- Lemmas of this seat. -/
import Derived.Test.YtcjooeklehggaaaGreatDoorZPs
import Derived.Test.YtcjooeklehggaaaGreatDoorYAs
import Derived.Test.YtcjooeklehggaaaGreatDoorYBs
import Derived.Test.YtcjooeklehggaaaGreatDoorYDs
import Derived.Test.YtcjooeklehggaaaGreatDoorYHs
import Derived.Test.YtcjooeklehggaaaGreatDoorYIs
set_option linter.unusedVariables false
set_option linter.unusedSimpArgs false
set_option maxRecDepth 100000
namespace Go.Proofs.YtcjooeklehggaaaGreatDoor
open Go.ChangeShapes Go.WideShapes Go.ChangeAt Go.RowKit M
theorem of4_some {l k s : Bs} {y : List Ty × V} (h : of4 l k s = some y) : kindS l k = some y.1 ∧ (∀ t ∈ y.1, GoodT t) ∧ validB y.1 = true ∧ kOk k = true ∧ Tv y.1 y.2 ∧ y.2.kind = k ∧ (outV y.2).length ≤ 400 := by
 cases hks : kindS l k with
 | none => rw [of4_no hks] at h; cases h
 | some X =>
  by_cases h4 : s.length ≤ 400
  ·rw [of4_on hks h4 rfl] at h
   obtain ⟨hof, hko, -⟩ := kindS_some hks
   obtain ⟨hg, -, hva⟩ := ofS_some hof
   cases hr : readF X 12 s k with
   | none => rw [hr] at h; cases h
   | some x =>
    rw [hr] at h
    unfold wholeV at h
    simp only at h
    split at h
    ·injection h with h
     subst h
     have h1 := readF_tv hg 12 s k x hko hr
     have h2 := readF_len hr
     exact ⟨rfl, hg, hva, hko, h1.1, h1.2, by show (outV x.1).length ≤ 400; omega⟩
    ·cases h
  ·rw [of4_long h4] at h; cases h
def recF (X : List Ty) (k : Bs) (tag : Int) : Option Fl := match refT X k with | none => none | some t => if t.sort = 82 then fieldT t tag else none
theorem recF_none {X : List Ty} {k : Bs} {tag : Int} (h : refT X k = none) : recF X k tag = none := by unfold recF; rw [h]
theorem recF_other {X : List Ty} {k : Bs} {tag : Int} {t : Ty} (h : refT X k = some t) (hs : ¬ t.sort = 82) : recF X k tag = none := by unfold recF; rw [h]; exact if_neg hs
theorem recF_rec {X : List Ty} {k : Bs} {tag : Int} {t : Ty} (h : refT X k = some t) (hs : t.sort = 82) : recF X k tag = fieldT t tag := by unfold recF; rw [h]; exact if_pos hs
def RetRef4 (X : List Ty) (k : Bs) (w : World) (B : Nat) (e : Ending) (w' : World) : Prop := ∃ (t : Ty) (v : Value) (b : Bool), e = .returned (.tuple #[tv t v, .bool b]) ∧ Flds w' B v t.fields ∧ t.fields.length ≤ 1000000 ∧ Below w.heap.size w w' ∧ (b = false → refT X k = none) ∧ (b = true → refT X k = some t)
theorem k_ref_any (v : Value) (ps : List (Ty × Value)) (B : Nat) (k : Bs) (w : World) (h : Tys w B v ps) (hl : ps.length ≤ 1000000) (hB : B ≤ w.heap.size) (hk : kOk k = true) (hg : ∀ t ∈ ps.map (·.1), GoodT t) :
  Calls Tryz.prog 74 #[v, .string (S k)] w (RetRef4 (ps.map (·.1)) k w B) := by
 cases hr : refT (ps.map (·.1)) k with
 | none =>
  refine (k_ref_none v ps B k w h hl hB hk hr).mono ?_
  rintro e w' ⟨rfl, hb⟩
  exact ⟨⟨0, [], []⟩, .slice none 0 0, false, rfl, World.ownsRow_nil w' B _ 4, by simp, hb, fun _ => hr, fun h => by cases h⟩
 | some t =>
  have := k_ref v ps B k w h hl hB hk
  rw [hr] at this
  refine this.mono ?_
  rintro e w' ⟨t', v', rfl, ht, hF, hb⟩
  obtain rfl := ht _ rfl
  have hgt := hg _ (refT_mem0 hr)
  exact ⟨t', v', true, rfl, hF, by have := hgt.2.2.1; omega, hb, (fun h => by cases h), fun _ => hr⟩
set_option maxHeartbeats 4000000 in
theorem k_l4Record (v : Value) (ps : List (Ty × Value)) (B : Nat) (k : Bs) (tag : Int) (w : World) (h : Tys w B v ps) (hl : ps.length ≤ 1000000) (hB : B ≤ w.heap.size) (hk : kOk k = true) (hg : ∀ t ∈ ps.map (·.1), GoodT t) :
  Calls Tryz.prog 52 #[v, .string (S k), .int .i64 tag] w (RetF w (recF (ps.map (·.1)) k tag)) := by
 have HC := Lib.hid (fun W (hbw : Below w.heap.size w W) => k_ref_any v ps B k W (h.below hbw) hl (by have := hbw.size; omega) hk hg)
 obtain ⟨a, c, rfl, -, -⟩ := h.form
 obtain ⟨X, hX⟩ : ∃ X, ps.map (·.1) = X := ⟨_, rfl⟩
 rw [hX] at HC ⊢
 clear h hl hk hg hX
 go_enter Tryz.func52, Tryz.ntmps52
 go_wp2_with fail
 refine (HC.out _ (below_alloc (Below.refl _ _) _)).mono ?_
 rintro e w1 ⟨t, u, b, rfl, hF, hfl, hb1, hno, hyes⟩
 obtain ⟨au, cu, rfl, -, -⟩ := hF.form
 have KR := Lib.hid ((Blk.new w 65 #[.int .i64 0, .string { data := #[] }, .string { data := #[] }, .string { data := #[] }]).keep hb1)
 have hbw1 : Below w.heap.size w w1 := below_trans (below_alloc (Below.refl _ _) _) hb1
 have hz1 : w.heap.size + 1 ≤ w1.heap.size := by have := hb1.size; simp at this; omega
 have HFT := Lib.hid (k_field t au cu B tag (w1.alloc (.cells #[.int .u8 t.sort, .string (S t.name), .slice au t.fields.length cu] 61)) (hF.below (below_alloc (Below.refl _ _) _)) hfl)
 have HY := Lib.hid hyes
 have HNO := Lib.hid hno
 clear hb1 hF hfl hno hyes HC
 unfold tv at HFT
 unfold tv
 obtain ⟨y, hy⟩ : ∃ y, fieldT t tag = y := ⟨_, rfl⟩
 rw [hy] at HFT
 have HFY := Lib.hid hy
 clear hy
 go_wp2_with fail
 refine HFT.out.mono ?_
 rintro e w2 ⟨f, rfl, hf, hb2⟩
 unfold fv
 have KT := (Blk.new w1 61 #[.int .u8 t.sort, .string (S t.name), .slice au t.fields.length cu]).keep hb2
 have k0 := KT.cell 0
 simp at k0
 have hz2 := hb2.size
 simp at hz2
 have KR2 := (KR.out.keep (below_alloc (Below.refl _ _) (.cells #[.int .u8 t.sort, .string (S t.name), .slice au t.fields.length cu] 61))).keep hb2
 have v0 := KR2.cell 0
 have v1 := KR2.cell 1
 have v2 := KR2.cell 2
 have v3 := KR2.cell 3
 have r0 := KR2.frozen 0
 have r1 := KR2.frozen 1
 have r2 := KR2.frozen 2
 have r3 := KR2.frozen 3
 simp at v0 v1 v2 v3
 have hlt1 : w1.heap.size < w2.heap.size := by omega
 have hlt2 : w.heap.size < w2.heap.size := by omega
 have hne : ¬ w2.heap.size = w.heap.size := by omega
 have hne' : ¬ w.heap.size = w2.heap.size := by omega
 have hne2 : ¬ w2.heap.size = w1.heap.size := by omega
 have hne3 : ¬ w1.heap.size = w.heap.size := by omega
 have hne4 : ¬ w.heap.size = w1.heap.size := by omega
 have hbw2 : Below w.heap.size w w2 := below_trans (below_alloc hbw1 _) hb2
 clear KT KR KR2 hb2 HFT hbw1 hz2 hz1
 cases b with
 | false =>
  have HN := Lib.hid (recF_none (tag := tag) (HNO.out rfl))
  clear hf HY HNO HFY
  go_wp2_with fail
  go_region
  all_goals
   go_wp2_with fail
   refine bodyPost_ret (v := .tuple #[fv f, .bool false]) ?_ rfl ?_
   ·simp [results, Tryz.results52, go_sem, fv, v0, v1, v2, v3, r0, r1, r2, r3, hlt1, hlt2, hne, hne', hne2, hne3, hne4]
   ·exact RetF.no _ HN.out (by (repeat (first | with_reducible exact Below.refl _ _ | with_reducible apply below_drew | with_reducible apply below_draws | with_reducible apply below_alloc | with_reducible apply below_set | (with_reducible refine below_trans ?_ (by assumption)) | (with_reducible refine Below.trans ?_ (by assumption)) | exact Nat.le_refl _ | omega | (simp <;> omega))))
 | true =>
  have HRT := HY.out rfl
  cases y with
  | none =>
   have HN := Lib.hid (show recF X k tag = none by unfold recF; rw [HRT]; simp only; rw [HFY.out]; split <;> rfl)
   clear hf HY HNO HFY HRT
   go_wp2_with fail
   go_region
   all_goals
    go_wp2_with fail
    refine bodyPost_ret (v := .tuple #[fv f, .bool false]) ?_ rfl ?_
    ·simp [results, Tryz.results52, go_sem, fv, v0, v1, v2, v3, r0, r1, r2, r3, hlt1, hlt2, hne, hne', hne2, hne3, hne4]
    ·exact RetF.no _ HN.out (by (repeat (first | with_reducible exact Below.refl _ _ | with_reducible apply below_drew | with_reducible apply below_draws | with_reducible apply below_alloc | with_reducible apply below_set | (with_reducible refine below_trans ?_ (by assumption)) | (with_reducible refine Below.trans ?_ (by assumption)) | exact Nat.le_refl _ | omega | (simp <;> omega))))
  | some f' =>
   obtain rfl : f = f' := hf _ rfl
   by_cases h82 : t.sort = 82
   ·have HN := Lib.hid (show recF X k tag = some f by rw [recF_rec HRT h82, HFY.out])
    have b82 : (t.sort == 82) = true := by simp [h82]
    clear hf HY HNO HFY HRT h82
    go_wp2_with fail
    go_region
    all_goals
     go_wp2_with fail
     refine bodyPost_ret (v := .tuple #[fv f, .bool true]) ?_ rfl ?_
     ·simp [results, Tryz.results52, go_sem, fv, v0, v1, v2, v3, r0, r1, r2, r3, hlt1, hlt2, hne, hne', hne2, hne3, hne4, b82]
     ·exact RetF.yes _ HN.out (by (repeat (first | with_reducible exact Below.refl _ _ | with_reducible apply below_drew | with_reducible apply below_draws | with_reducible apply below_alloc | with_reducible apply below_set | (with_reducible refine below_trans ?_ (by assumption)) | (with_reducible refine Below.trans ?_ (by assumption)) | exact Nat.le_refl _ | omega | (simp <;> omega))))
   ·have HN := Lib.hid (recF_other (tag := tag) HRT h82)
    have b82 : (t.sort == 82) = false := by simp [h82]
    clear hf HY HNO HFY HRT h82
    go_wp2_with fail
    go_region
    all_goals
     go_wp2_with fail
     refine bodyPost_ret (v := .tuple #[fv f, .bool false]) ?_ rfl ?_
     ·simp [results, Tryz.results52, go_sem, fv, v0, v1, v2, v3, r0, r1, r2, r3, hlt1, hlt2, hne, hne', hne2, hne3, hne4, b82]
     ·exact RetF.no _ HN.out (by (repeat (first | with_reducible exact Below.refl _ _ | with_reducible apply below_drew | with_reducible apply below_draws | with_reducible apply below_alloc | with_reducible apply below_set | (with_reducible refine below_trans ?_ (by assumption)) | (with_reducible refine Below.trans ?_ (by assumption)) | exact Nat.le_refl _ | omega | (simp <;> omega))))
theorem recF_kind {X : List Ty} (hg : ∀ t ∈ X, GoodT t) {k : Bs} {tag : Int} {f : Fl} (h : recF X k tag = some f) : kOk f.kind = true := by
 unfold recF at h
 split at h
 ·cases h
 ·rename_i t ht
  split at h
  ·rename_i h82
   exact ((hg _ (refT_mem0 ht)).2.2.2.2 f (fieldT_mem h)).2.2.2.2.2.1 (by omega)
  ·cases h
end Go.Proofs.YtcjooeklehggaaaGreatDoor
