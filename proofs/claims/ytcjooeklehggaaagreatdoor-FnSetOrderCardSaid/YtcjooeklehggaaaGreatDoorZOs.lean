/- Lemmas of this seat. -/
import Derived.Shelf.LaysM
import Derived.Shelf.Strconv.Itoa3
import Derived.Lib.AppendIntMem
import Derived.Lib.LaidU8
import Derived.Test.YtcjooeklehggaaaGreatDoorZAs
import Derived.Test.YtcjooeklehggaaaGreatDoorZBs
import Derived.Test.YtcjooeklehggaaaGreatDoorZJs
import Derived.Test.YtcjooeklehggaaaGreatDoorZRs
set_option linter.unusedVariables false
set_option linter.unusedSimpArgs false
set_option maxRecDepth 100000
namespace Go.Proofs.YtcjooeklehggaaaGreatDoor
open Go.Shelf
def itoaRen : Go.Shelf.Ren := ⟨fun | 171 => 97 | 243 => 121 | 246 => 149 | 283 => 172 | 284 => 173 | 285 => 174 | 286 => 175 | 129 => 141 | 317 => 191 | 318 => 192 | 319 => 193 | 320 => 194 | 337 => 201 | 338 => 202 | n => n, fun | 3 => 3 | 9 => 9 | 2 => 2 | 4 => 4 | 171 => 216 | 0 => 0 | 53 => 190 | 37 => 22 | 5 => 5 | 173 => 218 | 212 => 236 | 51 => 188 | 20 => 20 | 213 => 237 | 46 => 162 | 232 => 246 | 233 => 247 | n => n, fun | 17 => 1 | 18 => 4 | 19 => 5 | n => n⟩
theorem itoaLays : Go.Proofs.LaysM.n171 Tryz.prog itoaRen := {
 mixed := by kernel_rfl
 f129 := Tryz.func141.trans (congrArg some (by kernel_rfl))
 f171 := Tryz.func97.trans (congrArg some (by kernel_rfl))
 f243 := Tryz.func121.trans (congrArg some (by kernel_rfl))
 f246 := Tryz.func149.trans (congrArg some (by kernel_rfl))
 f283 := Tryz.func172.trans (congrArg some (by kernel_rfl))
 f284 := Tryz.func173.trans (congrArg some (by kernel_rfl))
 f285 := Tryz.func174.trans (congrArg some (by kernel_rfl))
 f286 := Tryz.func175.trans (congrArg some (by kernel_rfl))
 f317 := Tryz.func191.trans (congrArg some (by kernel_rfl))
 f318 := Tryz.func192.trans (congrArg some (by kernel_rfl))
 f319 := Tryz.func193.trans (congrArg some (by kernel_rfl))
 f320 := Tryz.func194.trans (congrArg some (by kernel_rfl))
 f337 := Tryz.func201.trans (congrArg some (by kernel_rfl))
 f338 := Tryz.func202.trans (congrArg some (by kernel_rfl))
 t0 := Tryz.underlying0
 a0 := Tryz.isAgg0
 z0 := Tryz.sizeOf0
 v0 := Tryz.zeroValue0
 t2 := Tryz.underlying2
 a2 := Tryz.isAgg2
 z2 := Tryz.sizeOf2
 v2 := Tryz.zeroValue2
 t3 := Tryz.underlying3
 a3 := Tryz.isAgg3
 z3 := Tryz.sizeOf3
 v3 := Tryz.zeroValue3
 t4 := Tryz.underlying4
 a4 := Tryz.isAgg4
 z4 := Tryz.sizeOf4
 v4 := Tryz.zeroValue4
 t5 := Tryz.underlying5
 a5 := Tryz.isAgg5
 z5 := Tryz.sizeOf5
 v5 := Tryz.zeroValue5
 t9 := Tryz.underlying9
 a9 := Tryz.isAgg9
 z9 := Tryz.sizeOf9
 v9 := Tryz.zeroValue9
 t20 := Tryz.underlying20
 a20 := Tryz.isAgg20
 z20 := Tryz.sizeOf20
 v20 := Tryz.zeroValue20
 t37 := Tryz.underlying22
 a37 := Tryz.isAgg22
 z37 := Tryz.sizeOf22
 v37 := Tryz.zeroValue22
 t46 := Tryz.underlying162
 a46 := Tryz.isAgg162
 z46 := Tryz.sizeOf162
 v46 := Tryz.zeroValue162
 t51 := Tryz.underlying188
 a51 := Tryz.isAgg188
 z51 := Tryz.sizeOf188
 v51 := Tryz.zeroValue188
 t53 := Tryz.underlying190
 a53 := Tryz.isAgg190
 z53 := Tryz.sizeOf190
 v53 := Tryz.zeroValue190
 t171 := Tryz.underlying216
 a171 := Tryz.isAgg216
 z171 := Tryz.sizeOf216
 v171 := Tryz.zeroValue216
 t173 := Tryz.underlying218
 a173 := Tryz.isAgg218
 z173 := Tryz.sizeOf218
 v173 := Tryz.zeroValue218
 t212 := Tryz.underlying236
 a212 := Tryz.isAgg236
 z212 := Tryz.sizeOf236
 v212 := Tryz.zeroValue236
 t213 := Tryz.underlying237
 a213 := Tryz.isAgg237
 z213 := Tryz.sizeOf237
 t232 := Tryz.underlying246
 a232 := Tryz.isAgg246
 z232 := Tryz.sizeOf246
 v232 := Tryz.zeroValue246
 t233 := Tryz.underlying247
 a233 := Tryz.isAgg247
 z233 := Tryz.sizeOf247
 v233 := Tryz.zeroValue247
 g17 := by kernel_rfl
 g18 := by kernel_rfl
 g19 := by kernel_rfl
 i0 := by kernel_rfl
 i2 := by kernel_rfl
 i3 := by kernel_rfl
 i4 := by kernel_rfl
 i5 := by kernel_rfl
 i9 := by kernel_rfl
 i20 := by kernel_rfl
 i37 := by kernel_rfl
 i46 := by kernel_rfl
 i51 := by kernel_rfl
 i53 := by kernel_rfl
 i171 := by kernel_rfl
 i173 := by kernel_rfl
 i212 := by kernel_rfl
 i232 := by kernel_rfl
 i233 := by kernel_rfl
 m17 := by kernel_rfl
 m18 := by kernel_rfl
 m19 := by kernel_rfl }
open Go.ChangeShapes Go.WideShapes Go.ChangeAt Go.RowKit M
def Tab (w : World) : Prop := Lib.TabIs Tryz.prog w "internal/strconv.uint64pow10" .u64 Lib.pow10Tab
theorem Tab.below {w w' : World} (h : Tab w) (hb : Below w.heap.size w w') : Tab w' := (Lib.tabBelow_of_tabIs h) w' hb
theorem decDigits_decN (u : Nat) : Lib.decDigits u = decN u := by
 induction u using Nat.strongRecOn with
 | _ u ih =>
  rw [Lib.decDigits, decN]
  split
  ·rfl
  ·rw [ih (u / 10) (by omega)]
   rfl
theorem itoa_dec (n : Int) (h : 0 ≤ n) : Lib.itoa n = dec n := by
 unfold Lib.itoa dec; rw [if_neg (by omega), decDigits_decN]
theorem i_Itoa (n : Int) (h0 : 0 ≤ n) (h1 : n ≤ 1000000) (w : World) (hT : Tab w) :
  Calls Tryz.prog 97 #[.int .i64 n] w fun e w' => e = .returned (.string (S (dec n))) ∧ Below w.heap.size w w' := by
 refine (Any.strconv_Itoa itoaLays n (by omega) (by omega) w hT).mono ?_
 rintro e w' ⟨rfl, k, os, rfl⟩
 exact ⟨by rw [itoa_dec n h0]; rfl, Lib.below_grow _ w (Nat.le_refl _) k os⟩
end Go.Proofs.YtcjooeklehggaaaGreatDoor
namespace Go.Proofs.YtcjooeklehggaaaGreatDoor.M
theorem readField_told {s : Bs} {c : Int} {f : Fl} (h : readField s c = some f) (hc : c ≠ 82) : f.stand = [] := by
 unfold readField fieldOf at h
 generalize cutL 61 ((cutL 58 s).getD 2 []) = b at h
 generalize cutL 58 s = p at h
 by_cases hl : p.length = (if c = 69 then 2 else 3)
 ·rw [if_pos hl] at h
  cases hn : numL (p.getD 0 []) 200 with
  | none => rw [hn] at h; cases h
  | some tag =>
   rw [hn] at h
   simp only at h
   by_cases h1 : 1 ≤ tag ∧ isName (p.getD 1 []) = true
   ·rw [if_pos h1] at h
    by_cases h69 : c = 69
    ·rw [if_pos h69] at h; injection h with h; subst h; rfl
    ·rw [if_neg h69] at h
     by_cases h2 : b.length = 2
     ·rw [if_pos h2, if_neg (fun hh => hc hh.1)] at h; cases h
     ·rw [if_neg h2] at h
      split at h
      ·injection h with h; subst h; rfl
      ·cases h
   ·rw [if_neg h1] at h; cases h
 ·rw [if_neg hl] at h; cases h
def Told (t : Ty) : Prop := t.sort ≠ 82 → ∀ f ∈ t.fields, f.stand = []
theorem readFields_told {c : Int} (hc : c ≠ 82) {L : List Bs} {fs x : List Fl} (hf : ∀ f ∈ fs, f.stand = []) (h : readFields c L fs = some x) : ∀ f ∈ x, f.stand = [] := by
 induction L generalizing fs with
 | nil => injection h with h; subst h; exact hf
 | cons s r ih =>
  rw [readFields] at h
  split at h
  ·cases h
  ·rename_i f hr
   split at h
   ·cases h
   ·refine ih ?_ h
    intro g hg
    rcases List.mem_append.1 hg with hg | hg
    ·exact hf g hg
    ·simp at hg; subst hg; exact readField_told hr hc
theorem readType_told {s : Bs} {t : Ty} (h : readType s = some t) : Told t := by
 intro h82
 unfold readType at h
 split at h
 ·split at h
  ·split at h
   ·split at h
    ·injection h with h; subst h; simp
    ·cases h
   ·unfold tyOf at h
    split at h
    ·cases h
    ·rename_i fs hr
     split at h
     ·injection h with h; subst h; exact readFields_told h82 (by simp) hr
     ·cases h
  ·cases h
 ·cases h
theorem readTypes_told {L : List Bs} {P X : List Ty} (hp : ∀ t ∈ P, Told t) (h : readTypes L P = some X) : ∀ t ∈ X, Told t := by
 induction L generalizing P with
 | nil => injection h with h; subst h; exact hp
 | cons s r ih =>
  rw [readTypes] at h
  split at h
  ·cases h
  ·rename_i t hr
   refine ih ?_ h
   intro u hu
   rcases List.mem_append.1 hu with hu | hu
   ·exact hp u hu
   ·simp at hu; subst hu; exact readType_told hr
theorem ofS_told {s : Bs} {X : List Ty} (h : ofS s = some X) : ∀ t ∈ X, Told t := by
 unfold ofS at h
 split at h
 ·split at h
  ·cases h
  ·rename_i Y hY
   split at h
   ·injection h with h; subst h
    exact readTypes_told (by simp) hY
   ·cases h
 ·cases h
theorem ofS_linked {s : Bs} {X : List Ty} (h : ofS s = some X) : ∀ t ∈ X, t.sort ≠ 69 → ∀ f ∈ t.fields, ∀ n ∈ kRefs f.kind, (find X n).isSome = true := by
 have hv := (ofS_some h).2.2
 unfold validB at hv
 rw [Bool.and_eq_true, validFrom_eq, Bool.and_eq_true] at hv
 intro t ht h69 f hf n hn
 have h1 := List.all_eq_true.1 hv.1.2 t ht
 have h69' : (t.sort == 69) = false := by simp [h69]
 rw [h69', Bool.false_or] at h1
 have h2 := List.all_eq_true.1 h1 f hf
 unfold fieldOk at h2
 rw [coreName_refs] at h2
 have hl := refs_len f.kind
 cases hr : kRefs f.kind with
 | nil => rw [hr] at hn; cases hn
 | cons a r =>
  rw [hr] at h2 hn hl
  cases r with
  | nil => simp at hn; subst hn; simpa using h2
  | cons b r => simp at hl
def standW (X : List Ty) (f : Fl) : Bs := if f.stand = [] then standsV X f.kind else f.stand
def fieldV (t : Ty) (tag : Int) : Option Fl := t.fields.find? fun f => f.tag == tag
end Go.Proofs.YtcjooeklehggaaaGreatDoor.M
namespace Go.Proofs.YtcjooeklehggaaaGreatDoor
open Go.ChangeShapes Go.WideShapes Go.ChangeAt Go.RowKit M
abbrev tys (es : List Ent) : List Ty := es.map (·.t)
def FAt (w : World) (g o : Nat) (f : Fl) (q : Value) : Prop :=
 w.cell? ⟨g, o, none⟩ = some (.int .i64 f.tag) ∧ w.cell? ⟨g, o + 1, none⟩ = some (.string (S f.name)) ∧ w.cell? ⟨g, o + 2, none⟩ = some (.string (S f.kind)) ∧ w.cell? ⟨g, o + 3, none⟩ = some (.string (S f.stand)) ∧ w.cell? ⟨g, o + 4, none⟩ = some q
def StandC (es : List Ent) (B n : Nat) : Prop := ∀ (k s : Bs) (w : World), Graph w B es → Tab w → kOk k = true → (∀ m ∈ kRefs k, (findE es m).isSome = true) → standsF (tys es) n k = some s →
 Calls Tryz.prog 42 #[.string (S k), ptrE (leadE es k)] w fun e w' => e = .returned (.string (S s)) ∧ Below w.heap.size w w'
def fstandF (X : List Ty) (n : Nat) (f : Fl) : Option Bs := if f.kind = [] ∨ f.stand ≠ [] then some f.stand else standsF X n f.kind
set_option maxHeartbeats 4000000 in
theorem i_fstand (es : List Ent) (B n : Nat) (IH : StandC es B n) (g o : Nat) (f : Fl) (s : Bs) (w : World) (hG : Graph w B es) (hT : Tab w) (h : ∃ q, FAt w g o f q ∧ (f.kind ≠ [] → q = ptrE (leadE es f.kind) ∧ kOk f.kind = true ∧ (∀ m ∈ kRefs f.kind, (findE es m).isSome = true))) (hs : fstandF (tys es) n f = some s) :
  Calls Tryz.prog 35 #[.pointer (some ⟨g, o, none⟩)] w fun e w' => e = .returned (.string (S s)) ∧ Below w.heap.size w w' := by
 obtain ⟨q, ⟨-, -, x2, x3, x4⟩, hq⟩ := h
 by_cases h1 : f.kind = []
 ·have hs2 : f.stand = s := by unfold fstandF at hs; rw [if_pos (.inl h1)] at hs; injection hs
  rw [h1] at x2
  rw [hs2] at x3
  clear hs hs2 hq hG hT IH
  go_enter Tryz.func35, Tryz.ntmps35
  go_wp2_with fail
  go_ret
  exact ⟨rfl, by (repeat (first | with_reducible exact Below.refl _ _ | with_reducible apply below_drew | with_reducible apply below_draws | with_reducible apply below_alloc | with_reducible apply below_set | (with_reducible refine below_trans ?_ (by assumption)) | (with_reducible refine Below.trans ?_ (by assumption)) | exact Nat.le_refl _ | omega | (simp <;> omega)))⟩
 ·have h1e : f.kind.isEmpty = false := by cases hk : f.kind <;> simp_all
  by_cases h2 : f.stand = []
  ·have hs2 : standsF (tys es) n f.kind = some s := by unfold fstandF at hs; rw [if_neg (by simp [h1, h2])] at hs; exact hs
   obtain ⟨rfl, hko, hrf⟩ := hq h1
   have HC := Lib.hid (fun (w' : World) (hb : Below w.heap.size w w') => IH f.kind s w' (hG.below hb) (hT.below hb) hko hrf hs2)
   rw [h2] at x3
   unfold ptrE ptrV at x4 HC
   generalize Option.map (fun b => (⟨b, 0, none⟩ : Addr)) (Option.map (fun x => x.b) (leadE es f.kind)) = qa at *
   clear hs hs2 hq hG hT IH hko hrf h1
   go_enter Tryz.func35, Tryz.ntmps35
   go_wp2_with fail
   go_region_with (go_at_call 42; ((with_reducible refine (HC.out _ (by repeat (first | with_reducible exact Below.refl _ _ | with_reducible apply below_drew))).mono ?_); rintro e w' ⟨rfl, hb⟩))
   all_goals
    go_wp2_with fail
    go_ret
    exact ⟨rfl, by (repeat (first | exact Below.refl _ _ | apply below_drew | apply below_draws | apply below_alloc | (refine below_trans ?_ (by assumption)) | (refine Below.trans ?_ (by assumption))))⟩
  ·have h2e : f.stand.isEmpty = false := by cases hk : f.stand <;> simp_all
   have hs2 : f.stand = s := by unfold fstandF at hs; rw [if_pos (.inr h2)] at hs; injection hs
   rw [hs2] at x3 h2e
   clear hs hs2 hq hG hT IH h1 h2
   go_enter Tryz.func35, Tryz.ntmps35
   go_wp2_with fail
   go_ret
   exact ⟨rfl, by (repeat (first | with_reducible exact Below.refl _ _ | with_reducible apply below_drew | with_reducible apply below_draws | with_reducible apply below_alloc | with_reducible apply below_set | (with_reducible refine below_trans ?_ (by assumption)) | (with_reducible refine Below.trans ?_ (by assumption)) | exact Nat.le_refl _ | omega | (simp <;> omega)))⟩
def tstandF (X : List Ty) (n : Nat) (t : Ty) : Option Bs := if t.sort = 82 then some [123, 125] else if t.sort = 69 then some (35 :: dec (tag0 t)) else
 match standsF X n (kind0 t) with
 | none => none
 | some s => some (60 :: (dec (tag0 t) ++ 61 :: (s ++ [62])))
theorem Graph.first0 {w : World} {B : Nat} {es : List Ent} (h : Graph w B es) (hg : GoodE es) {e : Ent} (he : e ∈ es) (h82 : e.t.sort ≠ 82) :
  ∃ (g n cap : Nat) (f : Fl) (q : Option Addr), e.v = .slice (some ⟨g, 0, none⟩) n cap ∧ 0 < n ∧ f ∈ e.t.fields ∧ tag0 e.t = f.tag ∧ kind0 e.t = f.kind ∧ 1 ≤ f.tag ∧ f.tag ≤ 200 ∧ (e.t.sort ≠ 69 → Value.pointer q = ptrE (leadE es f.kind) ∧ kOk f.kind = true ∧ f.kind ≠ []) ∧
   w.cell? ⟨g, 0, none⟩ = some (.int .i64 f.tag) ∧ w.cell? ⟨g, 1, none⟩ = some (.string (S f.name)) ∧ w.cell? ⟨g, 2, none⟩ = some (.string (S f.kind)) ∧ w.cell? ⟨g, 3, none⟩ = some (.string (S f.stand)) ∧ w.cell? ⟨g, 4, none⟩ = some (.pointer q) := by
 obtain ⟨-, -, -, h1, h2⟩ := hg.good e he
 obtain ⟨f, r, hf⟩ : ∃ f r, e.t.fields = f :: r := by
  cases hfs : e.t.fields with
  | nil => exact absurd hfs (h1 h82)
  | cons f r => exact ⟨f, r, rfl⟩
 have hgf := h2 f (by rw [hf]; simp)
 obtain ⟨-, hp, -⟩ := h e he
 obtain ⟨q, ps, hl, hq⟩ : ∃ q ps, lkP (namesE es) e.t = (f, q) :: ps ∧ (e.t.sort ≠ 69 → q = lkA (namesE es) f) := by
  unfold lkP
  by_cases h69 : e.t.sort = 69
  ·rw [if_pos h69, hf]; exact ⟨none, un r, rfl, fun h => absurd h69 h⟩
  ·rw [if_neg h69, hf]; exact ⟨_, _, rfl, fun _ => rfl⟩
 rw [hl] at hp
 obtain ⟨ao, cap, hv, hc, ho⟩ := hp.form
 obtain ⟨g, rfl⟩ : ∃ g, ao = some ⟨g, 0, none⟩ := by
  rcases ho with ⟨_, h0⟩ | ⟨g, h0, -⟩
  ·cases h0
  ·exact ⟨g, h0⟩
 rw [hv] at hp
 obtain ⟨x0, x1, x2, x3, x4⟩ := hp.cells5 0 (by simp)
 simp at x0 x1 x2 x3 x4
 refine ⟨g, _, cap, f, q, hv, by simp, by rw [hf]; simp, by unfold tag0; rw [hf]; rfl, by unfold kind0; rw [hf]; rfl, hgf.1, hgf.2.1, fun h69 => ?_, x0, x1, x2, x3, x4⟩
 have hko := hgf.2.2.2.2.2.1 h69
 exact ⟨by rw [hq h69]; exact lkA_lead hg hko, hko, fun e => by have := kOk_len hko; rw [e] at this; simp at this⟩
set_option maxHeartbeats 8000000 in
theorem i_tstand (es : List Ent) (B n : Nat) (hn : n ≤ 100) (hg : GoodE es) (htold : ∀ e ∈ es, M.Told e.t) (hlk : ∀ e ∈ es, e.t.sort ≠ 69 → ∀ f ∈ e.t.fields, ∀ m ∈ kRefs f.kind, (findE es m).isSome = true) (IH : StandC es B n) (e : Ent) (he : e ∈ es) (s : Bs) (w : World) (hG : Graph w B es) (hT : Tab w) (hs : tstandF (tys es) n e.t = some s) :
  Calls Tryz.prog 70 #[.pointer (some ⟨e.b, 0, none⟩)] w fun e w' => e = .returned (.string (S s)) ∧ Below w.heap.size w w' := by
 obtain ⟨⟨c, hc, hk⟩, -, -⟩ := hG e he
 have y0 := hk.cell 0
 have y2 := hk.cell 2
 simp at y0 y2
 by_cases h82 : e.t.sort = 82
 ·have hcc : (c == 82) = true := by simp; exact UInt8.toNat_inj.1 (by show _ = 82; omega)
  have hs2 : [123, 125] = s := by unfold tstandF at hs; rw [if_pos h82] at hs; injection hs
  have HS := Lib.hid hs2
  clear hs hs2 hG hT IH hk
  go_enter Tryz.func70, Tryz.ntmps70
  go_wp2_with fail
  go_ret
  exact ⟨by rw [← HS.out]; rfl, by (repeat (first | with_reducible exact Below.refl _ _ | with_reducible apply below_drew | with_reducible apply below_draws | with_reducible apply below_alloc | with_reducible apply below_set | (with_reducible refine below_trans ?_ (by assumption)) | (with_reducible refine Below.trans ?_ (by assumption)) | exact Nat.le_refl _ | omega | (simp <;> omega)))⟩
 ·have hc1 : (c == 82) = false := by rw [beq_eq_false_iff_ne]; rintro rfl; exact h82 hc
  obtain ⟨g, m, cap, f, q, hv, hm0, hfm, ht0, hk0, t1, t2, hq, x0, x1, x2, x3, x4⟩ := hG.first0 hg he h82
  rw [hv] at y2
  have HD := Lib.hid (fun (w' : World) (hb : Below w.heap.size w w') => i_Itoa f.tag (by omega) (by omega) w' (hT.below hb))
  have hdl : (dec f.tag).length ≤ 3 := decN_len3 _ (by omega)
  have hxl := hk.lt
  by_cases h69 : e.t.sort = 69
  ·have hcc : (c == 69) = true := by simp; exact UInt8.toNat_inj.1 (by show _ = 69; omega)
   have hs2 : 35 :: dec f.tag = s := by unfold tstandF at hs; rw [if_neg h82, if_pos h69, ht0] at hs; injection hs
   have HS := Lib.hid hs2
   generalize dec f.tag = dt at *
   have hcat := cat_run [35] dt (by simp; omega)
   have HB0 := Lib.hid (hG.below (w' := w.alloc (.cells #[.int .i64 f.tag, .string (S f.name), .string (S f.kind), .string (S f.stand), .pointer q] 55)) (by (repeat (first | exact Below.refl _ _ | apply below_drew | apply below_draws | apply below_alloc | (refine below_trans ?_ (by assumption)) | (refine Below.trans ?_ (by assumption))))))
   have HK := Lib.hid hk
   clear hs hs2 hG hT IH hk hq hv ht0 hk0 hlk htold
   go_enter Tryz.func70, Tryz.ntmps70
   go_wp2_with fail
   refine (HD.out _ (by (repeat (first | exact Below.refl _ _ | apply below_drew | apply below_draws | apply below_alloc | (refine below_trans ?_ (by assumption)) | (refine Below.trans ?_ (by assumption)))))).mono ?_
   rintro e' w1 ⟨rfl, hb1⟩
   have y0 := ((HK.out.alloc (.cells #[.int .i64 f.tag, .string (S f.name), .string (S f.kind), .string (S f.stand), .pointer q] 55)).keep hb1).cell 0
   simp at y0
   go_wp2_with fail
   go_ret
   exact ⟨by rw [← HS.out]; rfl, by (repeat (first | exact Below.refl _ _ | apply below_drew | apply below_draws | apply below_alloc | (refine below_trans ?_ (by assumption)) | (refine Below.trans ?_ (by assumption))))⟩
  ·have hcc : (c == 69) = false := by rw [beq_eq_false_iff_ne]; rintro rfl; exact h69 hc
   obtain ⟨hq1, hq2, hq3⟩ := hq h69
   have hst := htold e he h82 f hfm
   obtain ⟨s0, hs0, hs2⟩ : ∃ s0, standsF (tys es) n f.kind = some s0 ∧ 60 :: (dec f.tag ++ 61 :: (s0 ++ [62])) = s := by
    unfold tstandF at hs
    rw [if_neg h82, if_neg h69, ht0, hk0] at hs
    cases hh : standsF (tys es) n f.kind with
    | none => rw [hh] at hs; cases hs
    | some s0 => rw [hh] at hs; injection hs with hs; exact ⟨s0, rfl, hs⟩
   have hsl := standsF_len (tys es) (by intro t ht; obtain ⟨x, hx, rfl⟩ := List.mem_map.1 ht; exact hg.good x hx) n _ _ hs0
   have hlk2 := hlk e he h69 f hfm
   have HFS := Lib.hid (fun (w' : World) (hb : Below w.heap.size w w') (hk : Blk w' w.heap.size 55 #[.int .i64 f.tag, .string (S f.name), .string (S f.kind), .string (S f.stand), .pointer q]) =>
    i_fstand es B n IH w.heap.size 0 f s0 w' (hG.below hb) (hT.below hb) ⟨.pointer q, ⟨hk.cell 0, hk.cell 1, hk.cell 2, hk.cell 3, hk.cell 4⟩, fun _ => ⟨hq1, hq2, hlk2⟩⟩ (by unfold fstandF; rw [if_neg (by simp [hq3, hst])]; exact hs0))
   have HS := Lib.hid hs2
   generalize dec f.tag = dt at *
   have hcat1 := cat_run [60] dt (by simp; omega)
   have hcat2 := cat_run ([60] ++ dt) [61] (by simp; omega)
   have hcat3 := cat_run ([60] ++ dt ++ [61]) s0 (by simp; omega)
   have hcat4 := cat_run ([60] ++ dt ++ [61] ++ s0) [62] (by simp; omega)
   have HK := Lib.hid hk
   have HNB := Lib.hid (Blk.new w 55 #[.int .i64 f.tag, .string (S f.name), .string (S f.kind), .string (S f.stand), .pointer q])
   clear hs hs2 hG hT IH hk hq hv ht0 hk0 hlk htold hq1 hq2 hq3 hst hlk2
   go_enter Tryz.func70, Tryz.ntmps70
   go_wp2_with fail
   refine (HD.out _ (by (repeat (first | exact Below.refl _ _ | apply below_drew | apply below_draws | apply below_alloc | (refine below_trans ?_ (by assumption)) | (refine Below.trans ?_ (by assumption)))))).mono ?_
   rintro e' w1 ⟨rfl, hb1⟩
   have y0 := ((HK.out.alloc (.cells #[.int .i64 f.tag, .string (S f.name), .string (S f.kind), .string (S f.stand), .pointer q] 55)).keep hb1).cell 0
   have hbw : Below w.heap.size w w1 := by (repeat (first | exact Below.refl _ _ | apply below_drew | apply below_draws | apply below_alloc | (refine below_trans ?_ (by assumption)) | (refine Below.trans ?_ (by assumption))))
   have HN1 := Lib.hid (HNB.out.keep hb1)
   simp at y0
   go_wp2_with fail
   refine (HFS.out _ hbw HN1.out).mono ?_
   rintro e' w2 ⟨rfl, hb2⟩
   have hcat5 := cat_run (60 :: (dt ++ [61])) s0 (by simp; omega)
   have hcat6 := cat_run (60 :: (dt ++ [61]) ++ s0) [62] (by simp; omega)
   obtain ⟨s5, hs5⟩ : ∃ s5 : Bs, 60 :: (dt ++ [61]) ++ s0 = s5 := ⟨_, rfl⟩
   have hs5l : s5.length ≤ 1000 := by rw [← hs5]; simp; omega
   rw [hs5] at hcat5 hcat6
   have HS5 := Lib.hid hs5
   clear hs5 hcat1 hcat2 hcat3 hcat4
   go_wp2_with fail
   go_ret
   exact ⟨ret_s (by rw [← HS.out]; congr 1; first | rfl | (rw [← HS5.out]; simp)), by (repeat (first | exact Below.refl _ _ | apply below_drew | apply below_draws | apply below_alloc | (refine below_trans ?_ (by assumption)) | (refine Below.trans ?_ (by assumption))))⟩
theorem standsF_at (X : List Ty) (n : Nat) (k s : Bs) (h : standsF X (n + 1) k = some s) :
  (at_ k 0 = 91 ∧ s = [91, 93]) ∨ (at_ k 0 = 63 ∧ s = [45]) ∨ (at_ k 0 ≠ 91 ∧ at_ k 0 ≠ 63 ∧ ((refT X k = none ∧ s = plainV k) ∨ ∃ t, refT X k = some t ∧ tstandF X n t = some s)) := by
 rw [standsF] at h
 by_cases h1 : at_ k 0 = 91
 ·rw [if_pos h1] at h; injection h with h; exact .inl ⟨h1, h.symm⟩
 ·rw [if_neg h1] at h
  by_cases h2 : at_ k 0 = 63
  ·rw [if_pos h2] at h; injection h with h; exact .inr (.inl ⟨h2, h.symm⟩)
  ·rw [if_neg h2] at h
   refine .inr (.inr ⟨h1, h2, ?_⟩)
   cases hr : refT X k with
   | none => rw [hr] at h; injection h with h; exact .inl ⟨rfl, h.symm⟩
   | some t => rw [hr] at h; exact .inr ⟨t, rfl, h⟩
set_option maxHeartbeats 8000000 in
theorem i_standOf (es : List Ent) (B : Nat) (hg : GoodE es) (htold : ∀ e ∈ es, M.Told e.t) (hlk : ∀ e ∈ es, e.t.sort ≠ 69 → ∀ f ∈ e.t.fields, ∀ m ∈ kRefs f.kind, (findE es m).isSome = true) (n : Nat) (hn : n ≤ 100) : StandC es B n := by
 induction n with
 | zero => intro k s w _ _ _ _ h; cases h
 | succ n ih =>
  have IH := ih (by omega)
  intro k s w hG hT hko hrf hs
  have hkl := kOk_len hko
  have hks : 0 < (S k).size := by rw [S_size]; exact hkl.2
  have hksz : ∃ m : Nat, k.length = m ∧ 0 < m := ⟨_, rfl, hkl.2⟩
  rcases standsF_at _ _ _ _ hs with ⟨h1, rfl⟩ | ⟨h1, rfl⟩ | ⟨h1, h2, h3⟩
  ·unfold ptrE ptrV
   generalize Option.map (fun b => (⟨b, 0, none⟩ : Addr)) (Option.map (fun x => x.b) (leadE es k)) = qa at *
   clear hs hrf hG hT IH ih hlk htold hko
   go_enter Tryz.func42, Tryz.ntmps42
   go_wp2_with fail
   go_ret
   exact ⟨rfl, by (repeat (first | with_reducible exact Below.refl _ _ | with_reducible apply below_drew | with_reducible apply below_draws | with_reducible apply below_alloc | with_reducible apply below_set | (with_reducible refine below_trans ?_ (by assumption)) | (with_reducible refine Below.trans ?_ (by assumption)) | exact Nat.le_refl _ | omega | (simp <;> omega)))⟩
  ·unfold ptrE ptrV
   generalize Option.map (fun b => (⟨b, 0, none⟩ : Addr)) (Option.map (fun x => x.b) (leadE es k)) = qa at *
   clear hs hrf hG hT IH ih hlk htold hko
   go_enter Tryz.func42, Tryz.ntmps42
   go_wp2_with fail
   go_ret
   exact ⟨rfl, by (repeat (first | with_reducible exact Below.refl _ _ | with_reducible apply below_drew | with_reducible apply below_draws | with_reducible apply below_alloc | with_reducible apply below_set | (with_reducible refine below_trans ?_ (by assumption)) | (with_reducible refine Below.trans ?_ (by assumption)) | exact Nat.le_refl _ | omega | (simp <;> omega)))⟩
  ·rcases kind_cases k with hk | ⟨nm, d, hk, hl, hd, hsg, h4⟩
   ·simp [kOk, hk] at hko
   ·have hd0 : d = 0 := by
     cases d with
     | zero => rfl
     | succ d => rcases hsg 0 (by omega) with h | h; exact absurd h h1; exact absurd h h2
    subst hd0
    rcases h4 with ⟨hnm, hin, hkd, hk64⟩ | ⟨hnm, h5⟩
    ·-- a name
     have hr : kRefs k = [nm] := by unfold kRefs; rw [hk]; simp only; rw [if_neg hnm]
     have hkd0 : kDeep k = 0 := by unfold kDeep; rw [hk]; rfl
     obtain ⟨e, he⟩ := Option.isSome_iff_exists.1 (hrf nm (by rw [hr]; simp))
     have hle : leadE es k = some e := by unfold leadE; rw [hr]; exact he
     have hrt : refT (tys es) k = some e.t := by rw [refT_lead, if_pos hkd0, hle]; rfl
     rw [hrt] at h3
     obtain ⟨t, ht, hts⟩ : ∃ t, some e.t = some t ∧ tstandF (tys es) n t = some s := by
      rcases h3 with ⟨h, -⟩ | h
      ·cases h
      ·exact h
     injection ht with ht; subst ht
     have HTS := Lib.hid (fun (w' : World) (hb : Below w.heap.size w w') => i_tstand es B n (by omega) hg htold hlk IH e (findE_mem he).1 s w' (hG.below hb) (hT.below hb) hts)
     rw [hle]
     unfold ptrE ptrV
     simp only [Option.map_some]
     clear hs hrf hG hT IH ih hlk htold hko hts hrt h3 hle he hr hkd0 hkd hk hsg
     go_enter Tryz.func42, Tryz.ntmps42
     go_wp2_with fail
     refine (HTS.out _ (by (repeat (first | exact Below.refl _ _ | apply below_drew | apply below_draws | apply below_alloc | (refine below_trans ?_ (by assumption)) | (refine Below.trans ?_ (by assumption)))))).mono ?_
     rintro e' w1 ⟨rfl, hb1⟩
     go_wp2_with fail
     go_ret
     exact ⟨rfl, by (repeat (first | exact Below.refl _ _ | apply below_drew | apply below_draws | apply below_alloc | (refine below_trans ?_ (by assumption)) | (refine Below.trans ?_ (by assumption))))⟩
    ·-- plain
     have hrt : refT (tys es) k = none := by
      unfold refT; rw [hk]; simp only; rw [if_pos (.inl hnm)]
     rw [hrt] at h3
     have hsv : s = plainV k := by
      rcases h3 with ⟨-, h⟩ | ⟨t, h, -⟩
      ·exact h
      ·cases h
     simp only [List.drop_zero] at h5
     unfold ptrE ptrV
     generalize Option.map (fun b => (⟨b, 0, none⟩ : Addr)) (Option.map (fun x => x.b) (leadE es k)) = qa at *
     have HSV := Lib.hid hsv
     clear hs hrf hG hT IH ih hlk htold hko hrt h3 hk hsg hsv
     rcases h5 with ⟨rfl, h6⟩ | ⟨rfl, h6⟩ | ⟨rfl, h6⟩
     all_goals
      go_enter Tryz.func42, Tryz.ntmps42
      go_wp2_with fail
      go_ret
      exact ⟨by rw [HSV.out]; rfl, by (repeat (first | with_reducible exact Below.refl _ _ | with_reducible apply below_drew | with_reducible apply below_draws | with_reducible apply below_alloc | with_reducible apply below_set | (with_reducible refine below_trans ?_ (by assumption)) | (with_reducible refine Below.trans ?_ (by assumption)) | exact Nat.le_refl _ | omega | (simp <;> omega)))⟩
structure Sound (es : List Ent) : Prop where
 good : GoodE es
 told : ∀ e ∈ es, M.Told e.t
 linked : ∀ e ∈ es, e.t.sort ≠ 69 → ∀ f ∈ e.t.fields, ∀ m ∈ kRefs f.kind, (findE es m).isSome = true
 valid : validB (tys es) = true
theorem sound_of {l : Bs} {es : List Ent} (h : ofS l = some (tys es)) (hg : GoodE es) : Sound es := by
 refine ⟨hg, fun e he => ofS_told h e.t (List.mem_map.2 ⟨e, he, rfl⟩), fun e he h69 f hf m hm => ?_, (ofS_some h).2.2⟩
 have := ofS_linked h e.t (List.mem_map.2 ⟨e, he, rfl⟩) h69 f hf m hm
 rw [find_map] at this
 simpa using this
theorem Sound.goodT {es : List Ent} (h : Sound es) : ∀ t ∈ tys es, GoodT t := by
 intro t ht; obtain ⟨e, he, rfl⟩ := List.mem_map.1 ht; exact h.good.good e he
theorem i_standK {es : List Ent} (h : Sound es) (B : Nat) (k : Bs) (w : World) (hG : Graph w B es) (hT : Tab w) (hk : kOk k = true) (hr : ∀ m ∈ kRefs k, (findE es m).isSome = true) :
  Calls Tryz.prog 42 #[.string (S k), ptrE (leadE es k)] w fun e w' => e = .returned (.string (S (standsV (tys es) k))) ∧ Below w.heap.size w w' := by
 have hl := h.good.len
 exact i_standOf es B h.good h.told h.linked ((tys es).length + 3) (by simp; omega) k _ w hG hT hk hr (standsV_ok h.valid h.goodT k)
theorem i_standField {es : List Ent} (h : Sound es) (B g o : Nat) (f : Fl) (w : World) (hG : Graph w B es) (hT : Tab w) (hf : ∃ q, FAt w g o f q ∧ (f.kind ≠ [] → q = ptrE (leadE es f.kind) ∧ kOk f.kind = true ∧ (∀ m ∈ kRefs f.kind, (findE es m).isSome = true))) :
  Calls Tryz.prog 35 #[.pointer (some ⟨g, o, none⟩)] w fun e w' => e = .returned (.string (S (if f.kind = [] then f.stand else standW (tys es) f))) ∧ Below w.heap.size w w' := by
 have hl := h.good.len
 refine i_fstand es B ((tys es).length + 3) (i_standOf es B h.good h.told h.linked _ (by simp; omega)) g o f _ w hG hT hf ?_
 unfold fstandF standW
 by_cases h1 : f.kind = []
 ·rw [if_pos (.inl h1), if_pos h1]
 ·rw [if_neg h1]
  by_cases h2 : f.stand = []
  ·rw [if_neg (by simp [h1, h2]), if_pos h2]; exact standsV_ok h.valid h.goodT f.kind
  ·rw [if_pos (.inr h2), if_neg h2]
def RetFld (w : World) (e : Ent) (tag : Int) (r : Ending) (w' : World) : Prop := w = w' ∧
  ((fieldV e.t tag = none ∧ r = .returned (.tuple #[.pointer none, .bool false])) ∨
   ∃ (g n cap i : Nat) (f : Fl), e.v = .slice (some ⟨g, 0, none⟩) n cap ∧ e.t.fields[i]? = some f ∧ fieldV e.t tag = some f ∧ r = .returned (.tuple #[.pointer (some ⟨g, i * 5, none⟩), .bool true]))
theorem fieldV_yes (fs : List Fl) (tag : Int) (k : Nat) (h : k < fs.length) (hn : (fs[k].tag == tag) = true) : (fs.drop k).find? (fun f => f.tag == tag) = some fs[k] := by
 rw [List.drop_eq_getElem_cons h, List.find?_cons, hn]
theorem fieldV_no (fs : List Fl) (tag : Int) (k : Nat) (h : k < fs.length) (hn : (fs[k].tag == tag) = false) : (fs.drop k).find? (fun f => f.tag == tag) = (fs.drop (k + 1)).find? fun f => f.tag == tag := by
 rw [List.drop_eq_getElem_cons h, List.find?_cons, hn]
set_option maxHeartbeats 4000000 in
theorem i_field {es : List Ent} (hg : GoodE es) (B : Nat) (e : Ent) (he : e ∈ es) (tag : Int) (w : World) (hG : Graph w B es) :
  Calls Tryz.prog 34 #[.pointer (some ⟨e.b, 0, none⟩), .int .i64 tag] w (RetFld w e tag) := by
 have hl8 : e.t.fields.length ≤ 8 := (hg.good e he).2.2.1
 obtain ⟨⟨c, hc, hk⟩, hp, -⟩ := hG e he
 obtain ⟨au, cap, hv, hcap, hf⟩ := hp.form
 rw [lkP_len] at hv hcap
 obtain ⟨m, hm⟩ : ∃ m, e.t.fields.length = m := ⟨_, rfl⟩
 rw [hm] at hv hcap hl8
 rw [hv] at hk hp
 have HV := Lib.hid hv
 have HM := Lib.hid hm
 have HP := Lib.hid hp
 have HFO := Lib.hid hf
 have y2 := hk.cell 2
 simp at y2
 obtain ⟨o, ho⟩ : ∃ o, fieldV e.t tag = o := ⟨_, rfl⟩
 have HO := Lib.hid ho
 have HST := Lib.hid (show o = (e.t.fields.drop 0).find? (fun f => f.tag == tag) from ho.symm)
 clear hc hk hp hv hf hm ho hG hg
 go_enter Tryz.func34, Tryz.ntmps34
 go_wp2_with fail
 go_loop [12] (fun i => ∃ k : Nat, k ≤ m ∧ i = .int .i64 k ∧ Hid (o = (e.t.fields.drop k).find? fun f => f.tag == tag)) (fun i => m - (intOf i).toNat)
 case atStart => exact ⟨0, by omega, rfl, HST.out⟩
 case round =>
  obtain ⟨k, hk, rfl, hS⟩ := hrel
  by_cases hkm : k < m
  ·have hkf : k < e.t.fields.length := by rw [HM.out]; exact hkm
   have hkl : k < (lkP (namesE es) e.t).length := by rw [lkP_len]; exact hkf
   obtain ⟨g, rfl⟩ : ∃ g, au = some ⟨g, 0, none⟩ := by
    rcases HFO.out with ⟨_, h0⟩ | ⟨g, h0, -⟩
    ·have h1 : e.t.fields.length = 0 := by rw [← lkP_len (namesE es), h0]; rfl
     omega
    ·exact ⟨g, h0⟩
   obtain ⟨x0, -, -, -, -⟩ := HP.out.cells5 k hkl
   rw [lkP_at _ _ _ hkl hkf] at x0
   obtain ⟨f, hf⟩ : ∃ f, e.t.fields[k] = f := ⟨_, rfl⟩
   rw [hf] at x0
   cases ht : (f.tag == tag) with
   | true =>
    have HR := Lib.hid (show o = some f from hS.out.trans ((fieldV_yes _ tag k hkf (by rw [hf]; exact ht)).trans (by rw [hf])))
    have HK := Lib.hid (show e.t.fields[k]? = some f by rw [List.getElem?_eq_getElem hkf, hf])
    clear hf hS
    go_wp2_with fail
    refine bodyPost_ret (v := .tuple #[.pointer (some ⟨g, k * 5, none⟩), .bool true]) (by simp [results, Tryz.results34]) rfl ?_
    exact ⟨rfl, .inr ⟨g, m, cap, k, f, HV.out, HK.out, HO.out.trans HR.out, rfl⟩⟩
   | false =>
    have HR := Lib.hid (hS.out.trans (fieldV_no _ tag k hkf (by rw [hf]; exact ht)))
    clear hf hS
    go_wp2_with fail
    go_round
    case rel => exact ⟨k + 1, by omega, by go_num, HR.out⟩
    case measure => simp [intOf]; omega
  ·have HR := Lib.hid (show o = none from hS.out.trans (by rw [List.drop_of_length_le (by rw [HM.out]; omega)]; rfl))
   clear hS
   go_wp2_with fail
   refine bodyPost_ret (v := .tuple #[.pointer none, .bool false]) (by simp [results, Tryz.results34]) rfl ?_
   exact ⟨rfl, .inl ⟨HO.out.trans HR.out, rfl⟩⟩
def RetFK (w : World) (l k : Bs) (e : Ending) (w' : World) : Prop := Below w.heap.size w w' ∧
  ((kindS l k = none ∧ ∃ q, e = .returned (.tuple #[.pointer q, .bool false])) ∨
   ∃ es, ofS l = some (tys es) ∧ kindS l k = some (tys es) ∧ GoodE es ∧ Graph w' w.heap.size es ∧ kOk k = true ∧ (∀ m ∈ kRefs k, (findE es m).isSome = true) ∧ e = .returned (.tuple #[ptrE (leadE es k), .bool true]))
theorem coreOk_refs (X : List Ty) (k : Bs) : coreOk X k = match kRefs k with | [] => true | n :: _ => (find X n).isSome := by
 unfold coreOk
 rw [coreName_refs]
 cases kRefs k <;> rfl
set_option maxHeartbeats 2000000 in
theorem i_findKind (l k : Bs) (w : World) (hs : l.length ≤ 4000000) (hk : k.length ≤ 2000000) :
  Calls Tryz.prog 41 #[.string (S l), .string (S k)] w (RetFK w l k) := by
 have HC := Lib.hid (fun w => i_readSchema l w hs)
 go_enter Tryz.func41, Tryz.ntmps41
 go_wp2_with fail
 refine (HC.out _).mono ?_
 rintro e w1 ⟨hb, ⟨ho, rfl⟩ | ⟨es, ov, m, ho, hg, hG, hp, hm, rfl⟩⟩
 ·have HF := Lib.hid (show kindS l k = none by unfold kindS; rw [ho]); clear ho
  go_wp2_with fail
  refine bodyPost_ret (v := .tuple #[.pointer none, .bool false]) (by simp [results, Tryz.results41]) rfl ?_
  exact ⟨by (repeat (first | with_reducible exact Below.refl _ _ | with_reducible apply below_drew | with_reducible apply below_draws | with_reducible apply below_alloc | with_reducible apply below_set | (with_reducible refine below_trans ?_ (by assumption)) | (with_reducible refine Below.trans ?_ (by assumption)) | exact Nat.le_refl _ | omega | (simp <;> omega))), .inl ⟨HF.out, none, rfl⟩⟩
 ·obtain ⟨ao, cap, rfl, -, -⟩ := hp.form
  have HO := Lib.hid ho; have HG := Lib.hid hg; have HGR := Lib.hid hG
  have hrl : ∀ n ∈ kRefs k, n.length ≤ 2000000 := by
   intro n hn
   cases hko : kOk k with
   | true => have := kRefs_len hko n hn; omega
   | false => unfold kRefs at hn; unfold kOk at hko; cases hkr : kindR k with
    | none => rw [hkr] at hn; cases hn
    | some x => rw [hkr] at hko; cases hko
  have HTI := Lib.hid (i_typeIn w1.heap.size m (.slice ao (es.map (·.b)).length cap) (namesE es) k (w1.alloc (.cells #[.slice ao (es.map (·.b)).length cap, .map (some m)] 110)) (Blk.new _ _ _) (hm.alloc _) hk hrl)
  unfold ptrV at HTI
  have HR := Lib.hid (show (inRes (namesE es) k).2 = true → kindS l k = some (tys es) ∧ kOk k = true ∧ (∀ m ∈ kRefs k, (findE es m).isSome = true) ∧ (inRes (namesE es) k).1 = (leadE es k).map (·.b) from by
   intro h
   unfold inRes at h
   cases hko : kOk k with
   | false => rw [hko] at h; cases h
   | true =>
    rw [hko, if_pos rfl] at h
    have hcore : coreOk (tys es) k = true := by
     rw [coreOk_refs]
     cases hr : kRefs k with
     | nil => rfl
     | cons n r => rw [hr] at h; simp only at h ⊢; rw [nameAt_findE es hg.uniq] at h; rw [find_map]; cases hf : findE es n with
      | none => rw [hf] at h; cases h
      | some _ => rfl
    refine ⟨by unfold kindS; rw [ho]; simp only; rw [if_pos ⟨hko, hcore⟩], rfl, ?_, inRes_lead es hg.uniq k hko⟩
    intro n hn
    have hl2 := refs_len k
    cases hr : kRefs k with
    | nil => rw [hr] at hn; cases hn
    | cons a r =>
     rw [hr] at hn hl2 h
     cases r with
     | nil =>
      simp at hn; subst hn
      simp only at h
      rw [nameAt_findE es hg.uniq] at h
      simpa using h
     | cons b r => simp at hl2)
  have HR0 := Lib.hid (show (inRes (namesE es) k).2 = false → kindS l k = none from by
   intro h
   unfold inRes at h
   unfold kindS
   rw [ho]
   simp only
   cases hko : kOk k with
   | false => simp
   | true =>
    rw [hko, if_pos rfl] at h
    rw [if_neg]
    rintro ⟨-, hc⟩
    rw [coreOk_refs] at hc
    cases hr : kRefs k with
    | nil => rw [hr] at h; cases h
    | cons n r =>
     rw [hr] at h hc
     simp only at h hc
     rw [nameAt_findE es hg.uniq] at h
     rw [find_map] at hc
     cases hf : findE es n with
     | none => rw [hf] at hc; cases hc
     | some _ => rw [hf] at h; cases h)
  obtain ⟨u, hu⟩ : ∃ u, (inRes (namesE es) k).2 = u := ⟨_, rfl⟩
  obtain ⟨q, hq⟩ : ∃ q, (inRes (namesE es) k).1 = q := ⟨_, rfl⟩
  rw [hu, hq] at HTI HR
  rw [hu] at HR0
  clear hp hm hG ho hg hu hq
  generalize (es.map (·.b)).length = z at *
  go_wp2_with fail
  refine HTI.out.mono ?_
  rintro e w2 ⟨rfl, hb2⟩
  go_wp2_with fail
  cases u with
  | true =>
   obtain ⟨r1, r2, r3, r4⟩ := HR.out rfl
   refine bodyPost_ret (v := .tuple #[ptrE (leadE es k), .bool true]) (by unfold ptrE; rw [← r4]; unfold ptrV; simp [results, Tryz.results41]) rfl ?_
   exact ⟨by (repeat (first | with_reducible exact Below.refl _ _ | with_reducible apply below_drew | with_reducible apply below_draws | with_reducible apply below_alloc | with_reducible apply below_set | (with_reducible refine below_trans ?_ (by assumption)) | (with_reducible refine Below.trans ?_ (by assumption)) | exact Nat.le_refl _ | omega | (simp <;> omega))), .inr ⟨es, HO.out, r1, HG.out, (HGR.out.below (Below.alloc (Below.refl _ _) (Nat.le_refl _) _)).below hb2, r2, r3, rfl⟩⟩
  | false =>
   refine bodyPost_ret (v := .tuple #[.pointer (q.map fun b => ⟨b, 0, none⟩), .bool false]) (by simp [results, Tryz.results41]) rfl ?_
   exact ⟨by (repeat (first | with_reducible exact Below.refl _ _ | with_reducible apply below_drew | with_reducible apply below_draws | with_reducible apply below_alloc | with_reducible apply below_set | (with_reducible refine below_trans ?_ (by assumption)) | (with_reducible refine Below.trans ?_ (by assumption)) | exact Nat.le_refl _ | omega | (simp <;> omega))), .inl ⟨HR0.out rfl, _, rfl⟩⟩
def fldP (l n : Bs) (tag : Int) : Option (Bs × Bs × Bs) := match ofS l with
 | none => none
 | some X => match find X n with
  | none => none
  | some t => match fieldV t tag with
   | none => none
   | some f => if t.sort = 69 then some (f.name, [], []) else some (f.name, f.kind, standW X f)
def g1 (o : Option (Bs × Bs × Bs)) : Bs := match o with | some x => x.1 | none => []
def g2 (o : Option (Bs × Bs × Bs)) : Bs := match o with | some x => x.2.1 | none => []
def g3 (o : Option (Bs × Bs × Bs)) : Bs := match o with | some x => x.2.2 | none => []
theorem Graph.fieldAt {w : World} {B : Nat} {es : List Ent} (h : Graph w B es) (hs : Sound es) {e : Ent} (he : e ∈ es) {g n cap i : Nat} {f : Fl} (hv : e.v = .slice (some ⟨g, 0, none⟩) n cap) (hf : e.t.fields[i]? = some f) :
  ∃ q : Option Addr, FAt w g (i * 5) f (.pointer q) ∧ (f.kind ≠ [] → Value.pointer q = ptrE (leadE es f.kind) ∧ kOk f.kind = true ∧ (∀ m ∈ kRefs f.kind, (findE es m).isSome = true)) ∧ (e.t.sort = 69 → f.kind = [] ∧ f.stand = []) ∧ (e.t.sort ≠ 69 → f.kind ≠ []) ∧ g < w.heap.size := by
 obtain ⟨-, hp, -⟩ := h e he
 rw [hv] at hp
 have hi : i < e.t.fields.length := (List.getElem?_eq_some_iff.1 hf).1
 have hil : i < (lkP (namesE es) e.t).length := by rw [lkP_len]; exact hi
 have hfe : e.t.fields[i] = f := (List.getElem?_eq_some_iff.1 hf).2
 obtain ⟨x0, x1, x2, x3, x4⟩ := hp.cells5 i hil
 rw [lkP_at _ _ _ hil hi, hfe] at x0 x1 x2 x3
 have hgf := (hs.good.good e he).2.2.2.2 f (hfe ▸ List.getElem_mem hi)
 have hlt : g < w.heap.size := by
  obtain ⟨ao, c, hv2, -, h0 | ⟨g2, h0, -, h2⟩⟩ := hp.form
  ·rw [h0.2] at hil; simp at hil
  ·injection hv2 with hv2 _ _
   rw [h0] at hv2; injection hv2 with hv2; injection hv2 with hv2 _ _; omega
 refine ⟨_, ⟨x0, x1, x2, x3, x4⟩, fun hne => ?_, fun h69 => ?_, fun h69 e0 => ?_, hlt⟩
 ·have h69 : e.t.sort ≠ 69 := fun h69 => hne (hgf.2.2.2.2.2.2 h69).1
  have hko := hgf.2.2.2.2.2.1 h69
  have hl : (lkP (namesE es) e.t)[i]? = some (lkF (namesE es) f) := by
   unfold lkP; rw [if_neg h69, List.getElem?_map, hf]; rfl
  rw [List.getElem?_eq_getElem hil] at hl
  injection hl with hl
  rw [hl]
  exact ⟨lkA_lead hs.good hko, hko, hs.linked e he h69 f (hfe ▸ List.getElem_mem hi)⟩
 ·exact hgf.2.2.2.2.2.2 h69
 ·have := kOk_len (hgf.2.2.2.2.2.1 h69); rw [e0] at this; simp at this
end Go.Proofs.YtcjooeklehggaaaGreatDoor
