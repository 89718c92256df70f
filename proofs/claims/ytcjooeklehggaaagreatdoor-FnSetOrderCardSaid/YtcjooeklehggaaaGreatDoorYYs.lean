/- Lemmas of this seat. -/
import Derived.Test.YtcjooeklehggaaaGreatDoorZRs
import Derived.Test.YtcjooeklehggaaaGreatDoorYRs
set_option linter.unusedVariables false
set_option linter.unusedSimpArgs false
set_option maxRecDepth 100000
namespace Go.Proofs.YtcjooeklehggaaaGreatDoor.M
theorem kOk_drop {k : Bs} (hk : kOk k = true) (h0 : at_ k 0 = 91 ∨ at_ k 0 = 63) : kOk (k.drop 1) = true := by
 rcases kind_cases k with hn | ⟨n, m, hn, -, -, -, h2⟩
 ·simp [kOk, hn] at hk
 ·cases m with
  | succ m => unfold kOk; rw [kindR_drop hn]; rfl
  | zero =>
   rcases h2 with ⟨-, -, -, e⟩ | ⟨-, e⟩
   ·omega
   ·rcases h0 with h0 | h0 <;> omega
theorem core_drop {X : List Ty} {k : Bs} (hk : kOk k = true) (h0 : at_ k 0 = 91 ∨ at_ k 0 = 63) (hc : coreOk X k = true) : coreOk X (k.drop 1) = true := by
 rcases kind_cases k with hn | ⟨n, m, hn, -, -, -, h2⟩
 ·simp [kOk, hn] at hk
 ·cases m with
  | succ m =>
   have e : coreName (k.drop 1) = coreName k := by unfold coreName; rw [kindR_drop hn, hn]
   unfold coreOk at hc ⊢
   rw [e]; exact hc
  | zero =>
   rcases h2 with ⟨-, -, -, e⟩ | ⟨-, e⟩
   ·omega
   ·rcases h0 with h0 | h0 <;> omega
theorem kind_sorts {X : List Ty} {k : Bs} (hk : kOk k = true) (hc : coreOk X k = true) : k = [110] ∨ k = [116] ∨ k = [102] ∨ at_ k 0 = 91 ∨ at_ k 0 = 63 ∨ at_ k 0 = 64 ∧ ∃ t, refT X k = some t := by
 rcases kind_cases k with hn | ⟨n, m, hn, -, -, h1, h2⟩
 ·simp [kOk, hn] at hk
 ·cases m with
  | succ m =>
   rcases h1 0 (by omega) with h | h
   ·exact .inr (.inr (.inr (.inl h)))
   ·exact .inr (.inr (.inr (.inr (.inl h))))
  | zero =>
   simp only [List.drop_zero] at h2
   rcases h2 with ⟨a, -, -, e⟩ | ⟨-, ⟨e, -⟩ | ⟨e, -⟩ | ⟨e, -⟩⟩
   ·refine .inr (.inr (.inr (.inr (.inr ⟨e, ?_⟩))))
    unfold coreOk coreName at hc
    rw [hn] at hc
    simp only [a, if_false] at hc
    unfold refT
    rw [hn]
    simp only [a, false_or, ne_eq, not_true_eq_false, if_false]
    exact Option.isSome_iff_exists.1 hc
   ·exact .inl e
   ·exact .inr (.inl e)
   ·exact .inr (.inr (.inl e))
theorem valid_core {X : List Ty} (h : validB X = true) {t : Ty} (ht : t ∈ X) (h69 : t.sort ≠ 69) {f : Fl} (hf : f ∈ t.fields) : coreOk X f.kind = true := by
 unfold validB at h
 rw [Bool.and_eq_true, validFrom_eq, Bool.and_eq_true] at h
 have h2 := h.1.2
 unfold linkB at h2
 have h3 := List.all_eq_true.1 h2 t ht
 rw [Bool.or_eq_true] at h3
 rcases h3 with h3 | h3
 ·exact absurd (by simpa using h3) h69
 ·exact List.all_eq_true.1 h3 f hf
theorem asc_find {fs : List Fl} (ha : Asc fs) (i : Nat) (hi : i < fs.length) : fs.find? (fun f => f.tag == fs[i].tag) = some fs[i] := by
 induction fs generalizing i with
 | nil => simp at hi
 | cons f r ih =>
  unfold Asc at ha
  rw [List.pairwise_cons] at ha
  cases i with
  | zero => rw [List.find?_cons]; simp
  | succ i =>
   have hi' : i < r.length := by simpa using hi
   have := ha.1 r[i] (List.getElem_mem hi')
   rw [List.find?_cons]
   have hne : (f.tag == (f :: r)[i + 1].tag) = false := by
    rw [beq_eq_false_iff_ne]
    simp only [List.getElem_cons_succ]
    omega
   rw [hne]
   exact ih ha.2 i hi'
section
variable {X : List Ty} {t : Ty} {i L : Nat} {gs : List Int} {l : List V}
def RecP (X : List Ty) (t : Ty) (i L : Nat) (gs : List Int) (l : List V) : Prop :=
 gs.length = l.length ∧ l.length ≤ i ∧ gs.Pairwise (· < ·) ∧ (∀ (j : Nat) (h1 : j < gs.length) (h2 : j < l.length), ∃ f, fieldM t gs[j] = some f ∧ l[j].kind = f.kind ∧ outV l[j] ≠ standM X f) ∧ (∀ x ∈ l, Tv X x) ∧ (∀ x ∈ l, (outV x).length ≤ L) ∧
  ∀ g ∈ gs, ∃ (j : Nat) (h : j < t.fields.length), j < i ∧ g = t.fields[j].tag
theorem RecP.nil_ (X : List Ty) (t : Ty) (L : Nat) : RecP X t 0 L [] [] := ⟨rfl, by simp, List.Pairwise.nil, by simp, by simp, by simp, by simp⟩
theorem RecP.skip (h : RecP X t i L gs l) : RecP X t (i + 1) L gs l := by
 obtain ⟨h1, h2, h3, h4, h5, h6, h7⟩ := h
 exact ⟨h1, by omega, h3, h4, h5, h6, fun g hg => by obtain ⟨j, a, b, c⟩ := h7 g hg; exact ⟨j, a, by omega, c⟩⟩
theorem RecP.more (h : RecP X t i L gs l) (ha : Asc t.fields) (hi : i < t.fields.length) {y : V} (hy : Tv X y) (hk : y.kind = t.fields[i].kind) (ho : outV y ≠ standM X t.fields[i]) (hl : (outV y).length ≤ L) : RecP X t (i + 1) L (gs ++ [t.fields[i].tag]) (l ++ [y]) := by
 obtain ⟨h1, h2, h3, h4, h5, h6, h7⟩ := h
 refine ⟨by simp [h1], by simp; omega, ?_, ?_, ?_, ?_, ?_⟩
 ·rw [List.pairwise_append]
  refine ⟨h3, List.pairwise_singleton _ _, ?_⟩
  intro a haa b hb
  simp at hb; subst hb
  obtain ⟨j, hj, hji, rfl⟩ := h7 a haa
  exact List.pairwise_iff_getElem.1 ha j i hj hi hji
 ·intro j j1 j2
  by_cases hj : j < l.length
  ·obtain ⟨f, f1, f2, f3⟩ := h4 j (by omega) hj
   refine ⟨f, ?_, ?_, ?_⟩
   ·rw [List.getElem_append_left (by omega)]; exact f1
   ·rw [List.getElem_append_left hj]; exact f2
   ·rw [List.getElem_append_left hj]; exact f3
  ·have e : j = l.length := by simp at j2; omega
   subst e
   refine ⟨t.fields[i], ?_, ?_, ?_⟩
   ·rw [List.getElem_append_right (by omega)]; simp only [h1, Nat.sub_self, List.getElem_singleton]; exact asc_find ha i hi
   ·rw [List.getElem_append_right (by omega)]; simpa using hk
   ·rw [List.getElem_append_right (by omega)]; simpa using ho
 ·intro x hx
  rcases List.mem_append.1 hx with hx | hx
  ·exact h5 x hx
  ·simp at hx; subst hx; exact hy
 ·intro x hx
  rcases List.mem_append.1 hx with hx | hx
  ·exact h6 x hx
  ·simp at hx; subst hx; exact hl
 ·intro g hg
  rcases List.mem_append.1 hg with hg | hg
  ·obtain ⟨j, a, b, c⟩ := h7 g hg; exact ⟨j, a, by omega, c⟩
  ·simp at hg; exact ⟨i, hi, by omega, hg⟩
theorem RecP.tv (h : RecP X t i L gs l) {k : Bs} (hk : kOk k = true) (h64 : at_ k 0 = 64) (hr : refT X k = some t) (hs : t.sort = 82) : Tv X (.mk k [82] gs l) := by
 obtain ⟨h1, h2, h3, h4, h5, h6, h7⟩ := h
 exact .record hk h64 hr hs h1 h3 h4 h5
theorem RecP.len (h : RecP X t i L gs l) (hg : GoodT t) {k : Bs} (h64 : at_ k 0 = 64) (hi : i ≤ 8) : (outV (.mk k [82] gs l)).length ≤ 8 * L + 82 := by
 obtain ⟨h1, h2, h3, h4, h5, h6, h7⟩ := h
 rw [out_record h64 (by decide) (by decide)]
 have a1 := told_tot gs l (fun g hgm => by
  obtain ⟨j, hj, -, rfl⟩ := h7 g hgm
  have := hg.2.2.2.2 _ (List.getElem_mem hj)
  have b1 := this.1
  have b2 := this.2.1
  omega)
 have a2 := tot_le l L h6
 have a3 : l.length * L ≤ 8 * L := Nat.mul_le_mul_right _ (by omega)
 simp; omega
end
def ItP (X : List Ty) (k : Bs) (n L : Nat) (l : List V) : Prop := l.length ≤ n ∧ (∀ x ∈ l, Tv X x ∧ x.kind = k) ∧ ∀ x ∈ l, (outV x).length ≤ L
theorem ItP.nil_ (X : List Ty) (k : Bs) (L : Nat) : ItP X k 0 L [] := ⟨by simp, by simp, by simp⟩
theorem ItP.more {X : List Ty} {k : Bs} {n L : Nat} {l : List V} (h : ItP X k n L l) {y : V} (hy : Tv X y) (hk : y.kind = k) (hl : (outV y).length ≤ L) : ItP X k (n + 1) L (l ++ [y]) := by
 obtain ⟨h1, h2, h3⟩ := h
 refine ⟨by simp; omega, ?_, ?_⟩
 ·intro x hx
  rcases List.mem_append.1 hx with hx | hx
  ·exact h2 x hx
  ·simp at hx; subst hx; exact ⟨hy, hk⟩
 ·intro x hx
  rcases List.mem_append.1 hx with hx | hx
  ·exact h3 x hx
  ·simp at hx; subst hx; exact hl
theorem join_tot (L : List Bs) (n : Nat) (h : ∀ x ∈ L, x.length ≤ n) : (joinC L).length ≤ L.length * (n + 1) := by
 induction L with
 | nil => simp [joinC]
 | cons x r ih =>
  have h1 := h x (by simp)
  have h2 := ih (fun a ha => h a (by simp [ha]))
  cases r with
  | nil => simp [joinC]; omega
  | cons y r =>
   simp only [joinC, List.length_append, List.length_cons] at h2 ⊢
   rw [Nat.succ_mul]
   omega
theorem ItP.list {X : List Ty} {k : Bs} {n L : Nat} {l : List V} (h : ItP X (k.drop 1) n L l) (hn : n ≤ 3) (hk : kOk k = true) (h91 : at_ k 0 = 91) : Tv X (.mk k [] [] l) ∧ (outV (.mk k [] [] l)).length ≤ 3 * L + 5 := by
 obtain ⟨h1, h2, h3⟩ := h
 refine ⟨.list hk h91 (by omega) (fun x hx => (h2 x hx).1) (fun x hx => (h2 x hx).2), ?_⟩
 rw [out_list h91]
 have := join_tot (l.map outV) L (by intro x hx; obtain ⟨y, hy, rfl⟩ := List.mem_map.1 hx; exact h3 y hy)
 have a3 : (l.map outV).length * (L + 1) ≤ 3 * (L + 1) := Nat.mul_le_mul_right _ (by simp; omega)
 simp at this a3 ⊢; omega
theorem draw_may {X : List Ty} {k : Bs} (hk : kOk k = true) (h : at_ k 0 = 63) : Tv X (.mk k [] [] []) ∧ (outV (.mk k [] [] [])).length ≤ 1 := ⟨.none hk h, by rw [out_none h]; simp⟩
theorem draw_some {X : List Ty} {k : Bs} {x : V} {L : Nat} (hk : kOk k = true) (h : at_ k 0 = 63) (hx : Tv X x) (hxk : x.kind = k.drop 1) (hl : (outV x).length ≤ L) : Tv X (.mk k [] [] [x]) ∧ (outV (.mk k [] [] [x])).length ≤ L + 1 := ⟨.some hk h hx hxk, by rw [out_some h]; simp; omega⟩
theorem draw_enum {X : List Ty} {k : Bs} {t : Ty} {f : Fl} (hk : kOk k = true) (h : at_ k 0 = 64) (hr : refT X k = some t) (hs : t.sort = 69) (hf : fieldM t f.tag = some f) (hb : 0 ≤ f.tag ∧ f.tag ≤ 200) : Tv X (.mk k [69] [f.tag] []) ∧ (outV (.mk k [69] [f.tag] [])).length ≤ 4 := by
 refine ⟨.enum hk h hr hs hf, ?_⟩
 have h3 : (dec f.tag).length ≤ 3 := by unfold dec; exact decN_le 3 _ (by omega) (by omega)
 rw [out_enum h]; simp; omega
theorem draw_union {X : List Ty} {k : Bs} {t : Ty} {f : Fl} {x : V} {L : Nat} (hk : kOk k = true) (h : at_ k 0 = 64) (hr : refT X k = some t) (hs : t.sort = 85) (hf : fieldM t f.tag = some f) (hb : 0 ≤ f.tag ∧ f.tag ≤ 200) (hx : Tv X x) (hxk : x.kind = f.kind) (hl : (outV x).length ≤ L) :
  Tv X (.mk k [85] [f.tag] [x]) ∧ (outV (.mk k [85] [f.tag] [x])).length ≤ L + 6 := by
 refine ⟨.union hk h hr hs hf hxk hx, ?_⟩
 have h3 : (dec f.tag).length ≤ 3 := by unfold dec; exact decN_le 3 _ (by omega) (by omega)
 rw [out_union h]; simp; omega
theorem draw_num {X : List Ty} {n : Int} (h0 : 0 ≤ n) (h1 : n ≤ 999999) : Tv X (.mk [110] (dec n) [] []) ∧ (outV (.mk [110] (dec n) [] [])).length ≤ 6 := by
 refine ⟨.num (by rw [numL_self h0 h1 (by omega)]; rfl), ?_⟩
 rw [out_plain (by decide) (by decide) (by decide)]
 unfold dec; exact decN_le 6 _ (by omega) (by omega)
theorem draw_text {X : List Ty} {s : Bs} (h : textL s = true) (hl : s.length ≤ 14) : Tv X (.mk [116] s [] []) ∧ (outV (.mk [116] s [] [])).length ≤ 14 := by
 refine ⟨.text h, ?_⟩
 rw [out_plain (by decide) (by decide) (by decide)]; exact hl
theorem draw_flag {X : List Ty} {s : Bs} (h : s = [121, 101, 115] ∨ s = [110, 111]) : Tv X (.mk [102] s [] []) ∧ (outV (.mk [102] s [] [])).length ≤ 3 := by
 rcases h with rfl | rfl
 ·exact ⟨.yes, by rw [out_plain (by decide) (by decide) (by decide)]; simp⟩
 ·exact ⟨.no, by rw [out_plain (by decide) (by decide) (by decide)]; simp⟩
def StdF (f : Fl) : Prop := f.stand = [] ∨ standB f.kind f.stand = true
theorem readField_std {s : Bs} {c : Int} {f : Fl} (h : readField s c = some f) : StdF f := by
 unfold readField fieldOf at h
 unfold StdF
 generalize cutL 61 ((cutL 58 s).getD 2 []) = b at h
 generalize cutL 58 s = p at h
 by_cases hl : p.length = (if c = 69 then 2 else 3)
 ·rw [if_pos hl] at h
  cases hn : numL (p.getD 0 []) 200 with
  | none => rw [hn] at h; cases h
  | some tag =>
   rw [hn] at h
   simp only at h
   by_cases h1 : 1 ≤ tag ∧ isName (p.getD 1 []) = true
   ·rw [if_pos h1] at h
    by_cases h69 : c = 69
    ·rw [if_pos h69] at h; injection h with h; subst h; exact .inl rfl
    ·rw [if_neg h69] at h
     by_cases h2 : b.length = 2
     ·rw [if_pos h2] at h
      split at h
      ·rename_i h3
       injection h with h; subst h; exact .inr h3.2
      ·cases h
     ·rw [if_neg h2] at h
      split at h
      ·injection h with h; subst h; exact .inl rfl
      ·cases h
   ·rw [if_neg h1] at h; cases h
 ·rw [if_neg hl] at h; cases h
theorem readFields_std {c : Int} {L : List Bs} {fs x : List Fl} (hf : ∀ f ∈ fs, StdF f) (h : readFields c L fs = some x) : ∀ f ∈ x, StdF f := by
 induction L generalizing fs with
 | nil => injection h with h; subst h; exact hf
 | cons s r ih =>
  rw [readFields] at h
  split at h
  ·cases h
  ·rename_i f hr
   split at h
   ·cases h
   ·refine ih ?_ h
    intro g hg
    rcases List.mem_append.1 hg with hg | hg
    ·exact hf g hg
    ·simp at hg; subst hg; exact readField_std hr
theorem readType_std {s : Bs} {t : Ty} (h : readType s = some t) : ∀ f ∈ t.fields, StdF f := by
 unfold readType at h
 split at h
 ·split at h
  ·split at h
   ·split at h
    ·injection h with h; subst h; simp
    ·cases h
   ·unfold tyOf at h
    split at h
    ·cases h
    ·rename_i fs hr
     split at h
     ·injection h with h; subst h; exact readFields_std (by simp) hr
     ·cases h
  ·cases h
 ·cases h
theorem readTypes_std {L : List Bs} {P X : List Ty} (hp : ∀ t ∈ P, ∀ f ∈ t.fields, StdF f) (h : readTypes L P = some X) : ∀ t ∈ X, ∀ f ∈ t.fields, StdF f := by
 induction L generalizing P with
 | nil => injection h with h; subst h; exact hp
 | cons s r ih =>
  rw [readTypes] at h
  split at h
  ·cases h
  ·rename_i t hr
   refine ih ?_ h
   intro u hu
   rcases List.mem_append.1 hu with hu | hu
   ·exact hp u hu
   ·simp at hu; subst hu; exact readType_std hr
theorem ofS_std {s : Bs} {X : List Ty} (h : ofS s = some X) : ∀ t ∈ X, ∀ f ∈ t.fields, StdF f := by
 unfold ofS at h
 split at h
 ·split at h
  ·cases h
  ·rename_i Y hY
   split at h
   ·injection h with h; subst h
    exact readTypes_std (by simp) hY
   ·cases h
 ·cases h
def IsVal (X : List Ty) (k s : Bs) (d : Nat) : Prop := ∃ y, Tv X y ∧ y.kind = k ∧ outV y = s ∧ deepV y ≤ d ∧ sizeV y ≤ 1
theorem deep0 (k t : Bs) (gs : List Int) : deepV (.mk k t gs []) = 1 := rfl
theorem size0 (k t : Bs) (gs : List Int) : sizeV (.mk k t gs []) ≤ 1 := by rw [sizeV]; split <;> simp [sizesV]
theorem size1 (k : Bs) (gs : List Int) (x : V) : sizeV (.mk k [85] gs [x]) = sizeV x := by rw [sizeV, if_pos (.inr (.inr (.inl rfl)))]; simp [sizesV]
theorem deep1 (k t : Bs) (gs : List Int) (x : V) : deepV (.mk k t gs [x]) = deepV x + 1 := by simp [deepV, deepsV]
theorem find_head (l : List Fl) (h : 0 < l.length) : l.find? (fun f => f.tag == l[0].tag) = some l[0] := by
 cases l with
 | nil => simp at h
 | cons a r => simp
theorem num_zero : numL [48] 999999 = some 0 := by
 have h := numL_self (g := 0) (top := 999999) (by decide) (by decide) (by decide)
 rw [show dec 0 = [48] by unfold dec; rw [decN]; rfl] at h
 exact h
theorem standB_val {X : List Ty} {k s : Bs} (h : standB k s = true) : IsVal X k s 1 := by
 unfold standB at h
 split at h
 ·rename_i e; subst e
  simp at h
  exact ⟨.mk [110] s [] [], .num (by rw [Option.isSome_iff_exists]; exact Option.isSome_iff_exists.1 h.1), rfl, out_plain (by decide) (by decide) (by decide), Nat.le_refl _, size0 ..⟩
 ·split at h
  ·rename_i e; subst e
   simp at h
   exact ⟨.mk [116] s [] [], .text h.1, rfl, out_plain (by decide) (by decide) (by decide), Nat.le_refl _, size0 ..⟩
  ·split at h
   ·rename_i e; subst e
    obtain rfl : s = [121, 101, 115] := by simpa using h
    exact ⟨_, .yes, rfl, out_plain (by decide) (by decide) (by decide), Nat.le_refl _, size0 ..⟩
   ·cases h
theorem stands_val {X : List Ty} (hg : ∀ t ∈ X, GoodT t) (hv : validB X = true) (n : Nat) (k s : Bs) (h : standsF X n k = some s) (hk : kOk k = true) (hc : coreOk X k = true) : IsVal X k s n := by
 induction n generalizing k s with
 | zero => cases h
 | succ n ih =>
  rw [standsF] at h
  split at h
  ·rename_i h91
   injection h with h; subst h
   exact ⟨.mk k [] [] [], .list hk h91 (by simp) (by simp) (by simp), rfl, by rw [out_list h91]; rfl, by rw [deep0]; omega, size0 ..⟩
  ·rename_i h91
   split at h
   ·rename_i h63
    injection h with h; subst h
    exact ⟨.mk k [] [] [], .none hk h63, rfl, out_none h63, by rw [deep0]; omega, size0 ..⟩
   ·rename_i h63
    cases hr : refT X k with
    | none =>
     rw [hr] at h
     injection h with h; subst h
     rcases kind_sorts hk hc with rfl | rfl | rfl | h | h | ⟨-, t, h⟩
     ·exact ⟨.mk [110] [48] [] [], .num (by rw [num_zero]; rfl), rfl, out_plain (by decide) (by decide) (by decide), by rw [deep0]; omega, size0 ..⟩
     ·exact ⟨.mk [116] [39, 39] [] [], .text (by decide), rfl, out_plain (by decide) (by decide) (by decide), by rw [deep0]; omega, size0 ..⟩
     ·exact ⟨.mk [102] [110, 111] [] [], .no, rfl, out_plain (by decide) (by decide) (by decide), by rw [deep0]; omega, size0 ..⟩
     ·exact absurd h h91
     ·exact absurd h h63
     ·rw [hr] at h; cases h
    | some t =>
     have h64 : at_ k 0 = 64 := by
      rcases kind_sorts hk hc with rfl | rfl | rfl | h | h | ⟨h, -⟩
      ·cases hr
      ·cases hr
      ·cases hr
      ·exact absurd h h91
      ·exact absurd h h63
      ·exact h
     have htm := refT_mem hr
     have hgt := hg t htm
     rw [hr] at h
     simp only at h
     split at h
     ·rename_i h82
      injection h with h; subst h
      exact ⟨.mk k [82] [] [], .record hk h64 hr h82 rfl List.Pairwise.nil (by simp) (by simp), rfl, by rw [out_record h64 (by decide) (by decide)]; rfl, by rw [deep0]; omega, size0 ..⟩
     ·rename_i h82
      have hne : t.fields ≠ [] := hgt.2.2.2.1 h82
      have hpos : 0 < t.fields.length := List.length_pos_iff.2 hne
      have ht0 : t.fields[0].tag = tag0 t := by unfold tag0; rw [List.getD_eq_getElem?_getD, List.getElem?_eq_getElem hpos]; rfl
      have hk0' : t.fields[0].kind = kind0 t := by unfold kind0; rw [List.getD_eq_getElem?_getD, List.getElem?_eq_getElem hpos]; rfl
      have hfm : fieldM t (tag0 t) = some t.fields[0] := by have := find_head t.fields hpos; rw [ht0] at this; exact this
      split at h
      ·rename_i h69
       injection h with h; subst h
       exact ⟨.mk k [69] [tag0 t] [], .enum hk h64 hr h69 hfm, rfl, by rw [out_enum h64]; rfl, by rw [deep0]; omega, size0 ..⟩
      ·rename_i h69
       have h85 : t.sort = 85 := by
        have := hgt.1
        unfold isSort at this
        simp at this
        omega
       cases hs : standsF X n (kind0 t) with
       | none => rw [hs] at h; cases h
       | some q =>
        rw [hs] at h
        injection h with h; subst h
        obtain ⟨y, y1, y2, y3, y4, y5⟩ := ih _ _ hs (kind0_ok hgt h82 h69) (by rw [← hk0']; exact valid_core hv htm h69 (List.getElem_mem hpos))
        exact ⟨.mk k [85] [tag0 t] [y], .union hk h64 hr h85 hfm (by rw [y2, hk0']) y1, rfl, by rw [out_union h64]; simp [y3], by rw [deep1]; omega, by rw [size1]; exact y5⟩
theorem standsV_val {X : List Ty} (hg : ∀ t ∈ X, GoodT t) (hv : validB X = true) (h8 : X.length ≤ 8) {k : Bs} (hk : kOk k = true) (hc : coreOk X k = true) : IsVal X k (standsV X k) 11 := by
 obtain ⟨y, y1, y2, y3, y4, y5⟩ := stands_val hg hv _ k _ (standsV_ok hv hg k) hk hc
 exact ⟨y, y1, y2, y3, by omega, y5⟩
theorem standM_val {s : Bs} {X : List Ty} (h : ofS s = some X) {t : Ty} (ht : t ∈ X) (h69 : t.sort ≠ 69) {f : Fl} (hf : f ∈ t.fields) : IsVal X f.kind (standM X f) 11 := by
 obtain ⟨hg, h8, hv⟩ := ofS_some h
 unfold standM
 split
 ·exact standsV_val hg hv h8 (((hg t ht).2.2.2.2 f hf).2.2.2.2.2.1 h69) (valid_core hv ht h69 hf)
 ·rename_i hne
  rcases ofS_std h t ht f hf with h | h
  ·exact absurd h hne
  ·obtain ⟨y, y1, y2, y3, y4, y5⟩ := standB_val (X := X) h
   exact ⟨y, y1, y2, y3, by omega, y5⟩
theorem whole_val {X : List Ty} (hg : ∀ t ∈ X, GoodT t) {k s : Bs} {d : Nat} (h : IsVal X k s d) (hd : d ≤ 12) (hl : s.length ≤ 400) : ∃ y, wholeP X k s = some y ∧ Tv X y ∧ y.kind = k ∧ outV y = s ∧ sizeV y ≤ 1 := by
 obtain ⟨y, y1, rfl, rfl, y4, y5⟩ := h
 refine ⟨y, ?_, y1, rfl, rfl, y5⟩
 unfold wholeP
 rw [if_pos hl]
 have := whole_back hg y1 12
 rw [if_pos (by omega)] at this
 exact this
theorem atP_notin (gs : List Int) (l : List V) (t : Int) (h : ∀ g ∈ gs, g ≠ t) : atP gs l t = none := by
 induction gs generalizing l with
 | nil => cases l <;> rfl
 | cons g gs ih =>
  cases l with
  | nil => rfl
  | cons x xs => rw [atP, if_neg (h g (by simp)), ih xs (fun a ha => h a (by simp [ha]))]
theorem atP_wo (tag t : Int) (gs : List Int) (l : List V) : atP (woP tag gs l).1 (woP tag gs l).2 t = if t = tag then none else atP gs l t := by
 induction gs generalizing l with
 | nil => cases l <;> simp [woP, atP]
 | cons g gs ih =>
  cases l with
  | nil => simp [woP, atP]
  | cons x xs =>
   rw [woP]
   split
   ·rename_i hg
    rw [ih xs, atP]
    by_cases ht : t = tag
    ·rw [if_pos ht, if_pos ht]
    ·rw [if_neg ht, if_neg ht, if_neg (by omega)]
   ·rename_i hg
    rw [atP, atP, ih xs]
    by_cases ht : t = tag
    ·rw [if_pos ht, if_pos ht, if_neg (by omega)]
    ·rw [if_neg ht, if_neg ht]
theorem atP_put (tag t : Int) (y : V) (gs : List Int) (l : List V) (h : gs.length = l.length) : atP (putP tag y gs l).1 (putP tag y gs l).2 t = if t = tag ∧ (∀ g ∈ gs, g ≠ tag) then some y else (if t = tag then atP (putP tag y gs l).1 (putP tag y gs l).2 t else atP gs l t) := by
 induction gs generalizing l with
 | nil =>
  cases l with
  | nil =>
   show (if tag = t then some y else none) = _
   by_cases ht : t = tag
   ·rw [if_pos ht.symm, if_pos ⟨ht, by simp⟩]
   ·rw [if_neg (by omega), if_neg (fun h => ht h.1), if_neg ht]; rfl
  | cons _ _ => simp at h
 | cons g gs ih =>
  cases l with
  | nil => simp at h
  | cons x xs =>
   have ih' := ih xs (by simpa using h)
   by_cases ht : t = tag
   ·subst ht
    by_cases hn : ∀ g' ∈ g :: gs, g' ≠ t
    ·rw [if_pos ⟨rfl, hn⟩, putP]
     split
     ·have := hn g (by simp)
      rw [atP, if_neg this, ih', if_pos ⟨rfl, fun a ha => hn a (by simp [ha])⟩]
     ·rw [atP, if_pos rfl]
    ·rw [if_neg (fun h => hn h.2), if_pos rfl]
   ·rw [if_neg (fun h => ht h.1), if_neg ht, putP]
    rw [if_neg (fun h => ht h.1), if_neg ht] at ih'
    split
    ·rw [atP, atP, ih']
    ·show (if tag = t then some y else atP (g :: gs) (x :: xs) t) = _
     rw [if_neg (by omega)]
theorem atP_get {gs : List Int} {l : List V} {t : Int} {y : V} (h : atP gs l t = some y) : ∃ (j : Nat) (h1 : j < gs.length) (h2 : j < l.length), gs[j] = t ∧ l[j] = y := by
 induction gs generalizing l with
 | nil => cases h
 | cons g gs ih =>
  cases l with
  | nil => cases h
  | cons x xs =>
   rw [atP] at h
   split at h
   ·rename_i hg
    injection h with h
    exact ⟨0, by simp, by simp, hg, h⟩
   ·obtain ⟨j, h1, h2, e1, e2⟩ := ih h
    exact ⟨j + 1, by simpa using h1, by simpa using h2, by simpa using e1, by simpa using e2⟩
theorem tv_fields {X : List Ty} {k : Bs} {gs : List Int} {l : List V} (h : Tv X (.mk k [82] gs l)) {t : Ty} (ht : refT X k = some t) : ∀ (j : Nat) (h1 : j < gs.length) (h2 : j < l.length), ∃ f, fieldM t gs[j] = some f ∧ l[j].kind = f.kind ∧ outV l[j] ≠ standM X f := by
 cases h with
 | num h => exact absurd h (by decide)
 | text h => exact absurd h (by decide)
 | record hk h' hr hs hl' ha' hf' hx' =>
  have := hr.symm.trans ht
  injection this with this
  subst this
  exact hf'
def Up (p : List Int × List V) : Prop := p.1.length = p.2.length ∧ p.1.Pairwise (· < ·)
theorem up_ext {p q : List Int × List V} (hp : Up p) (hq : Up q) (h : ∀ t, atP p.1 p.2 t = atP q.1 q.2 t) : p = q := by
 obtain ⟨gs, l⟩ := p
 obtain ⟨gs', l'⟩ := q
 obtain ⟨h1, h2⟩ := hp
 obtain ⟨h3, h4⟩ := hq
 simp only at h h1 h2 h3 h4
 induction gs generalizing l gs' l' with
 | nil =>
  obtain rfl : l = [] := by simpa using h1.symm
  cases gs' with
  | nil =>
   obtain rfl : l' = [] := by simpa using h3.symm
   rfl
  | cons g gs' =>
   cases l' with
   | nil => simp at h3
   | cons x l' =>
    have := h g
    rw [show atP (g :: gs') (x :: l') g = some x from if_pos rfl] at this
    cases this
 | cons g gs ih =>
  cases l with
  | nil => simp at h1
  | cons x l =>
   rw [List.pairwise_cons] at h2
   cases gs' with
   | nil =>
    obtain rfl : l' = [] := by simpa using h3.symm
    have := h g
    rw [show atP (g :: gs) (x :: l) g = some x from if_pos rfl] at this
    cases this
   | cons g' gs' =>
    cases l' with
    | nil => simp at h3
    | cons x' l' =>
     rw [List.pairwise_cons] at h4
     have e1 : ¬ g < g' := by
      intro hlt
      have := h g
      rw [show atP (g :: gs) (x :: l) g = some x from if_pos rfl, atP_notin (g' :: gs') (x' :: l') g (by
       intro a ha
       rcases List.mem_cons.1 ha with rfl | ha
       ·omega
       ·have := h4.1 a ha; omega)] at this
      cases this
     have e2 : ¬ g' < g := by
      intro hlt
      have := h g'
      rw [show atP (g' :: gs') (x' :: l') g' = some x' from if_pos rfl, atP_notin (g :: gs) (x :: l) g' (by
       intro a ha
       rcases List.mem_cons.1 ha with rfl | ha
       ·omega
       ·have := h2.1 a ha; omega)] at this
      cases this
     obtain rfl : g = g' := by omega
     have e3 := h g
     rw [show atP (g :: gs) (x :: l) g = some x from if_pos rfl, show atP (g :: gs') (x' :: l') g = some x' from if_pos rfl] at e3
     injection e3 with e3
     subst e3
     have := ih l gs' l' (by
      intro t
      by_cases ht : g = t
      ·subst ht
       rw [atP_notin gs l g (fun a ha => by have := h2.1 a ha; omega), atP_notin gs' l' g (fun a ha => by have := h4.1 a ha; omega)]
      ·have := h t
       rw [atP, if_neg ht, atP, if_neg ht] at this
       exact this) (by simpa using h1) h2.2 (by simpa using h3) h4.2
     injection this with a b
     rw [a, b]
def setG (tag : Int) (o : Option V) (p : List Int × List V) : List Int × List V := match o with
 | none => woP tag p.1 p.2
 | some y => putP tag y (woP tag p.1 p.2).1 (woP tag p.1 p.2).2
theorem setG_up {tag : Int} {o : Option V} {p : List Int × List V} (h : Up p) : Up (setG tag o p) := by
 obtain ⟨h1, h2⟩ := h
 cases o with
 | none => exact ⟨(wo_len tag p.1 p.2 h1).1, wo_asc tag p.1 p.2 h2⟩
 | some y =>
  obtain ⟨a, b⟩ := put_len tag y _ _ (wo_len tag p.1 p.2 h1).1
  exact ⟨by show (putP _ _ _ _).1.length = (putP _ _ _ _).2.length; omega, put_asc tag y _ _ (wo_asc tag p.1 p.2 h2) (fun g hg => (wo_mem tag p.1 p.2 g hg).2)⟩
theorem setG_at {tag : Int} {o : Option V} {p : List Int × List V} (h : Up p) (t : Int) : atP (setG tag o p).1 (setG tag o p).2 t = if t = tag then o else atP p.1 p.2 t := by
 cases o with
 | none => exact atP_wo tag t p.1 p.2
 | some y =>
  have h1 := atP_put tag t y (woP tag p.1 p.2).1 (woP tag p.1 p.2).2 (wo_len tag p.1 p.2 h.1).1
  have hn : ∀ g ∈ (woP tag p.1 p.2).1, g ≠ tag := fun g hg => (wo_mem tag p.1 p.2 g hg).2
  show atP (putP _ _ _ _).1 (putP _ _ _ _).2 t = _
  rw [h1]
  by_cases ht : t = tag
  ·rw [if_pos ⟨ht, hn⟩, if_pos ht]
  ·rw [if_neg (fun h => ht h.1), if_neg ht, if_neg ht, atP_wo, if_neg ht]
theorem setG_self {tag : Int} {p : List Int × List V} (h : Up p) : setG tag (atP p.1 p.2 tag) p = p := by
 refine up_ext (setG_up h) h fun t => ?_
 rw [setG_at h]
 split
 ·rename_i ht; rw [ht]
 ·rfl
theorem setG_twice {tag : Int} {o o' : Option V} {p : List Int × List V} (h : Up p) : setG tag o (setG tag o' p) = setG tag o p := by
 refine up_ext (setG_up (setG_up h)) (setG_up h) fun t => ?_
 rw [setG_at (setG_up h), setG_at h, setG_at h]
 split <;> rfl
theorem setG_comm {a b : Int} {o o' : Option V} {p : List Int × List V} (h : Up p) (hab : a ≠ b) : setG a o (setG b o' p) = setG b o' (setG a o p) := by
 refine up_ext (setG_up (setG_up h)) (setG_up (setG_up h)) fun t => ?_
 rw [setG_at (setG_up h), setG_at h, setG_at (setG_up h), setG_at h]
 by_cases ha : t = a
 ·rw [if_pos ha, if_neg (by omega), if_pos ha]
 ·rw [if_neg ha, if_neg ha]
def tellF (X : List Ty) (f : Fl) (y : V) : Option V := if outV y = standM X f then none else some y
def textF (X : List Ty) (f : Fl) (o : Option V) : Bs := match o with | some y => outV y | none => standM X f
theorem text_tell (X : List Ty) (f : Fl) (y : V) : textF X f (tellF X f y) = outV y := by
 unfold tellF
 split
 ·rename_i h; exact h.symm
 ·rfl
end Go.Proofs.YtcjooeklehggaaaGreatDoor.M
