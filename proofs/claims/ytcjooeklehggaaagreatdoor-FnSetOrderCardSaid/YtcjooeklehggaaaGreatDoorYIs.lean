/- Lemmas of this seat. -/
import Derived.Test.YtcjooeklehggaaaGreatDoorZAs
import Derived.Test.YtcjooeklehggaaaGreatDoorYAs
set_option linter.unusedVariables false
set_option linter.unusedSimpArgs false
set_option maxRecDepth 100000
namespace Go.Proofs.YtcjooeklehggaaaGreatDoor.M
abbrev digs : Bs := [48, 49, 50, 51, 52, 53, 54, 55, 56, 57]
theorem digs_in (x : UInt8) : digs.contains x = isDig (x.toNat : Int) := by
 rw [Bool.eq_iff_iff]
 unfold isDig
 simp only [digs, List.contains_cons, List.contains_nil, Bool.or_false, Bool.or_eq_true, beq_iff_eq, Bool.and_eq_true, decide_eq_true_iff, ← UInt8.toNat_inj]
 simp only [show (48 : UInt8).toNat = 48 from rfl, show (49 : UInt8).toNat = 49 from rfl, show (50 : UInt8).toNat = 50 from rfl, show (51 : UInt8).toNat = 51 from rfl, show (52 : UInt8).toNat = 52 from rfl, show (53 : UInt8).toNat = 53 from rfl, show (54 : UInt8).toNat = 54 from rfl, show (55 : UInt8).toNat = 55 from rfl, show (56 : UInt8).toNat = 56 from rfl, show (57 : UInt8).toNat = 57 from rfl]
 omega
theorem digs_drop (s : Bs) : s.dropWhile (fun x => digs.contains x) = s.drop (digsN s) := by
 induction s with
 | nil => rfl
 | cons x r ih =>
  rw [List.dropWhile_cons, digs_in, digsN]
  split
  ·rw [List.drop_succ_cons]; exact ih
  ·rfl
def cutDecP (s : Bs) (top : Int) : Option Int := numL (s.take (digsN s)) top
theorem chAt_cutA (c : Int) (l : Bs) : chAt c l = (cutA c l).length := by
 induction l with
 | nil => rfl
 | cons x r ih => rw [chAt, cutA]; split <;> simp [ih]
theorem cutA_all (c : Int) (l : Bs) (h : cutHas c l = false) : cutA c l = l := (cut_hasnt c l h).2.1
theorem cut_at (c : Int) (l : Bs) (h : cutHas c l = true) : ∃ x : UInt8, (x.toNat : Int) = c ∧ l = cutA c l ++ (x :: cutB c l) := by
 induction l with
 | nil => cases h
 | cons x r ih =>
  rw [cutHas] at h
  rw [cutA, cutB]
  split
  ·rename_i hx; exact ⟨x, hx, rfl⟩
  ·rename_i hx
   rw [if_neg hx] at h
   obtain ⟨y, hy, e⟩ := ih h
   exact ⟨y, hy, by rw [List.cons_append, ← e]⟩
def textP (s : Bs) : Option (Bs × Bs) := if at_ s 0 = 39 ∧ cutHas 39 (s.drop 1) = true ∧ txtB (cutA 39 (s.drop 1)) = true then some (cutA 39 (s.drop 1), cutB 39 (s.drop 1)) else none
theorem quoteP_39 (m : Bs) : quoteP (39 :: (m ++ [39])) = txtB m := by unfold quoteP; simp
theorem plainR_text (s : Bs) : plainR s [116] = (textP s).map fun y => (.mk [116] (39 :: (y.1 ++ [39])) [] [], y.2) := by
 unfold plainR
 rw [if_neg (by decide), if_pos rfl, ← quoteP_eq]
 cases s with
 | nil => rfl
 | cons x r =>
  unfold textP
  rw [at_cons0, List.drop_succ_cons, List.drop_zero]
  by_cases hx : (x.toNat : Int) = 39
  ·have hx' : x = 39 := UInt8.toNat_inj.1 (by rw [show (39 : UInt8).toNat = 39 from rfl]; omega)
   subst hx'
   cases hc : cutHas 39 r with
   | true =>
    obtain ⟨y, hy, e⟩ := cut_at 39 r hc
    have hy' : y = 39 := UInt8.toNat_inj.1 (by rw [show (39 : UInt8).toNat = 39 from rfl]; omega)
    subst hy'
    have hn : strokeN (39 :: r) = (cutA 39 r).length + 2 := by
     unfold strokeN
     rw [List.drop_succ_cons, List.drop_zero, chAt_cutA]
     have := congrArg List.length e
     simp at this ⊢; omega
    obtain ⟨a, ha⟩ : ∃ a, cutA 39 r = a := ⟨_, rfl⟩
    obtain ⟨b, hb⟩ : ∃ b, cutB 39 r = b := ⟨_, rfl⟩
    rw [hn, ha, hb]
    rw [ha, hb] at e
    have ht : (39 :: r).take (a.length + 2) = 39 :: (a ++ [39]) := by
     rw [e, show a.length + 2 = (a.length + 1) + 1 from rfl, List.take_succ_cons, show a ++ 39 :: b = (a ++ [39]) ++ b by simp, List.take_left' (by simp)]
    have hd : (39 :: r).drop (a.length + 2) = b := by
     rw [e, show a.length + 2 = (a.length + 1) + 1 from rfl, List.drop_succ_cons, show a ++ 39 :: b = (a ++ [39]) ++ b by simp, List.drop_left' (by simp)]
    rw [ht, hd, quoteP_39]
    cases txtB a <;> simp
   | false =>
    have hn : strokeN (39 :: r) = (39 :: r).length := by
     unfold strokeN
     rw [List.drop_succ_cons, List.drop_zero, chAt_cutA, cutA_all 39 r hc]
     simp
    rw [hn, List.take_length]
    have hq : quoteP (39 :: r) = false := by
     rcases concat_cases r with hr | ⟨m, y, hr⟩
     ·rw [hr]; rfl
     ·rw [hr] at hc ⊢
      cases h : quoteP (39 :: (m ++ [y])) with
      | false => rfl
      | true =>
       unfold quoteP at h
       simp at h
       obtain ⟨rfl, -⟩ := h
       have : cutHas 39 (m ++ [39]) = true := (has_iff _ _).2 ⟨39, by simp, rfl⟩
       rw [this] at hc; cases hc
    rw [hq]; simp
  ·have hn : ∃ m, strokeN (x :: r) = m + 1 := ⟨strokeN (x :: r) - 1, by unfold strokeN; simp⟩
   obtain ⟨m, hn⟩ := hn
   have hq : quoteP ((x :: r).take (m + 1)) = false := by
    rw [List.take_succ_cons]
    unfold quoteP
    have : ((x :: r.take m).head? == some (39 : UInt8)) = false := by
     rw [List.head?_cons, beq_eq_false_iff_ne]
     intro e; injection e with e; rw [e] at hx; exact hx rfl
    rw [this]; rfl
   rw [hn, hq]; simp [hx]
section
variable {σ : Type}
def rowLoop (step : σ → Bs → Option (σ × Bs)) (last : Int) : Nat → σ → Bs → Option (σ × Bs)
 | 0, _, _ => none
 | n + 1, x, s => match step x s with
  | none => none
  | some y => if at_ y.2 0 = last then some (y.1, y.2.drop 1) else if at_ y.2 0 = 44 then rowLoop step last n y.1 (y.2.drop 1) else none
def rowR (step : σ → Bs → Option (σ × Bs)) (first last : Int) (x : σ) (s : Bs) : Option (σ × Bs) :=
 if at_ s 0 = first then (if at_ (s.drop 1) 0 = last then some (x, (s.drop 1).drop 1) else rowLoop step last ((s.drop 1).length + 1) x (s.drop 1)) else none
end
def stepL (rd : Bs → Option (V × Bs)) (acc : List V) (s : Bs) : Option (List V × Bs) := match rd s with
 | none => none
 | some y => if acc.length + 1 ≤ 20 then some (acc ++ [y.1], y.2) else none
theorem loop_items {rd : Bs → Option (V × Bs)} (hr : ∀ s y, rd s = some y → y.2.length ≤ s.length) (n : Nat) (s : Bs) (acc : List V) (hs : s.length < n) (ha : acc.length ≤ 20) :
  rowLoop (stepL rd) 93 n acc s = itemsR rd (20 - acc.length) s acc := by
 induction n generalizing s acc with
 | zero => omega
 | succ n ih =>
  rw [rowLoop]
  unfold stepL
  by_cases h20 : acc.length = 20
  ·rw [h20, itemsR]
   cases h : rd s with
   | none => rfl
   | some y => simp only; rw [if_neg (by omega)]
  ·obtain ⟨m, hm⟩ : ∃ m, 20 - acc.length = m + 1 := ⟨20 - acc.length - 1, by omega⟩
   rw [hm, itemsR]
   cases h : rd s with
   | none => rfl
   | some y =>
    simp only
    rw [if_pos (by omega)]
    simp only
    split
    ·rfl
    ·split
     ·rename_i h44
      have hl : 0 < y.2.length := by
       cases hy : y.2 with
       | nil => rw [hy] at h44; cases h44
       | cons _ _ => simp
      have := hr _ _ h
      have e : 20 - (acc ++ [y.1]).length = m := by simp; omega
      have := ih (y.2.drop 1) (acc ++ [y.1]) (by rw [List.length_drop]; omega) (by simp; omega)
      rw [e] at this
      exact this
     ·rfl
theorem row_list {rd : Bs → Option (V × Bs)} (hr : ∀ s y, rd s = some y → y.2.length ≤ s.length) (k s : Bs) :
  (rowR (stepL rd) 91 93 [] s).map (fun y => (V.mk k [] [] y.1, y.2)) = if at_ s 0 = 91 then listR rd k (s.drop 1) else none := by
 unfold rowR listR
 by_cases h : at_ s 0 = 91
 ·rw [if_pos h, if_pos h]
  by_cases h2 : at_ (s.drop 1) 0 = 93
  ·rw [if_pos h2, if_pos h2]; rfl
  ·rw [if_neg h2, if_neg h2, loop_items hr _ _ _ (by omega) (by simp)]; rfl
 ·rw [if_neg h, if_neg h]; rfl
def toldR (rd : Bs → Bs → Option (V × Bs)) (t : Ty) (s : Bs) : Option (Fl × V × Bs) := match tagR s t with
 | none => none
 | some y => if at_ y.2 0 = 61 then (rd (y.2.drop 1) y.1.kind).map fun x => (y.1, x.1, x.2) else none
def stepR (rd : Bs → Bs → Option (V × Bs)) (X : List Ty) (t : Ty) (a : List Int × List V) (s : Bs) : Option ((List Int × List V) × Bs) := match toldR rd t s with
 | none => none
 | some y => if a.1.getD (a.1.length - 1) 0 < y.1.tag ∧ outV y.2.1 ≠ standM X y.1 then some ((a.1 ++ [y.1.tag], a.2 ++ [y.2.1]), y.2.2) else none
theorem loop_fields {rd : Bs → Bs → Option (V × Bs)} {X : List Ty} {t : Ty} (ht : ∀ f ∈ t.fields, 1 ≤ f.tag) (n : Nat) (s : Bs) (gs : List Int) (l : List V) :
  rowLoop (stepR rd X t) 125 n (gs, l) s = fieldsR rd X t n s gs l := by
 induction n generalizing s gs l with
 | zero => rfl
 | succ n ih =>
  rw [rowLoop, fieldsR]
  have hst : stepR rd X t (gs, l) s = match toldR rd t s with
   | none => none
   | some y => if gs.getD (gs.length - 1) 0 < y.1.tag ∧ outV y.2.1 ≠ standM X y.1 then some ((gs ++ [y.1.tag], l ++ [y.2.1]), y.2.2) else none := rfl
  cases h : tagR s t with
  | none =>
   rw [show stepR rd X t (gs, l) s = none by rw [hst]; unfold toldR; rw [h]]
  | some y =>
   have h1 : 1 ≤ y.1.tag := ht _ (tagR_out h).2.2.2.1
   have hgs : (gs = [] ∨ gs.getD (gs.length - 1) 0 < y.1.tag) ↔ gs.getD (gs.length - 1) 0 < y.1.tag := by
    constructor
    ·rintro (rfl | h)
     ·simp; omega
     ·exact h
    ·exact .inr
   have htd : toldR rd t s = if at_ y.2 0 = 61 then (rd (y.2.drop 1) y.1.kind).map fun x => (y.1, x.1, x.2) else none := by unfold toldR; rw [h]
   simp only
   by_cases h61 : at_ y.2 0 = 61
   ·rw [if_pos h61] at htd
    cases hr : rd (y.2.drop 1) y.1.kind with
    | none =>
     rw [show stepR rd X t (gs, l) s = none by rw [hst, htd, hr]; rfl]
     simp
    | some x =>
     rw [hr] at htd
     by_cases hg : gs.getD (gs.length - 1) 0 < y.1.tag
     ·rw [if_pos (And.intro h61 (Or.inr hg))]
      simp only
      by_cases ho : outV x.1 ≠ standM X y.1
      ·rw [show stepR rd X t (gs, l) s = some ((gs ++ [y.1.tag], l ++ [x.1]), x.2) by rw [hst, htd]; exact if_pos ⟨hg, ho⟩, if_pos ho]
       simp only
       split
       ·rfl
       ·split
        ·exact ih _ _ _
        ·rfl
      ·rw [show stepR rd X t (gs, l) s = none by rw [hst, htd]; exact if_neg (fun h => ho h.2), if_neg ho]
     ·rw [if_neg (fun h => hg (hgs.1 h.2)), show stepR rd X t (gs, l) s = none by rw [hst, htd]; exact if_neg (fun h => hg h.1)]
   ·rw [if_neg h61] at htd
    rw [if_neg (fun h => h61 h.1), show stepR rd X t (gs, l) s = none by rw [hst, htd]]
theorem row_record {rd : Bs → Bs → Option (V × Bs)} {X : List Ty} {t : Ty} (ht : ∀ f ∈ t.fields, 1 ≤ f.tag) (k s : Bs) :
  (rowR (stepR rd X t) 123 125 ([], []) s).map (fun y => (V.mk k [82] y.1.1 y.1.2, y.2)) = if at_ s 0 = 123 then recordR rd X t k (s.drop 1) else none := by
 unfold rowR recordR
 by_cases h : at_ s 0 = 123
 ·rw [if_pos h, if_pos h]
  by_cases h2 : at_ (s.drop 1) 0 = 125
  ·rw [if_pos h2, if_pos h2]; rfl
  ·rw [if_neg h2, if_neg h2, loop_fields ht]
 ·rw [if_neg h, if_neg h]; rfl
theorem union_told (rd : Bs → Bs → Option (V × Bs)) (t : Ty) (k s : Bs) :
  unionR rd t k s = match toldR rd t s with | none => none | some y => if at_ y.2.2 0 = 62 then some (.mk k [85] [y.1.tag] [y.2.1], y.2.2.drop 1) else none := by
 unfold unionR toldR
 cases tagR s t with
 | none => rfl
 | some y =>
  simp only
  by_cases h : at_ y.2 0 = 61
  ·rw [if_pos h, if_pos h]
   cases rd (y.2.drop 1) y.1.kind <;> rfl
  ·rw [if_neg h, if_neg h]
theorem told_text {rd : Bs → Bs → Option (V × Bs)} {t : Ty} {s : Bs} {y : Fl × V × Bs} (hr : ∀ s k x, rd s k = some x → s = outV x.1 ++ x.2) (h : toldR rd t s = some y) :
  s = (dec y.1.tag ++ (61 :: outV y.2.1)) ++ y.2.2 ∧ y.1 ∈ t.fields := by
 unfold toldR at h
 cases hT : tagR s t with
 | none => rw [hT] at h; cases h
 | some z =>
  rw [hT] at h
  simp only at h
  split at h
  ·rename_i h61
   rw [Option.map_eq_some_iff] at h
   obtain ⟨x, hx, rfl⟩ := h
   have h1 := (tagR_out hT).1
   have h2 := hr _ _ _ hx
   have h3 := at_byte (c := 61) (by decide) h61
   refine ⟨?_, (tagR_out hT).2.2.2.1⟩
   simp only
   rw [List.append_assoc, List.cons_append, ← h2, ← h3, ← h1]
  ·cases h
theorem told_cmp {rd : Bs → Bs → Option (V × Bs)} {t : Ty} {s st : Bs} {y : Fl × V × Bs} (hr : ∀ s k x, rd s k = some x → s = outV x.1 ++ x.2) (h : toldR rd t s = some y) :
  (s.take (s.length - y.2.2.length) = dec y.1.tag ++ (61 :: st)) ↔ outV y.2.1 = st := by
 have h1 := (told_text hr h).1
 have h2 : s.take (s.length - y.2.2.length) = dec y.1.tag ++ (61 :: outV y.2.1) := by
  conv => lhs; rw [h1]
  rw [List.length_append, Nat.add_sub_cancel, List.take_left']
  rfl
 rw [h2]
 constructor
 ·intro e
  have := List.append_cancel_left e
  injection this
 ·rintro rfl; rfl
theorem readF_n (X : List Ty) (d : Nat) (s : Bs) : readF X (d + 1) s [110] = (cutDecP s 999999).map fun n => (.mk [110] (dec n) [] [], s.drop (digsN s)) := by
 rw [readF]
 by_cases hs : s = []
 ·rw [if_pos hs, hs, show cutDecP [] 999999 = none from numL_nil _]; rfl
 ·rw [if_neg hs, if_neg (by decide), if_neg (by decide), if_neg (by decide)]
  unfold plainR cutDecP
  rw [if_pos rfl]
  cases h : numL (s.take (digsN s)) 999999 with
  | none => rfl
  | some n => rw [if_pos (show (some n).isSome = true from rfl)]; rw [(numL_dec h).1]; rfl
theorem readF_t (X : List Ty) (d : Nat) (s : Bs) : readF X (d + 1) s [116] = (textP s).map fun y => (.mk [116] (39 :: (y.1 ++ [39])) [] [], y.2) := by
 rw [readF]
 by_cases hs : s = []
 ·rw [if_pos hs, hs]; rfl
 ·rw [if_neg hs, if_neg (by decide), if_neg (by decide), if_neg (by decide), plainR_text]
def flagP (s : Bs) : Option (Bool × Bs) := if s.take 3 = [121, 101, 115] then some (true, s.drop 3) else if s.take 2 = [110, 111] then some (false, s.drop 2) else none
def flagT (b : Bool) : Bs := if b = true then [121, 101, 115] else [110, 111]
theorem readF_f (X : List Ty) (d : Nat) (s : Bs) : readF X (d + 1) s [102] = (flagP s).map fun y => (.mk [102] (flagT y.1) [] [], y.2) := by
 rw [readF]
 by_cases hs : s = []
 ·rw [if_pos hs, hs]; rfl
 ·rw [if_neg hs, if_neg (by decide), if_neg (by decide), if_neg (by decide)]
  unfold plainR flagP
  rw [if_neg (by decide), if_neg (by decide)]
  split
  ·rfl
  ·split <;> rfl
theorem readF_list (X : List Ty) (d : Nat) (s k : Bs) (h : at_ k 0 = 91) :
  readF X (d + 1) s k = (rowR (stepL (fun s => readF X d s (k.drop 1))) 91 93 [] s).map fun y => (.mk k [] [] y.1, y.2) := by
 rw [row_list (fun s y hy => by have := readF_len hy; omega), readF]
 by_cases hs : s = []
 ·rw [if_pos hs, hs]; rfl
 ·rw [if_neg hs, if_pos h]
theorem readF_may (X : List Ty) (d : Nat) (s k : Bs) (h : at_ k 0 = 63) :
  readF X (d + 1) s k = if at_ s 0 = 45 then some (.mk k [] [] [], s.drop 1) else if at_ s 0 = 43 then (readF X d (s.drop 1) (k.drop 1)).map fun x => (.mk k [] [] [x.1], x.2) else none := by
 rw [readF]
 by_cases hs : s = []
 ·rw [if_pos hs, hs]; rfl
 ·rw [if_neg hs, if_neg (by omega), if_pos h]
theorem readF_named (X : List Ty) (d : Nat) (s k : Bs) (t : Ty) (h : at_ k 0 = 64) (ht : refT X k = some t) (hs : s ≠ []) : readF X (d + 1) s k = namedR (fun s k => readF X d s k) X t k s := by
 rw [readF, if_neg hs, if_neg (by omega), if_neg (by omega), if_pos h, ht]
theorem readF_R (X : List Ty) (d : Nat) (s k : Bs) (t : Ty) (h : at_ k 0 = 64) (ht : refT X k = some t) (h82 : t.sort = 82) (htg : ∀ f ∈ t.fields, 1 ≤ f.tag) :
  readF X (d + 1) s k = (rowR (stepR (fun s k => readF X d s k) X t) 123 125 ([], []) s).map fun y => (.mk k [82] y.1.1 y.1.2, y.2) := by
 rw [row_record htg]
 by_cases hs : s = []
 ·rw [readF, if_pos hs, hs]; rfl
 ·rw [readF_named X d s k t h ht hs]
  unfold namedR
  by_cases h2 : at_ s 0 = 123
  ·rw [if_pos ⟨h82, h2⟩, if_pos h2]
  ·rw [if_neg (fun x => h2 x.2), if_neg (by omega), if_neg (by omega), if_neg h2]
theorem readF_E (X : List Ty) (d : Nat) (s k : Bs) (t : Ty) (h : at_ k 0 = 64) (ht : refT X k = some t) (h69 : t.sort = 69) :
  readF X (d + 1) s k = if at_ s 0 = 35 then (tagR (s.drop 1) t).map fun y => (.mk k [69] [y.1.tag] [], y.2) else none := by
 by_cases hs : s = []
 ·rw [readF, if_pos hs, hs]; rfl
 ·rw [readF_named X d s k t h ht hs]
  unfold namedR
  rw [if_neg (by omega)]
  by_cases h2 : at_ s 0 = 35
  ·rw [if_pos ⟨h69, h2⟩, if_pos h2]
   unfold enumR
   cases tagR (s.drop 1) t <;> rfl
  ·rw [if_neg (fun x => h2 x.2), if_neg (by omega), if_neg h2]
theorem readF_U (X : List Ty) (d : Nat) (s k : Bs) (t : Ty) (h : at_ k 0 = 64) (ht : refT X k = some t) (h85 : t.sort = 85) :
  readF X (d + 1) s k = if at_ s 0 = 60 then (match toldR (fun s k => readF X d s k) t (s.drop 1) with | none => none | some y => if at_ y.2.2 0 = 62 then some (.mk k [85] [y.1.tag] [y.2.1], y.2.2.drop 1) else none) else none := by
 by_cases hs : s = []
 ·rw [readF, if_pos hs, hs]; rfl
 ·rw [readF_named X d s k t h ht hs]
  unfold namedR
  rw [if_neg (by omega), if_neg (by omega)]
  by_cases h2 : at_ s 0 = 60
  ·rw [if_pos ⟨h85, h2⟩, if_pos h2, union_told] <;> rfl
  ·rw [if_neg (fun x => h2 x.2), if_neg h2]
theorem kind_first {k : Bs} (h : kOk k = true) : ((at_ k 0 = 91 ∨ at_ k 0 = 63) ∧ kOk (k.drop 1) = true ∧ kRefs (k.drop 1) = kRefs k) ∨ (at_ k 0 = 64 ∧ kDeep k = 0 ∧ ∃ n, kRefs k = [n]) ∨ k = [110] ∨ k = [116] ∨ k = [102] := by
 rcases kind_cases k with hn | ⟨n, m, hn, hl, hd, h4, h5⟩
 ·simp [kOk, hn] at h
 ·cases m with
  | succ m =>
   left
   have := kindR_drop hn
   exact ⟨h4 0 (by omega), by unfold kOk; rw [this]; rfl, by unfold kRefs; rw [this, hn]⟩
  | zero =>
   right
   rcases h5 with ⟨hne, -, -, e⟩ | ⟨-, h5⟩
   ·left
    exact ⟨e, by unfold kDeep; rw [hn]; rfl, n, by unfold kRefs; rw [hn]; exact if_neg hne⟩
   ·right
    rw [List.drop_zero] at h5
    rcases h5 with h5 | h5 | h5
    ·exact .inl h5.1
    ·exact .inr (.inl h5.1)
    ·exact .inr (.inr h5.1)
def cut1 (c : Int) (s : Bs) : Bs := if at_ s 0 = c then s.drop 1 else s
theorem cut1_len (c : Int) (s : Bs) : (cut1 c s).length ≤ s.length := by unfold cut1; split <;> simp
theorem toldR_no {rd : Bs → Bs → Option (V × Bs)} {t : Ty} {s : Bs} (h : cutDecP s 200 = none) : toldR rd t s = none := by
 unfold toldR tagR; rw [show numL (s.take (digsN s)) 200 = none from h]
theorem toldR_tag {rd : Bs → Bs → Option (V × Bs)} {t : Ty} {s : Bs} {g : Int} (h : cutDecP s 200 = some g) (hf : fieldM t g = none) : toldR rd t s = none := by
 unfold toldR tagR; rw [show numL (s.take (digsN s)) 200 = some g from h]; simp only; rw [hf]
theorem toldR_on {rd : Bs → Bs → Option (V × Bs)} {t : Ty} {s : Bs} {g : Int} {f : Fl} (h : cutDecP s 200 = some g) (hf : fieldM t g = some f) :
  toldR rd t s = if at_ (s.drop (digsN s)) 0 = 61 then (rd ((s.drop (digsN s)).drop 1) f.kind).map fun x => (f, x.1, x.2) else none := by
 unfold toldR tagR; rw [show numL (s.take (digsN s)) 200 = some g from h]; simp only; rw [hf]
theorem tagR_of (t : Ty) (s : Bs) : tagR s t = match cutDecP s 200 with | none => none | some g => (fieldM t g).map fun f => (f, s.drop (digsN s)) := by
 unfold tagR cutDecP
 cases numL (s.take (digsN s)) 200 with
 | none => rfl
 | some g => simp only; cases fieldM t g <;> rfl
theorem dig_lt {s : Bs} {g : Int} {top : Int} (h : cutDecP s top = some g) : (s.drop (digsN s)).length < s.length := by
 have := (numL_dec h).1
 have hp : 1 ≤ (dec g).length := by unfold dec; rw [decN]; split <;> simp
 rw [← this, List.length_take] at hp
 rw [List.length_drop]; omega
def wholeP (X : List Ty) (k s : Bs) : Option V := if s.length ≤ 400 then (match readF X 12 s k with | none => none | some x => if x.2 = [] then some x.1 else none) else none
theorem whole_long {X : List Ty} {k s : Bs} (h : ¬ s.length ≤ 400) : wholeP X k s = none := if_neg h
theorem whole_none {X : List Ty} {k s : Bs} (h : readF X (s.length + 13) s k = none) : wholeP X k s = none := by
 unfold wholeP
 split
 ·cases h2 : readF X 12 s k with
  | none => rfl
  | some x =>
   have := ((readF_cut X 12 (s.length + 13) (by omega) s k x).1 h2).1
   rw [h] at this; cases this
 ·rfl
theorem whole_rest {X : List Ty} {k s : Bs} {x : V × Bs} (h : readF X (s.length + 13) s k = some x) (hr : x.2 ≠ [] ∨ 12 < deepV x.1) : wholeP X k s = none := by
 unfold wholeP
 split
 ·cases h2 : readF X 12 s k with
  | none => rfl
  | some y =>
   obtain ⟨h3, h4⟩ := (readF_cut X 12 (s.length + 13) (by omega) s k y).1 h2
   rw [h] at h3
   injection h3 with h3
   subst h3
   rcases hr with hr | hr
   ·exact if_neg hr
   ·omega
 ·rfl
theorem whole_yes {X : List Ty} {k s : Bs} {x : V × Bs} (h4 : s.length ≤ 400) (h : readF X (s.length + 13) s k = some x) (hr : x.2 = []) (hd : deepV x.1 ≤ 12) : wholeP X k s = some x.1 := by
 unfold wholeP
 rw [if_pos h4, (readF_cut X 12 (s.length + 13) (by omega) s k x).2 ⟨h, hd⟩]
 exact if_pos hr
def atP : List Int → List V → Int → Option V
 | g :: gs, x :: xs, t => if g = t then some x else atP gs xs t
 | _, _, _ => none
theorem atP_yes (gs : List Int) (l : List V) (t : Int) (j : Nat) (h1 : j < gs.length) (h2 : j < l.length) (h : gs[j] = t) : atP (gs.drop j) (l.drop j) t = some l[j] := by
 rw [List.drop_eq_getElem_cons h1, List.drop_eq_getElem_cons h2, atP, if_pos h]
theorem atP_no (gs : List Int) (l : List V) (t : Int) (j : Nat) (h1 : j < gs.length) (h2 : j < l.length) (h : ¬ gs[j] = t) : atP (gs.drop j) (l.drop j) t = atP (gs.drop (j + 1)) (l.drop (j + 1)) t := by
 rw [List.drop_eq_getElem_cons h1, List.drop_eq_getElem_cons h2, atP, if_neg h]
theorem atP_end (gs : List Int) (l : List V) (t : Int) (j : Nat) (h : gs.length ≤ j) : atP (gs.drop j) (l.drop j) t = none := by rw [List.drop_of_length_le h]; rfl
def isRec (x : V) : Bool := x.text == [82] && decide (at_ x.kind 0 = 64)
theorem refT_sign {X : List Ty} {k : Bs} (hk : kOk k = true) (h : at_ k 0 = 91 ∨ at_ k 0 = 63) : refT X k = none := by
 rcases kind_cases k with hn | ⟨n, m, hn, -, -, -, h5⟩
 ·simp [kOk, hn] at hk
 ·unfold refT
  rw [hn]
  cases m with
  | succ m => exact if_pos (.inr (by simp))
  | zero => rcases h5 with ⟨-, -, -, e⟩ | ⟨-, h5⟩ <;> omega
theorem rec_sort {X : List Ty} {x : V} {t : Ty} (h : Tv X x) (hr : refT X x.kind = some t) : isRec x = true ↔ t.sort = 82 := by
 unfold isRec
 cases h with
 | num h => exact absurd (show (none : Option Ty) = some t from hr) (by simp)
 | text h => exact absurd (show (none : Option Ty) = some t from hr) (by simp)
 | yes => exact absurd (show (none : Option Ty) = some t from hr) (by simp)
 | no => exact absurd (show (none : Option Ty) = some t from hr) (by simp)
 | list hk h => exact absurd ((refT_sign hk (.inl h)).symm.trans hr) (by simp)
 | none hk h => exact absurd ((refT_sign hk (.inr h)).symm.trans hr) (by simp)
 | some hk h => exact absurd ((refT_sign hk (.inr h)).symm.trans hr) (by simp)
 | record hk h hr' hs => have e := hr'.symm.trans hr; injection e with e; subst e; simp [V.text, V.kind, h, hs]
 | union hk h hr' hs => have e := hr'.symm.trans hr; injection e with e; subst e; simp [V.text, hs]
 | enum hk h hr' hs => have e := hr'.symm.trans hr; injection e with e; subst e; simp [V.text, hs]
theorem rec_none {X : List Ty} {x : V} (h : Tv X x) (hr : refT X x.kind = none) : isRec x = false := by
 unfold isRec
 cases h with
 | num h => simp [V.text, V.kind, show at_ [110] 0 = 110 from rfl]
 | text h => simp [V.text, V.kind, show at_ [116] 0 = 116 from rfl]
 | yes => rfl
 | no => rfl
 | list hk h => rfl
 | none hk h => rfl
 | some hk h => rfl
 | record hk h hr' hs => exact absurd (hr'.symm.trans hr) (by simp)
 | union hk h hr' hs => rfl
 | enum hk h hr' hs => rfl
end Go.Proofs.YtcjooeklehggaaaGreatDoor.M
