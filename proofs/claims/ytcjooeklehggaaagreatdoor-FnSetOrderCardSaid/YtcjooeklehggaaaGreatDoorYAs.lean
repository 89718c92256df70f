/- Lemmas of this seat. -/
import Derived.Test.YtcjooeklehggaaaGreatDoorZAs
set_option linter.unusedVariables false
set_option linter.unusedSimpArgs false
set_option maxRecDepth 100000
namespace Go.Proofs.YtcjooeklehggaaaGreatDoor.M
inductive V where
 | mk (kind text : Bs) (tags : List Int) (kids : List V)
instance : Inhabited V := ⟨.mk [] [] [] []⟩
def V.kind : V → Bs | .mk k _ _ _ => k
def V.text : V → Bs | .mk _ t _ _ => t
def V.tags : V → List Int | .mk _ _ g _ => g
def V.kids : V → List V | .mk _ _ _ l => l
theorem V.ind {P : V → Prop} (h : ∀ k t g l, (∀ x ∈ l, P x) → P (.mk k t g l)) (v : V) : P v :=
 V.rec (motive_1 := P) (motive_2 := fun l => ∀ x ∈ l, P x) (fun k t g l ih => h k t g l ih) (by simp) (fun x r hx hr => by
  intro y hy
  rcases List.mem_cons.1 hy with rfl | hy
  ·exact hx
  ·exact hr y hy) v
def joinC : List Bs → Bs
 | [] => []
 | [x] => x
 | x :: y :: r => x ++ (44 :: joinC (y :: r))
theorem joinC_snoc (L : List Bs) (x : Bs) : joinC (L ++ [x]) = if L = [] then x else joinC L ++ (44 :: x) := by
 induction L with
 | nil => rfl
 | cons a r ih =>
  cases r with
  | nil => simp [joinC]
  | cons b r => simp [joinC] at ih ⊢; rw [ih]
def toldL : List Int → List Bs → List Bs
 | g :: gs, x :: xs => (dec g ++ (61 :: x)) :: toldL gs xs
 | _, _ => []
theorem toldL_len (gs : List Int) (xs : List Bs) (h : xs.length ≤ gs.length) : (toldL gs xs).length = xs.length := by
 induction xs generalizing gs with
 | nil => cases gs <;> rfl
 | cons x xs ih =>
  cases gs with
  | nil => simp at h
  | cons g gs => simp [toldL]; exact ih gs (by simpa using h)
theorem toldL_get (gs : List Int) (xs : List Bs) (i : Nat) (h1 : i < gs.length) (h2 : i < xs.length) (h : i < (toldL gs xs).length) : (toldL gs xs)[i] = dec gs[i] ++ (61 :: xs[i]) := by
 induction xs generalizing gs i with
 | nil => simp at h2
 | cons x xs ih =>
  cases gs with
  | nil => simp at h1
  | cons g gs =>
   cases i with
   | zero => rfl
   | succ i => simp only [toldL, List.getElem_cons_succ]; exact ih gs i (by simpa using h1) (by simpa using h2) _
mutual
def outV : V → Bs
  | .mk k t gs l =>
    if at_ k 0 = 91 then 91 :: (joinC (outsV l) ++ [93])
    else if at_ k 0 = 63 then (match outsV l with | [] => [45] | x :: _ => 43 :: x)
    else if at_ k 0 = 64 then
      (if t = [85] then 60 :: (dec (gs.getD 0 0) ++ (61 :: ((outsV l).getD 0 [] ++ [62])))
       else if t = [69] then 35 :: dec (gs.getD 0 0)
       else 123 :: (joinC (toldL gs (outsV l)) ++ [125]))
    else t
def outsV : List V → List Bs
 | [] => []
 | x :: r => outV x :: outsV r
end
theorem outsV_map (l : List V) : outsV l = l.map outV := by
 induction l with
 | nil => simp [outsV]
 | cons x r ih => simp [outsV, ih]
theorem out_list {k t : Bs} {gs : List Int} {l : List V} (h : at_ k 0 = 91) : outV (.mk k t gs l) = 91 :: (joinC (l.map outV) ++ [93]) := by rw [outV, if_pos h, outsV_map]
theorem out_none {k t : Bs} {gs : List Int} (h : at_ k 0 = 63) : outV (.mk k t gs []) = [45] := by rw [outV, if_neg (by omega), if_pos h]; rfl
theorem out_some {k t : Bs} {gs : List Int} {x : V} {l : List V} (h : at_ k 0 = 63) : outV (.mk k t gs (x :: l)) = 43 :: outV x := by rw [outV, if_neg (by omega), if_pos h]; rfl
theorem out_union {k : Bs} {gs : List Int} {l : List V} (h : at_ k 0 = 64) : outV (.mk k [85] gs l) = 60 :: (dec (gs.getD 0 0) ++ (61 :: ((l.map outV).getD 0 [] ++ [62]))) := by
 rw [outV, if_neg (by omega), if_neg (by omega), if_pos h, if_pos rfl, outsV_map]
theorem out_enum {k : Bs} {gs : List Int} {l : List V} (h : at_ k 0 = 64) : outV (.mk k [69] gs l) = 35 :: dec (gs.getD 0 0) := by
 rw [outV, if_neg (by omega), if_neg (by omega), if_pos h, if_neg (by decide), if_pos rfl]
theorem out_record {k t : Bs} {gs : List Int} {l : List V} (h : at_ k 0 = 64) (h1 : t ≠ [85]) (h2 : t ≠ [69]) : outV (.mk k t gs l) = 123 :: (joinC (toldL gs (l.map outV)) ++ [125]) := by
 rw [outV, if_neg (by omega), if_neg (by omega), if_pos h, if_neg h1, if_neg h2, outsV_map]
theorem out_plain {k t : Bs} {gs : List Int} {l : List V} (h1 : at_ k 0 ≠ 91) (h2 : at_ k 0 ≠ 63) (h3 : at_ k 0 ≠ 64) : outV (.mk k t gs l) = t := by
 rw [outV, if_neg h1, if_neg h2, if_neg h3]
def digsN : Bs → Nat
 | [] => 0
 | x :: r => if isDig (x.toNat : Int) = true then digsN r + 1 else 0
theorem digsN_le (l : Bs) : digsN l ≤ l.length := by
 induction l with
 | nil => simp [digsN]
 | cons x r ih => rw [digsN]; split <;> simp; omega
theorem digsN_in (l : Bs) (k : Nat) (h : k < l.length) (hd : isDig (at_ l k) = true) : digsN (l.drop k) = digsN (l.drop (k + 1)) + 1 := by
 rw [List.drop_eq_getElem_cons h, digsN, if_pos]
 unfold at_ at hd; rw [List.getD_eq_getElem?_getD, List.getElem?_eq_getElem h] at hd; exact hd
theorem digsN_out (l : Bs) (k : Nat) (h : k < l.length) (hd : isDig (at_ l k) = false) : digsN (l.drop k) = 0 := by
 rw [List.drop_eq_getElem_cons h, digsN, if_neg]
 unfold at_ at hd; rw [List.getD_eq_getElem?_getD, List.getElem?_eq_getElem h] at hd; rw [show (l[k].toNat : Int) = ((Option.getD (some l[k]) 0).toNat : Int) from rfl, hd]; decide
theorem digsN_end (l : Bs) (k : Nat) (h : l.length ≤ k) : digsN (l.drop k) = 0 := by rw [List.drop_of_length_le h]; rfl
def chAt (c : Int) : Bs → Nat
 | [] => 0
 | x :: r => if (x.toNat : Int) = c then 0 else chAt c r + 1
theorem chAt_le (c : Int) (l : Bs) : chAt c l ≤ l.length := by
 induction l with
 | nil => simp [chAt]
 | cons x r ih => rw [chAt]; split <;> simp; omega
theorem chAt_no (c : Int) (l : Bs) (k : Nat) (h : k < l.length) (hd : at_ l k ≠ c) : chAt c (l.drop k) = chAt c (l.drop (k + 1)) + 1 := by
 rw [List.drop_eq_getElem_cons h, chAt, if_neg]
 unfold at_ at hd; rw [List.getD_eq_getElem?_getD, List.getElem?_eq_getElem h] at hd; exact hd
theorem chAt_yes (c : Int) (l : Bs) (k : Nat) (h : k < l.length) (hd : at_ l k = c) : chAt c (l.drop k) = 0 := by
 rw [List.drop_eq_getElem_cons h, chAt, if_pos]
 unfold at_ at hd; rw [List.getD_eq_getElem?_getD, List.getElem?_eq_getElem h] at hd; exact hd
theorem chAt_end (c : Int) (l : Bs) (k : Nat) (h : l.length ≤ k) : chAt c (l.drop k) = 0 := by rw [List.drop_of_length_le h]; rfl
def strokeN (s : Bs) : Nat := min (1 + chAt 39 (s.drop 1) + 1) s.length
def plainR (s k : Bs) : Option (V × Bs) :=
 if k = [110] then (if (numL (s.take (digsN s)) 999999).isSome = true then some (.mk k (s.take (digsN s)) [] [], s.drop (digsN s)) else none)
 else if k = [116] then (if textL (s.take (strokeN s)) = true then some (.mk k (s.take (strokeN s)) [] [], s.drop (strokeN s)) else none)
 else if s.take 3 = [121, 101, 115] then some (.mk k [121, 101, 115] [] [], s.drop 3)
 else if s.take 2 = [110, 111] then some (.mk k [110, 111] [] [], s.drop 2)
 else none
def fieldM (t : Ty) (tag : Int) : Option Fl := t.fields.find? fun f => f.tag == tag
def standM (X : List Ty) (f : Fl) : Bs := if f.stand = [] then standsV X f.kind else f.stand
def tagR (s : Bs) (t : Ty) : Option (Fl × Bs) := match numL (s.take (digsN s)) 200 with
 | none => none
 | some g => match fieldM t g with
  | none => none
  | some f => some (f, s.drop (digsN s))
def itemsR (rd : Bs → Option (V × Bs)) : Nat → Bs → List V → Option (List V × Bs)
 | 0, _, _ => none
 | n + 1, s, acc => match rd s with
  | none => none
  | some x => if at_ x.2 0 = 93 then some (acc ++ [x.1], x.2.drop 1) else if at_ x.2 0 = 44 then itemsR rd n (x.2.drop 1) (acc ++ [x.1]) else none
def listR (rd : Bs → Option (V × Bs)) (k s : Bs) : Option (V × Bs) :=
 if at_ s 0 = 93 then some (.mk k [] [] [], s.drop 1) else (itemsR rd 20 s []).map fun x => (.mk k [] [] x.1, x.2)
def fieldsR (rd : Bs → Bs → Option (V × Bs)) (X : List Ty) (t : Ty) : Nat → Bs → List Int → List V → Option ((List Int × List V) × Bs)
  | 0, _, _, _ => none
  | n + 1, s, gs, l => match tagR s t with
    | none => none
    | some y => if at_ y.2 0 = 61 ∧ (gs = [] ∨ gs.getD (gs.length - 1) 0 < y.1.tag) then
        (match rd (y.2.drop 1) y.1.kind with
         | none => none
         | some x => if outV x.1 ≠ standM X y.1 then
             (if at_ x.2 0 = 125 then some ((gs ++ [y.1.tag], l ++ [x.1]), x.2.drop 1) else if at_ x.2 0 = 44 then fieldsR rd X t n (x.2.drop 1) (gs ++ [y.1.tag]) (l ++ [x.1]) else none)
           else none)
       else none
def recordR (rd : Bs → Bs → Option (V × Bs)) (X : List Ty) (t : Ty) (k s : Bs) : Option (V × Bs) :=
 if at_ s 0 = 125 then some (.mk k [82] [] [], s.drop 1) else (fieldsR rd X t (s.length + 1) s [] []).map fun x => (.mk k [82] x.1.1 x.1.2, x.2)
def unionR (rd : Bs → Bs → Option (V × Bs)) (t : Ty) (k s : Bs) : Option (V × Bs) := match tagR s t with
 | none => none
 | some y => if at_ y.2 0 = 61 then (match rd (y.2.drop 1) y.1.kind with
   | none => none
   | some x => if at_ x.2 0 = 62 then some (.mk k [85] [y.1.tag] [x.1], x.2.drop 1) else none) else none
def enumR (t : Ty) (k s : Bs) : Option (V × Bs) := match tagR s t with
 | none => none
 | some y => some (.mk k [69] [y.1.tag] [], y.2)
def namedR (rd : Bs → Bs → Option (V × Bs)) (X : List Ty) (t : Ty) (k s : Bs) : Option (V × Bs) :=
 if t.sort = 82 ∧ at_ s 0 = 123 then recordR rd X t k (s.drop 1)
 else if t.sort = 69 ∧ at_ s 0 = 35 then enumR t k (s.drop 1)
 else if t.sort = 85 ∧ at_ s 0 = 60 then unionR rd t k (s.drop 1)
 else none
def readF (X : List Ty) : Nat → Bs → Bs → Option (V × Bs)
 | 0, _, _ => none
 | d + 1, s, k => if s = [] then none
  else if at_ k 0 = 91 then (if at_ s 0 = 91 then listR (fun s => readF X d s (k.drop 1)) k (s.drop 1) else none)
  else if at_ k 0 = 63 then (if at_ s 0 = 45 then some (.mk k [] [] [], s.drop 1) else if at_ s 0 = 43 then (readF X d (s.drop 1) (k.drop 1)).map fun x => (.mk k [] [] [x.1], x.2) else none)
  else if at_ k 0 = 64 then (match refT X k with | none => none | some t => namedR (fun s k => readF X d s k) X t k s)
  else plainR s k
theorem at_ne {l : Bs} {c : Int} (hc : c ≠ 0) (h : at_ l 0 = c) : ∃ x r, l = x :: r ∧ (x.toNat : Int) = c := by
 cases l with
 | nil => exact absurd h.symm hc
 | cons x r => exact ⟨x, r, rfl, h⟩
theorem at_byte {l : Bs} {c : UInt8} (hc : c ≠ 0) (h : at_ l 0 = (c.toNat : Int)) : l = c :: l.drop 1 := by
 obtain ⟨x, r, rfl, hx⟩ := at_ne (by
  intro e
  have : c.toNat = 0 := by omega
  exact hc (UInt8.toNat_inj.1 this)) h
 rw [show x = c from UInt8.toNat_inj.1 (by omega)]; rfl
theorem numL_dec {l : Bs} {top g : Int} (h : numL l top = some g) : l = dec g ∧ 0 ≤ g ∧ g ≤ top := by
 unfold numL at h
 split at h
 ·rename_i h'
  injection h with h
  subst h
  refine ⟨h'.2.2.1, (valN_bd l l.length (fun j hj => h'.2.1 j hj) h'.1).1, h'.2.2.2⟩
 ·cases h
theorem fieldM_mem {t : Ty} {g : Int} {f : Fl} (h : fieldM t g = some f) : f ∈ t.fields ∧ f.tag = g := by
 unfold fieldM at h
 exact ⟨List.mem_of_find?_eq_some h, by simpa using List.find?_some h⟩
theorem tagR_out {s : Bs} {t : Ty} {y : Fl × Bs} (h : tagR s t = some y) : s = dec y.1.tag ++ y.2 ∧ 0 ≤ y.1.tag ∧ y.1.tag ≤ 200 ∧ y.1 ∈ t.fields ∧ fieldM t y.1.tag = some y.1 := by
 unfold tagR at h
 split at h
 ·cases h
 ·rename_i g hn
  split at h
  ·cases h
  ·rename_i f hf
   injection h with h
   subst h
   obtain ⟨h1, h2, h3⟩ := numL_dec hn
   obtain ⟨h4, h5⟩ := fieldM_mem hf
   subst h5
   exact ⟨by simp only; rw [← h1, List.take_append_drop], h2, h3, h4, hf⟩
def Outs (rd : Bs → Option (V × Bs)) : Prop := ∀ s x, rd s = some x → s = outV x.1 ++ x.2
theorem itemsR_out {rd : Bs → Option (V × Bs)} (hr : Outs rd) (n : Nat) (s : Bs) (acc : List V) (y : List V × Bs) (h : itemsR rd n s acc = some y) :
  ∃ l, y.1 = acc ++ l ∧ l ≠ [] ∧ l.length ≤ n ∧ s = joinC (l.map outV) ++ (93 :: y.2) := by
 induction n generalizing s acc with
 | zero => cases h
 | succ n ih =>
  rw [itemsR] at h
  split at h
  ·cases h
  ·rename_i x hx
   have hs := hr _ _ hx
   split at h
   ·rename_i h1
    injection h with h
    subst h
    refine ⟨[x.1], rfl, by simp, by simp, ?_⟩
    rw [hs]; simp only [List.map_cons, List.map_nil, joinC]
    rw [← at_byte (c := 93) (by decide) h1]
   ·split at h
    ·rename_i h1
     obtain ⟨l, e1, e2, e3, e4⟩ := ih _ _ h
     obtain ⟨a, l', rfl⟩ := List.exists_cons_of_ne_nil e2
     refine ⟨x.1 :: a :: l', by rw [e1]; simp, by simp, by simpa using e3, ?_⟩
     rw [hs, at_byte (c := 44) (by decide) h1, e4]
     simp [joinC]
    ·cases h
theorem listR_out {rd : Bs → Option (V × Bs)} (hr : Outs rd) {k s : Bs} (hk : at_ k 0 = 91) {x : V × Bs} (h : listR rd k s = some x) : 91 :: s = outV x.1 ++ x.2 := by
 unfold listR at h
 split at h
 ·rename_i h1
  injection h with h
  subst h
  rw [out_list hk]
  simp only [List.map_nil, joinC, List.nil_append, List.cons_append]
  rw [← at_byte (c := 93) (by decide) h1]
 ·cases hi : itemsR rd 20 s [] with
  | none => rw [hi] at h; cases h
  | some y =>
   rw [hi] at h
   injection h with h
   subst h
   obtain ⟨l, e1, -, -, e2⟩ := itemsR_out hr _ _ _ _ hi
   rw [out_list hk, e2, e1]; simp
def Outs2 (rd : Bs → Bs → Option (V × Bs)) : Prop := ∀ s k x, rd s k = some x → s = outV x.1 ++ x.2
theorem fieldsR_out {rd : Bs → Bs → Option (V × Bs)} (hr : Outs2 rd) (X : List Ty) (t : Ty) (n : Nat) (s : Bs) (gs : List Int) (l : List V) (y : (List Int × List V) × Bs) (h : fieldsR rd X t n s gs l = some y) :
  ∃ gs' l', y.1.1 = gs ++ gs' ∧ y.1.2 = l ++ l' ∧ gs'.length = l'.length ∧ l' ≠ [] ∧ s = joinC (toldL gs' (l'.map outV)) ++ (125 :: y.2) := by
 induction n generalizing s gs l with
 | zero => cases h
 | succ n ih =>
  rw [fieldsR] at h
  split at h
  ·cases h
  ·rename_i f hf
   obtain ⟨hs, -⟩ := tagR_out hf
   split at h
   ·rename_i h61
    split at h
    ·cases h
    ·rename_i x hx
     have hs2 := hr _ _ _ hx
     split at h
     ·split at h
      ·rename_i h1
       injection h with h
       subst h
       refine ⟨[f.1.tag], [x.1], rfl, rfl, rfl, by simp, ?_⟩
       rw [hs, at_byte (c := 61) (by decide) h61.1, hs2, at_byte (c := 125) (by decide) h1]
       simp [joinC, toldL]
      ·split at h
       ·rename_i h1
        obtain ⟨gs', l', e1, e2, e3, e4, e5⟩ := ih _ _ _ h
        obtain ⟨a, l2, rfl⟩ := List.exists_cons_of_ne_nil e4
        obtain ⟨b, g2, rfl⟩ : ∃ b g2, gs' = b :: g2 := by cases gs' with | nil => simp at e3 | cons b g2 => exact ⟨b, g2, rfl⟩
        refine ⟨f.1.tag :: b :: g2, x.1 :: a :: l2, by rw [e1]; simp, by rw [e2]; simp, by simpa using e3, by simp, ?_⟩
        rw [hs, at_byte (c := 61) (by decide) h61.1, hs2, at_byte (c := 44) (by decide) h1, e5]
        simp [joinC, toldL]
       ·cases h
     ·cases h
   ·cases h
theorem recordR_out {rd : Bs → Bs → Option (V × Bs)} (hr : Outs2 rd) {X : List Ty} {t : Ty} {k s : Bs} (hk : at_ k 0 = 64) {x : V × Bs} (h : recordR rd X t k s = some x) : 123 :: s = outV x.1 ++ x.2 := by
 unfold recordR at h
 split at h
 ·rename_i h1
  injection h with h
  subst h
  rw [out_record hk (by decide) (by decide)]
  simp only [toldL, joinC, List.nil_append, List.cons_append]
  rw [← at_byte (c := 125) (by decide) h1]
 ·cases hi : fieldsR rd X t (s.length + 1) s [] [] with
  | none => rw [hi] at h; cases h
  | some y =>
   rw [hi] at h
   injection h with h
   subst h
   obtain ⟨gs, l, e1, e2, -, -, e3⟩ := fieldsR_out hr _ _ _ _ _ _ _ hi
   rw [out_record hk (by decide) (by decide), e3, e1, e2]; simp
theorem unionR_out {rd : Bs → Bs → Option (V × Bs)} (hr : Outs2 rd) {t : Ty} {k s : Bs} (hk : at_ k 0 = 64) {x : V × Bs} (h : unionR rd t k s = some x) : 60 :: s = outV x.1 ++ x.2 := by
 unfold unionR at h
 split at h
 ·cases h
 ·rename_i f hf
  obtain ⟨hs, -⟩ := tagR_out hf
  split at h
  ·rename_i h61
   split at h
   ·cases h
   ·rename_i y hy
    have hs2 := hr _ _ _ hy
    split at h
    ·rename_i h62
     injection h with h
     subst h
     rw [out_union hk, hs, at_byte (c := 61) (by decide) h61, hs2, at_byte (c := 62) (by decide) h62]
     simp
    ·cases h
  ·cases h
theorem enumR_out {t : Ty} {k s : Bs} (hk : at_ k 0 = 64) {x : V × Bs} (h : enumR t k s = some x) : 35 :: s = outV x.1 ++ x.2 := by
 unfold enumR at h
 split at h
 ·cases h
 ·rename_i f hf
  obtain ⟨hs, -⟩ := tagR_out hf
  injection h with h
  subst h
  rw [out_enum hk, hs]; simp
theorem namedR_out {rd : Bs → Bs → Option (V × Bs)} (hr : Outs2 rd) {X : List Ty} {t : Ty} {k s : Bs} (hk : at_ k 0 = 64) {x : V × Bs} (h : namedR rd X t k s = some x) : s = outV x.1 ++ x.2 := by
 unfold namedR at h
 split at h
 ·rename_i h1
  rw [← recordR_out hr hk h]; exact at_byte (c := 123) (by decide) h1.2
 ·split at h
  ·rename_i h1
   rw [← enumR_out hk h]; exact at_byte (c := 35) (by decide) h1.2
  ·split at h
   ·rename_i h1
    rw [← unionR_out hr hk h]; exact at_byte (c := 60) (by decide) h1.2
   ·cases h
theorem plainR_out {k s : Bs} (h1 : at_ k 0 ≠ 91) (h2 : at_ k 0 ≠ 63) (h3 : at_ k 0 ≠ 64) {x : V × Bs} (h : plainR s k = some x) : s = outV x.1 ++ x.2 := by
 unfold plainR at h
 split at h
 ·split at h
  ·injection h with h; subst h; rw [out_plain h1 h2 h3, List.take_append_drop]
  ·cases h
 ·split at h
  ·split at h
   ·injection h with h; subst h; rw [out_plain h1 h2 h3, List.take_append_drop]
   ·cases h
  ·split at h
   ·rename_i e; injection h with h; subst h; rw [out_plain h1 h2 h3, ← e, List.take_append_drop]
   ·split at h
    ·rename_i e; injection h with h; subst h; rw [out_plain h1 h2 h3, ← e, List.take_append_drop]
    ·cases h
theorem readF_out (X : List Ty) (d : Nat) (s k : Bs) (x : V × Bs) (h : readF X d s k = some x) : s = outV x.1 ++ x.2 := by
 induction d generalizing s k x with
 | zero => cases h
 | succ d ih =>
  rw [readF] at h
  split at h
  ·cases h
  ·split at h
   ·rename_i hk
    split at h
    ·rename_i h91
     rw [← listR_out (fun s x hx => ih s _ x hx) hk h]; exact at_byte (c := 91) (by decide) h91
    ·cases h
   ·split at h
    ·rename_i hk
     split at h
     ·rename_i h45
      injection h with h
      subst h
      rw [out_none hk]; exact at_byte (c := 45) (by decide) h45
     ·split at h
      ·rename_i h43
       cases hr : readF X d (s.drop 1) (k.drop 1) with
       | none => rw [hr] at h; cases h
       | some y =>
        rw [hr] at h
        injection h with h
        subst h
        rw [out_some hk, List.cons_append, ← ih _ _ _ hr]; exact at_byte (c := 43) (by decide) h43
      ·cases h
    ·split at h
     ·rename_i hk
      split at h
      ·cases h
      ·exact namedR_out (fun s k x hx => ih s k x hx) hk h
     ·exact plainR_out (by assumption) (by assumption) (by assumption) h
theorem readF_len {X : List Ty} {d : Nat} {s k : Bs} {x : V × Bs} (h : readF X d s k = some x) : (outV x.1).length + x.2.length = s.length := by
 have := congrArg List.length (readF_out X d s k x h); simp at this; omega
inductive Tv (X : List Ty) : V → Prop
 | num {t : Bs} (h : (numL t 999999).isSome = true) : Tv X (.mk [110] t [] [])
 | text {t : Bs} (h : textL t = true) : Tv X (.mk [116] t [] [])
 | yes : Tv X (.mk [102] [121, 101, 115] [] [])
 | no : Tv X (.mk [102] [110, 111] [] [])
 | list {k : Bs} {l : List V} (hk : kOk k = true) (h : at_ k 0 = 91) (hl : l.length ≤ 20) (hx : ∀ x ∈ l, Tv X x) (hxk : ∀ x ∈ l, x.kind = k.drop 1) : Tv X (.mk k [] [] l)
 | none {k : Bs} (hk : kOk k = true) (h : at_ k 0 = 63) : Tv X (.mk k [] [] [])
 | some {k : Bs} {x : V} (hk : kOk k = true) (h : at_ k 0 = 63) (hx : Tv X x) (hxk : x.kind = k.drop 1) : Tv X (.mk k [] [] [x])
 | record {k : Bs} {t : Ty} {gs : List Int} {l : List V} (hk : kOk k = true) (h : at_ k 0 = 64) (hr : refT X k = .some t) (hs : t.sort = 82) (hl : gs.length = l.length) (ha : gs.Pairwise (· < ·))
   (hf : ∀ (i : Nat) (h1 : i < gs.length) (h2 : i < l.length), ∃ f, fieldM t gs[i] = .some f ∧ l[i].kind = f.kind ∧ outV l[i] ≠ standM X f) (hx : ∀ x ∈ l, Tv X x) : Tv X (.mk k [82] gs l)
 | union {k : Bs} {t : Ty} {g : Int} {x : V} {f : Fl} (hk : kOk k = true) (h : at_ k 0 = 64) (hr : refT X k = .some t) (hs : t.sort = 85) (hf : fieldM t g = .some f) (hxk : x.kind = f.kind) (hx : Tv X x) : Tv X (.mk k [85] [g] [x])
 | enum {k : Bs} {t : Ty} {g : Int} {f : Fl} (hk : kOk k = true) (h : at_ k 0 = 64) (hr : refT X k = .some t) (hs : t.sort = 69) (hf : fieldM t g = .some f) : Tv X (.mk k [69] [g] [])
def Rds (X : List Ty) (k : Bs) (rd : Bs → Option (V × Bs)) : Prop := ∀ s x, rd s = some x → Tv X x.1 ∧ x.1.kind = k
theorem itemsR_tv {X : List Ty} {k : Bs} {rd : Bs → Option (V × Bs)} (hr : Rds X k rd) (n : Nat) (s : Bs) (acc : List V) (y : List V × Bs) (ha : ∀ x ∈ acc, Tv X x ∧ x.kind = k) (h : itemsR rd n s acc = some y) : (∀ x ∈ y.1, Tv X x ∧ x.kind = k) ∧ y.1.length ≤ acc.length + n := by
 induction n generalizing s acc with
 | zero => cases h
 | succ n ih =>
  rw [itemsR] at h
  split at h
  ·cases h
  ·rename_i x hx
   have ha2 : ∀ z ∈ acc ++ [x.1], Tv X z ∧ z.kind = k := by
    intro z hz
    rcases List.mem_append.1 hz with hz | hz
    ·exact ha z hz
    ·simp at hz; subst hz; exact hr _ _ hx
   split at h
   ·injection h with h
    subst h
    exact ⟨ha2, by simp⟩
   ·split at h
    ·have := ih _ _ ha2 h
     simp at this
     exact ⟨this.1, by omega⟩
    ·cases h
theorem listR_tv {X : List Ty} {k s : Bs} {rd : Bs → Option (V × Bs)} (hr : Rds X (k.drop 1) rd) (hko : kOk k = true) (hk : at_ k 0 = 91) {x : V × Bs} (h : listR rd k s = some x) : Tv X x.1 ∧ x.1.kind = k := by
 unfold listR at h
 split at h
 ·injection h with h
  subst h
  exact ⟨.list hko hk (by simp) (by simp) (by simp), rfl⟩
 ·cases hi : itemsR rd 20 s [] with
  | none => rw [hi] at h; cases h
  | some y =>
   rw [hi] at h
   injection h with h
   subst h
   obtain ⟨h1, h2⟩ := itemsR_tv hr 20 s [] y (by simp) hi
   exact ⟨.list hko hk (by simpa using h2) (fun x hx => (h1 x hx).1) (fun x hx => (h1 x hx).2), rfl⟩
theorem asc_snoc {gs : List Int} {g : Int} (ha : gs.Pairwise (· < ·)) (h : gs = [] ∨ gs.getD (gs.length - 1) 0 < g) : (gs ++ [g]).Pairwise (· < ·) := by
 rw [List.pairwise_append]
 refine ⟨ha, by simp, ?_⟩
 intro a ha1 b hb
 simp at hb; subst hb
 rcases h with rfl | h
 ·simp at ha1
 ·obtain ⟨i, hi, rfl⟩ := List.getElem_of_mem ha1
  rw [List.getD_eq_getElem?_getD, List.getElem?_eq_getElem (by omega)] at h
  simp only [Option.getD_some] at h
  rcases Nat.lt_or_ge i (gs.length - 1) with hlt | hge
  ·have := List.pairwise_iff_getElem.1 ha i (gs.length - 1) hi (by omega) hlt
   omega
  ·have : i = gs.length - 1 := by omega
   subst this; exact h
structure Part (X : List Ty) (t : Ty) (gs : List Int) (l : List V) : Prop where
 len : gs.length = l.length
 asc : gs.Pairwise (· < ·)
 fld : ∀ (i : Nat) (_ : i < gs.length) (_ : i < l.length), ∃ f, fieldM t gs[i] = some f ∧ l[i].kind = f.kind ∧ outV l[i] ≠ standM X f
 val : ∀ x ∈ l, Tv X x
theorem Part.nil (X : List Ty) (t : Ty) : Part X t [] [] := ⟨rfl, List.Pairwise.nil, by intro i h; simp at h, by simp⟩
theorem Part.snoc {X : List Ty} {t : Ty} {gs : List Int} {l : List V} (h : Part X t gs l) {g : Int} {x : V} {f : Fl} (hg : gs = [] ∨ gs.getD (gs.length - 1) 0 < g) (hf : fieldM t g = some f) (hk : x.kind = f.kind) (ho : outV x ≠ standM X f) (hx : Tv X x) : Part X t (gs ++ [g]) (l ++ [x]) := by
 refine ⟨by simp [h.len], asc_snoc h.asc hg, ?_, ?_⟩
 ·intro i h1 h2
  rcases Nat.lt_or_ge i gs.length with hlt | hge
  ·rw [List.getElem_append_left hlt, List.getElem_append_left (by rw [← h.len]; exact hlt)]
   exact h.fld i hlt _
  ·have : i = gs.length := by simp at h1; omega
   subst this
   have hl := h.len
   refine ⟨f, ?_, ?_, ?_⟩
   ·simpa using hf
   ·simp [hl, hk]
   ·simpa [hl] using ho
 ·intro z hz
  rcases List.mem_append.1 hz with hz | hz
  ·exact h.val z hz
  ·simp at hz; subst hz; exact hx
def Rds2 (X : List Ty) (rd : Bs → Bs → Option (V × Bs)) : Prop := ∀ s k x, kOk k = true → rd s k = some x → Tv X x.1 ∧ x.1.kind = k
theorem fieldsR_tv {X : List Ty} {rd : Bs → Bs → Option (V × Bs)} (hr : Rds2 X rd) (t : Ty) (hg : GoodT t) (h69 : t.sort ≠ 69) (n : Nat) (s : Bs) (gs : List Int) (l : List V) (hp : Part X t gs l) (y : (List Int × List V) × Bs) (h : fieldsR rd X t n s gs l = some y) : Part X t y.1.1 y.1.2 := by
 induction n generalizing s gs l with
 | zero => cases h
 | succ n ih =>
  rw [fieldsR] at h
  split at h
  ·cases h
  ·rename_i f hf
   obtain ⟨-, -, -, hm, hf2⟩ := tagR_out hf
   split at h
   ·rename_i h61
    split at h
    ·cases h
    ·rename_i x hx
     obtain ⟨h1, h2⟩ := hr _ _ _ ((hg.2.2.2.2 _ hm).2.2.2.2.2.1 h69) hx
     split at h
     ·rename_i ho
      have hp2 := hp.snoc h61.2 hf2 h2 ho h1
      split at h
      ·injection h with h
       subst h
       exact hp2
      ·split at h
       ·exact ih _ _ _ hp2 h
       ·cases h
     ·cases h
   ·cases h
theorem readF_tv {X : List Ty} (hg : ∀ t ∈ X, GoodT t) (d : Nat) (s k : Bs) (x : V × Bs) (hk : kOk k = true) (h : readF X d s k = some x) : Tv X x.1 ∧ x.1.kind = k := by
 induction d generalizing s k x with
 | zero => cases h
 | succ d ih =>
  have hdrop : at_ k 0 = 91 ∨ at_ k 0 = 63 → kOk (k.drop 1) = true := by
   intro h0
   rcases kind_cases k with hn | ⟨n, m, hn, -, -, -, h2⟩
   ·simp [kOk, hn] at hk
   ·cases m with
    | succ m => unfold kOk; rw [kindR_drop hn]; rfl
    | zero =>
     rcases h2 with ⟨-, -, -, e⟩ | ⟨-, e⟩
     ·omega
     ·rcases h0 with h0 | h0 <;> omega
  rw [readF] at h
  split at h
  ·cases h
  ·split at h
   ·rename_i h91
    split at h
    ·exact listR_tv (fun s x hx => ih s _ x (hdrop (.inl h91)) hx) hk h91 h
    ·cases h
   ·split at h
    ·rename_i h63
     split at h
     ·injection h with h
      subst h
      exact ⟨.none hk h63, rfl⟩
     ·split at h
      ·cases hr : readF X d (s.drop 1) (k.drop 1) with
       | none => rw [hr] at h; cases h
       | some y =>
        rw [hr] at h
        injection h with h
        subst h
        obtain ⟨h1, h2⟩ := ih _ _ _ (hdrop (.inr h63)) hr
        exact ⟨.some hk h63 h1 h2, rfl⟩
      ·cases h
    ·split at h
     ·rename_i h64
      split at h
      ·cases h
      ·rename_i t ht
       have hgt := hg t (refT_mem0 ht)
       unfold namedR at h
       split at h
       ·rename_i h1
        unfold recordR at h
        split at h
        ·injection h with h
         subst h
         exact ⟨.record hk h64 ht h1.1 rfl List.Pairwise.nil (by intro i h; simp at h) (by simp), rfl⟩
        ·cases hi : fieldsR (fun s k => readF X d s k) X t ((s.drop 1).length + 1) (s.drop 1) [] [] with
         | none => rw [hi] at h; cases h
         | some y =>
          rw [hi] at h
          injection h with h
          subst h
          have hp := fieldsR_tv (fun s k x hk hx => ih s k x hk hx) t hgt (by omega) _ _ _ _ (Part.nil X t) _ hi
          exact ⟨.record hk h64 ht h1.1 hp.len hp.asc hp.fld hp.val, rfl⟩
       ·split at h
        ·rename_i h1
         unfold enumR at h
         split at h
         ·cases h
         ·rename_i f hf
          obtain ⟨-, -, -, -, hf2⟩ := tagR_out hf
          injection h with h
          subst h
          exact ⟨.enum hk h64 ht h1.1 hf2, rfl⟩
        ·split at h
         ·rename_i h1
          unfold unionR at h
          split at h
          ·cases h
          ·rename_i f hf
           obtain ⟨-, -, -, hm, hf2⟩ := tagR_out hf
           split at h
           ·split at h
            ·cases h
            ·rename_i y hy
             obtain ⟨h3, h4⟩ := ih _ _ _ ((hgt.2.2.2.2 _ hm).2.2.2.2.2.1 (by omega)) hy
             split at h
             ·injection h with h
              subst h
              exact ⟨.union hk h64 ht h1.1 hf2 h4 h3, rfl⟩
             ·cases h
           ·cases h
         ·cases h
     ·rename_i n91 n63 n64
      have hkk : k = [110] ∨ k = [116] ∨ k = [102] := by
       rcases kind_cases k with hn | ⟨n, m, hn, hl, hd, h1, h2⟩
       ·simp [kOk, hn] at hk
       ·cases m with
        | succ m => have := h1 0 (by omega); omega
        | zero =>
         rcases h2 with ⟨-, -, -, e⟩ | ⟨e1, e2⟩
         ·omega
         ·simp only [List.drop_zero] at e2
          rcases e2 with ⟨e, -⟩ | ⟨e, -⟩ | ⟨e, -⟩
          ·exact .inl e
          ·exact .inr (.inl e)
          ·exact .inr (.inr e)
      unfold plainR at h
      split at h
      ·rename_i e
       subst e
       split at h
       ·rename_i hh
        injection h with h; subst h; exact ⟨.num hh, rfl⟩
       ·cases h
      ·rename_i ne1
       split at h
       ·rename_i e
        subst e
        split at h
        ·rename_i hh
         injection h with h; subst h; exact ⟨.text hh, rfl⟩
        ·cases h
       ·rename_i ne2
        obtain rfl : k = [102] := by
         rcases hkk with e | e | e
         ·exact absurd e ne1
         ·exact absurd e ne2
         ·exact e
        split at h
        ·injection h with h; subst h; exact ⟨.yes, rfl⟩
        ·split at h
         ·injection h with h; subst h; exact ⟨.no, rfl⟩
         ·cases h
mutual
def deepV : V → Nat
 | .mk _ _ _ l => deepsV l + 1
def deepsV : List V → Nat
 | [] => 0
 | x :: r => max (deepV x) (deepsV r)
end
mutual
def sizeV : V → Nat
 | .mk k t _ l => if at_ k 0 = 91 ∨ t = [82] ∨ t = [85] ∨ l ≠ [] then sizesV l else 1
def sizesV : List V → Nat
 | [] => 0
 | x :: r => sizeV x + sizesV r
end
theorem deepsV_snoc (l : List V) (x : V) : deepsV (l ++ [x]) = max (deepsV l) (deepV x) := by
 induction l with
 | nil => simp [deepsV]
 | cons a r ih => simp only [List.cons_append, deepsV, ih]; omega
theorem deepsV_le {l : List V} {d : Nat} : deepsV l ≤ d ↔ ∀ x ∈ l, deepV x ≤ d := by
 induction l with
 | nil => simp [deepsV]
 | cons a r ih => simp only [deepsV, List.mem_cons, forall_eq_or_imp]; rw [← ih]; omega
theorem deepV_le {k t : Bs} {gs : List Int} {l : List V} {d : Nat} : deepV (.mk k t gs l) ≤ d + 1 ↔ ∀ x ∈ l, deepV x ≤ d := by
 rw [← deepsV_le, deepV]; omega
def Cut (d : Nat) (rd rd' : Bs → Option (V × Bs)) : Prop := ∀ s x, rd' s = some x ↔ rd s = some x ∧ deepV x.1 ≤ d
theorem itemsR_mem {rd : Bs → Option (V × Bs)} (n : Nat) (s : Bs) (acc : List V) (y : List V × Bs) (h : itemsR rd n s acc = some y) : ∀ z ∈ acc, z ∈ y.1 := by
 induction n generalizing s acc with
 | zero => cases h
 | succ n ih =>
  rw [itemsR] at h
  split at h
  ·cases h
  ·split at h
   ·injection h with h
    subst h
    intro z hz; simp [hz]
   ·split at h
    ·intro z hz; exact ih _ _ h z (by simp [hz])
    ·cases h
theorem snoc_le {acc : List V} {x : V} {d : Nat} (ha : ∀ z ∈ acc, deepV z ≤ d) (hx : deepV x ≤ d) : ∀ z ∈ acc ++ [x], deepV z ≤ d := by
 intro z hz
 rcases List.mem_append.1 hz with hz | hz
 ·exact ha z hz
 ·simp at hz; subst hz; exact hx
theorem itemsR_cut {d : Nat} {rd rd' : Bs → Option (V × Bs)} (hc : Cut d rd rd') (n : Nat) (s : Bs) (acc : List V) (ha : ∀ z ∈ acc, deepV z ≤ d) (y : List V × Bs) :
  itemsR rd' n s acc = some y ↔ itemsR rd n s acc = some y ∧ ∀ z ∈ y.1, deepV z ≤ d := by
 induction n generalizing s acc with
 | zero => simp [itemsR]
 | succ n ih =>
  constructor
  ·intro h
   rw [itemsR] at h
   split at h
   ·cases h
   ·rename_i x hx
    obtain ⟨h1, h2⟩ := (hc _ _).1 hx
    have ha2 := snoc_le ha h2
    rw [itemsR, h1]
    simp only
    split at h
    ·rename_i e
     rw [if_pos e]
     injection h with h
     subst h
     exact ⟨rfl, ha2⟩
    ·rename_i e
     rw [if_neg e]
     split at h
     ·rename_i e2
      rw [if_pos e2]
      exact (ih _ _ ha2).1 h
     ·cases h
  ·rintro ⟨h, hd⟩
   have hm := h
   rw [itemsR] at h
   split at h
   ·cases h
   ·rename_i x hx
    have h2 : deepV x.1 ≤ d := by
     refine hd _ ?_
     split at h
     ·injection h with h; subst h; simp
     ·split at h
      ·exact itemsR_mem _ _ _ _ h _ (by simp)
      ·cases h
    have h1 := (hc _ _).2 ⟨hx, h2⟩
    have ha2 := snoc_le ha h2
    rw [itemsR, h1]
    simp only
    split at h
    ·rename_i e
     rw [if_pos e]
     exact h
    ·rename_i e
     rw [if_neg e]
     split at h
     ·rename_i e2
      rw [if_pos e2]
      exact (ih _ _ ha2).2 ⟨h, hd⟩
     ·cases h
theorem listR_cut {d : Nat} {rd rd' : Bs → Option (V × Bs)} (hc : Cut d rd rd') (k s : Bs) (x : V × Bs) : listR rd' k s = some x ↔ listR rd k s = some x ∧ deepV x.1 ≤ d + 1 := by
 unfold listR
 split
 ·constructor
  ·intro h
   refine ⟨h, ?_⟩
   injection h with h
   subst h
   rw [deepV_le]; simp
  ·exact fun h => h.1
 ·simp only [Option.map_eq_some_iff]
  constructor
  ·rintro ⟨y, hy, rfl⟩
   obtain ⟨h1, h2⟩ := (itemsR_cut hc 20 s [] (by simp) y).1 hy
   exact ⟨⟨y, h1, rfl⟩, deepV_le.2 h2⟩
  ·rintro ⟨⟨y, hy, rfl⟩, hd⟩
   exact ⟨y, (itemsR_cut hc 20 s [] (by simp) y).2 ⟨hy, deepV_le.1 hd⟩, rfl⟩
def Cut2 (d : Nat) (rd rd' : Bs → Bs → Option (V × Bs)) : Prop := ∀ s k x, rd' s k = some x ↔ rd s k = some x ∧ deepV x.1 ≤ d
theorem fieldsR_mem {rd : Bs → Bs → Option (V × Bs)} {X : List Ty} {t : Ty} (n : Nat) (s : Bs) (gs : List Int) (l : List V) (y : (List Int × List V) × Bs) (h : fieldsR rd X t n s gs l = some y) : ∀ z ∈ l, z ∈ y.1.2 := by
 induction n generalizing s gs l with
 | zero => cases h
 | succ n ih =>
  rw [fieldsR] at h
  split at h
  ·cases h
  ·split at h
   ·split at h
    ·cases h
    ·split at h
     ·split at h
      ·injection h with h
       subst h
       intro z hz; simp [hz]
      ·split at h
       ·intro z hz; exact ih _ _ _ h z (by simp [hz])
       ·cases h
     ·cases h
   ·cases h
theorem fieldsR_cut {d : Nat} {rd rd' : Bs → Bs → Option (V × Bs)} (hc : Cut2 d rd rd') (X : List Ty) (t : Ty) (n : Nat) (s : Bs) (gs : List Int) (l : List V) (ha : ∀ z ∈ l, deepV z ≤ d) (y : (List Int × List V) × Bs) :
  fieldsR rd' X t n s gs l = some y ↔ fieldsR rd X t n s gs l = some y ∧ ∀ z ∈ y.1.2, deepV z ≤ d := by
 induction n generalizing s gs l with
 | zero => simp [fieldsR]
 | succ n ih =>
  rw [fieldsR, fieldsR]
  cases hf : tagR s t with
  | none => simp
  | some f =>
   simp only
   by_cases h61 : at_ f.2 0 = 61 ∧ (gs = [] ∨ gs.getD (gs.length - 1) 0 < f.1.tag)
   ·rw [if_pos h61, if_pos h61]
    constructor
    ·intro h
     split at h
     ·cases h
     ·rename_i x hx
      obtain ⟨h1, h2⟩ := (hc _ _ _).1 hx
      have ha2 := snoc_le ha h2
      rw [h1]
      simp only
      split at h
      ·rename_i e0
       rw [if_pos e0]
       split at h
       ·rename_i e
        rw [if_pos e]
        injection h with h
        subst h
        exact ⟨rfl, ha2⟩
       ·rename_i e
        rw [if_neg e]
        split at h
        ·rename_i e2
         rw [if_pos e2]
         exact (ih _ _ _ ha2).1 h
        ·cases h
      ·cases h
    ·rintro ⟨h, hd⟩
     split at h
     ·cases h
     ·rename_i x hx
      have h2 : deepV x.1 ≤ d := by
       refine hd _ ?_
       split at h
       ·split at h
        ·injection h with h; subst h; simp
        ·split at h
         ·exact fieldsR_mem _ _ _ _ _ h _ (by simp)
         ·cases h
       ·cases h
      have h1 := (hc _ _ _).2 ⟨hx, h2⟩
      have ha2 := snoc_le ha h2
      rw [h1]
      simp only
      split at h
      ·rename_i e0
       rw [if_pos e0]
       split at h
       ·rename_i e
        rw [if_pos e]
        exact h
       ·rename_i e
        rw [if_neg e]
        split at h
        ·rename_i e2
         rw [if_pos e2]
         exact (ih _ _ _ ha2).2 ⟨h, hd⟩
        ·cases h
      ·cases h
   ·rw [if_neg h61, if_neg h61]; simp
theorem namedR_cut {d : Nat} {rd rd' : Bs → Bs → Option (V × Bs)} (hc : Cut2 d rd rd') (X : List Ty) (t : Ty) (k s : Bs) (x : V × Bs) : namedR rd' X t k s = some x ↔ namedR rd X t k s = some x ∧ deepV x.1 ≤ d + 1 := by
 unfold namedR
 split
 ·unfold recordR
  split
  ·constructor
   ·intro h
    refine ⟨h, ?_⟩
    injection h with h
    subst h
    rw [deepV_le]; simp
   ·exact fun h => h.1
  ·simp only [Option.map_eq_some_iff]
   constructor
   ·rintro ⟨y, hy, rfl⟩
    obtain ⟨h1, h2⟩ := (fieldsR_cut hc X t _ _ [] [] (by simp) y).1 hy
    exact ⟨⟨y, h1, rfl⟩, deepV_le.2 h2⟩
   ·rintro ⟨⟨y, hy, rfl⟩, hd⟩
    exact ⟨y, (fieldsR_cut hc X t _ _ [] [] (by simp) y).2 ⟨hy, deepV_le.1 hd⟩, rfl⟩
 ·split
  ·unfold enumR
   split
   ·simp
   ·constructor
    ·intro h
     refine ⟨h, ?_⟩
     injection h with h
     subst h
     rw [deepV_le]; simp
    ·exact fun h => h.1
  ·split
   ·unfold unionR
    split
    ·simp
    ·rename_i f hf
     split
     ·constructor
      ·intro h
       split at h
       ·cases h
       ·rename_i y hy
        obtain ⟨h1, h2⟩ := (hc _ _ _).1 hy
        rw [h1]
        simp only
        refine ⟨h, ?_⟩
        split at h
        ·injection h with h
         subst h
         rw [deepV_le]; simpa using h2
        ·cases h
      ·rintro ⟨h, hd⟩
       split at h
       ·cases h
       ·rename_i y hy
        split at h
        ·rename_i e
         injection h with h
         subst h
         rw [(hc _ _ _).2 ⟨hy, by rw [deepV_le] at hd; exact hd _ (by simp)⟩]
         simp only
         rw [if_pos e]
        ·cases h
     ·simp
   ·simp
theorem plainR_deep {s k : Bs} {x : V × Bs} (h : plainR s k = some x) : deepV x.1 = 1 := by
 unfold plainR at h
 by_cases h1 : k = [110]
 ·rw [if_pos h1] at h
  split at h
  ·injection h with h; subst h; rfl
  ·cases h
 ·rw [if_neg h1] at h
  by_cases h2 : k = [116]
  ·rw [if_pos h2] at h
   split at h
   ·injection h with h; subst h; rfl
   ·cases h
  ·rw [if_neg h2] at h
   split at h
   ·injection h with h; subst h; rfl
   ·split at h
    ·injection h with h; subst h; rfl
    ·cases h
theorem readF_cut (X : List Ty) (d e : Nat) (hde : d ≤ e) (s k : Bs) (x : V × Bs) : readF X d s k = some x ↔ readF X e s k = some x ∧ deepV x.1 ≤ d := by
 induction d generalizing e s k x with
 | zero =>
  simp only [readF]
  constructor
  ·intro h; cases h
  ·rintro ⟨-, h⟩
   obtain ⟨v, r⟩ := x
   cases v
   simp [deepV] at h
 | succ d ih =>
  obtain ⟨e, rfl⟩ : ∃ e', e = e' + 1 := ⟨e - 1, by omega⟩
  have IH := ih e (by omega)
  rw [readF, readF]
  split
  ·simp
  ·split
   ·split
    ·exact listR_cut (fun s x => IH s _ x) k _ x
    ·simp
   ·split
    ·split
     ·constructor
      ·intro h
       refine ⟨h, ?_⟩
       injection h with h
       subst h
       rw [deepV_le]; simp
      ·exact fun h => h.1
     ·split
      ·simp only [Option.map_eq_some_iff]
       constructor
       ·rintro ⟨y, hy, rfl⟩
        obtain ⟨h1, h2⟩ := (IH _ _ _).1 hy
        exact ⟨⟨y, h1, rfl⟩, deepV_le.2 (by simpa using h2)⟩
       ·rintro ⟨⟨y, hy, rfl⟩, hd⟩
        exact ⟨y, (IH _ _ _).2 ⟨hy, deepV_le.1 hd _ (by simp)⟩, rfl⟩
      ·simp
    ·split
     ·split
      ·simp
      ·exact namedR_cut (fun s k x => IH s k x) X _ k s x
     ·constructor
      ·intro h; exact ⟨h, by rw [plainR_deep h]; omega⟩
      ·exact fun h => h.1
theorem joinC_one (L : List Bs) (h : 0 < L.length) : joinC (L.take (0 + 1)) = L[0] := by
 rw [List.take_succ_eq_append_getElem h, joinC_snoc, if_pos List.take_zero]
theorem joinC_more (L : List Bs) (i : Nat) (h : i < L.length) (h0 : i ≠ 0) : joinC (L.take (i + 1)) = joinC (L.take i) ++ (44 :: L[i]) := by
 rw [List.take_succ_eq_append_getElem h, joinC_snoc, if_neg]
 intro e
 have : (L.take i).length = 0 := by rw [e]; rfl
 rw [List.length_take] at this; omega
theorem joinC_grow (L : List Bs) (i : Nat) (h : i < L.length) : (joinC (L.take i)).length + L[i].length ≤ (joinC (L.take (i + 1))).length := by
 cases i with
 | zero => rw [joinC_one L h]; simp [joinC]
 | succ i => rw [joinC_more L (i + 1) h (by omega)]; simp only [List.length_append, List.length_cons]; omega
theorem joinC_take (L : List Bs) (i d : Nat) (h : i + d ≤ L.length) : (joinC (L.take i)).length ≤ (joinC (L.take (i + d))).length := by
 induction d with
 | zero => exact Nat.le_refl _
 | succ d ih => have := joinC_grow L (i + d) (by omega); have := ih (by omega); rw [← Nat.add_assoc]; omega
theorem joinC_le (L : List Bs) (i : Nat) (h : i ≤ L.length) : (joinC (L.take i)).length ≤ (joinC L).length := by
 have := joinC_take L i (L.length - i) (by omega)
 rw [show i + (L.length - i) = L.length from by omega, List.take_length] at this
 exact this
theorem joinC_one_le (L : List Bs) (i : Nat) (h : i < L.length) : (joinC (L.take i)).length + L[i].length ≤ (joinC L).length :=
 Nat.le_trans (joinC_grow L i h) (joinC_le L (i + 1) (by omega))
theorem joinC_all (L : List Bs) (i : Nat) (h : L.length ≤ i) : joinC (L.take i) = joinC L := by rw [List.take_of_length_le h]
theorem joinC_cnt (L : List Bs) (h : ∀ x ∈ L, 1 ≤ x.length) (i : Nat) (hi : i ≤ L.length) : i ≤ (joinC (L.take i)).length := by
 induction i with
 | zero => exact Nat.zero_le _
 | succ i ih => have := joinC_grow L i (by omega); have := ih (by omega); have := h L[i] (List.getElem_mem (by omega)); omega
theorem list_len {k t : Bs} {gs : List Int} {l : List V} (h : at_ k 0 = 91) (i : Nat) (hi : i < l.length) : (outV l[i]).length ≤ (outV (.mk k t gs l)).length := by
 rw [out_list h]
 have := joinC_one_le (l.map outV) i (by simpa using hi)
 simp at this ⊢; omega
theorem record_len {k t : Bs} {gs : List Int} {l : List V} (h : at_ k 0 = 64) (h1 : t ≠ [85]) (h2 : t ≠ [69]) (hl : gs.length = l.length) (i : Nat) (hi : i < l.length) : (outV l[i]).length ≤ (outV (.mk k t gs l)).length := by
 rw [out_record h h1 h2]
 have hL := toldL_len gs (l.map outV) (by simp [hl])
 have := joinC_one_le (toldL gs (l.map outV)) i (by rw [hL]; simpa using hi)
 rw [toldL_get gs (l.map outV) i (by omega) (by simpa using hi)] at this
 simp at this ⊢; omega
theorem record_cnt {k t : Bs} {gs : List Int} {l : List V} (h : at_ k 0 = 64) (h1 : t ≠ [85]) (h2 : t ≠ [69]) (hl : gs.length = l.length) : l.length ≤ (outV (.mk k t gs l)).length := by
 rw [out_record h h1 h2]
 have hL := toldL_len gs (l.map outV) (by simp [hl])
 have := joinC_cnt (toldL gs (l.map outV)) (by
  intro x hx
  obtain ⟨i, hi, rfl⟩ := List.getElem_of_mem hx
  rw [toldL_get gs (l.map outV) i (by rw [hL] at hi; simp at hi; omega) (by rw [hL] at hi; exact hi)]
  simp; omega) _ (Nat.le_refl _)
 rw [List.take_length, hL] at this
 simp at this ⊢; omega
theorem union_len {k : Bs} {gs : List Int} {x : V} (h : at_ k 0 = 64) : (outV x).length ≤ (outV (.mk k [85] gs [x])).length := by
 rw [out_union h]; simp; omega
theorem some_len {k t : Bs} {gs : List Int} {x : V} (h : at_ k 0 = 63) : (outV x).length ≤ (outV (.mk k t gs [x])).length := by
 rw [out_some h]; simp
theorem fieldM_bd {X : List Ty} (hg : ∀ t ∈ X, GoodT t) {k : Bs} {t : Ty} {g : Int} {f : Fl} (hr : refT X k = some t) (hf : fieldM t g = some f) : 1 ≤ g ∧ g ≤ 200 := by
 obtain ⟨hm, rfl⟩ := fieldM_mem hf
 have := (hg t (refT_mem0 hr)).2.2.2.2 f hm
 exact ⟨this.1, this.2.1⟩
section
variable {rd : Bs → Bs → Option (V × Bs)} {X : List Ty} {t : Ty} {n : Nat} {s r r2 : Bs} {gs : List Int} {l : List V} {f : Fl} {x : V}
theorem fields_tag (h : tagR s t = none) : fieldsR rd X t (n + 1) s gs l = none := by rw [fieldsR, h]
theorem fields_sep (h : tagR s t = some (f, r)) (h1 : ¬ (at_ r 0 = 61 ∧ (gs = [] ∨ gs.getD (gs.length - 1) 0 < f.tag))) : fieldsR rd X t (n + 1) s gs l = none := by rw [fieldsR, h]; exact if_neg h1
theorem fields_on (h : tagR s t = some (f, r)) (h1 : at_ r 0 = 61 ∧ (gs = [] ∨ gs.getD (gs.length - 1) 0 < f.tag)) : fieldsR rd X t (n + 1) s gs l = (match rd (r.drop 1) f.kind with
         | none => none
         | some x => if outV x.1 ≠ standM X f then
             (if at_ x.2 0 = 125 then some ((gs ++ [f.tag], l ++ [x.1]), x.2.drop 1) else if at_ x.2 0 = 44 then fieldsR rd X t n (x.2.drop 1) (gs ++ [f.tag]) (l ++ [x.1]) else none)
           else none) := by rw [fieldsR, h]; exact if_pos h1
theorem fields_read (h : tagR s t = some (f, r)) (h1 : at_ r 0 = 61 ∧ (gs = [] ∨ gs.getD (gs.length - 1) 0 < f.tag)) (h2 : rd (r.drop 1) f.kind = none) : fieldsR rd X t (n + 1) s gs l = none := by rw [fields_on h h1, h2]
theorem fields_stand (h : tagR s t = some (f, r)) (h1 : at_ r 0 = 61 ∧ (gs = [] ∨ gs.getD (gs.length - 1) 0 < f.tag)) (h2 : rd (r.drop 1) f.kind = some (x, r2)) (h3 : outV x = standM X f) : fieldsR rd X t (n + 1) s gs l = none := by
 rw [fields_on h h1, h2]; exact if_neg (by simpa using h3)
theorem fields_bad (h : tagR s t = some (f, r)) (h1 : at_ r 0 = 61 ∧ (gs = [] ∨ gs.getD (gs.length - 1) 0 < f.tag)) (h2 : rd (r.drop 1) f.kind = some (x, r2)) (h4 : at_ r2 0 ≠ 125) (h5 : at_ r2 0 ≠ 44) : fieldsR rd X t (n + 1) s gs l = none := by
 rw [fields_on h h1, h2]
 show (if outV x ≠ standM X f then (if at_ r2 0 = 125 then _ else if at_ r2 0 = 44 then _ else none) else none) = none
 rw [if_neg h4, if_neg h5, ite_self]
theorem fields_end (h : tagR s t = some (f, r)) (h1 : at_ r 0 = 61 ∧ (gs = [] ∨ gs.getD (gs.length - 1) 0 < f.tag)) (h2 : rd (r.drop 1) f.kind = some (x, r2)) (h3 : outV x ≠ standM X f) (h4 : at_ r2 0 = 125) :
  fieldsR rd X t (n + 1) s gs l = some ((gs ++ [f.tag], l ++ [x]), r2.drop 1) := by rw [fields_on h h1, h2]; exact (if_pos h3).trans (if_pos h4)
theorem fields_more (h : tagR s t = some (f, r)) (h1 : at_ r 0 = 61 ∧ (gs = [] ∨ gs.getD (gs.length - 1) 0 < f.tag)) (h2 : rd (r.drop 1) f.kind = some (x, r2)) (h3 : outV x ≠ standM X f) (h4 : at_ r2 0 = 44) :
  fieldsR rd X t (n + 1) s gs l = fieldsR rd X t n (r2.drop 1) (gs ++ [f.tag]) (l ++ [x]) := by rw [fields_on h h1, h2]; exact (if_pos h3).trans ((if_neg (by show ¬ at_ r2 0 = 125; omega)).trans (if_pos h4))
end
theorem recordR_on {rd : Bs → Bs → Option (V × Bs)} {X : List Ty} {t : Ty} {k s : Bs} (h : at_ s 0 ≠ 125) {o : Option ((List Int × List V) × Bs)} (ho : fieldsR rd X t (s.length + 1) s [] [] = o) : recordR rd X t k s = o.map fun x => (.mk k [82] x.1.1 x.1.2, x.2) := by unfold recordR; rw [if_neg h, ho]
theorem tagR_len {s r : Bs} {t : Ty} {f : Fl} (h : tagR s t = some (f, r)) : r.length ≤ s.length := by
 obtain ⟨h1, -⟩ := tagR_out h
 have := congrArg List.length h1
 simp only [List.length_append] at this
 omega
theorem dec_pos1 (n : Int) : 1 ≤ (dec n).length := by unfold dec; rw [decN]; split <;> simp
theorem tv_pos {X : List Ty} {x : V} (h : Tv X x) : 1 ≤ (outV x).length := by
 cases h with
 | @num t h =>
  rw [out_plain (by decide) (by decide) (by decide)]
  cases hn : numL t 999999 with
  | none => rw [hn] at h; cases h
  | some n => rw [(numL_dec hn).1]; exact dec_pos1 n
 | @text t h =>
  rw [out_plain (by decide) (by decide) (by decide)]
  unfold textL at h; simp at h; omega
 | yes => rw [out_plain (by decide) (by decide) (by decide)]; simp
 | no => rw [out_plain (by decide) (by decide) (by decide)]; simp
 | list hk h => rw [out_list h]; simp
 | none hk h => rw [out_none h]; simp
 | some hk h => rw [out_some h]; simp
 | record hk h => rw [out_record h (by decide) (by decide)]; simp
 | union hk h => rw [out_union h]; simp
 | enum hk h => rw [out_enum h]; simp
theorem tv_kids {X : List Ty} {x : V} (h : Tv X x) : x.kids.length ≤ (outV x).length ∧ ∀ y ∈ x.kids, Tv X y ∧ (outV y).length ≤ (outV x).length := by
 cases h with
 | num h => exact ⟨by simp [V.kids], by simp [V.kids]⟩
 | text h => exact ⟨by simp [V.kids], by simp [V.kids]⟩
 | yes => exact ⟨by simp [V.kids], by simp [V.kids]⟩
 | no => exact ⟨by simp [V.kids], by simp [V.kids]⟩
 | @list k l hk h hl hx hxk =>
  have hc : l.length ≤ (joinC (l.map outV)).length := by
   have := joinC_cnt (l.map outV) (by
    intro x hx'
    obtain ⟨y, hy, rfl⟩ := List.mem_map.1 hx'
    exact tv_pos (hx y hy)) l.length (by simp)
   rw [List.take_of_length_le (by simp)] at this
   exact this
  refine ⟨by rw [out_list h]; simp [V.kids]; omega, fun y hy => ⟨hx y hy, ?_⟩⟩
  obtain ⟨i, hi, rfl⟩ := List.getElem_of_mem hy
  exact list_len h i hi
 | none hk h => exact ⟨by simp [V.kids], by simp [V.kids]⟩
 | some hk h hx hxk => exact ⟨by rw [out_some h]; simp [V.kids], by intro y hy; simp [V.kids] at hy; subst hy; exact ⟨hx, some_len h⟩⟩
 | record hk h hr hs hl ha hf hx =>
  refine ⟨record_cnt h (by decide) (by decide) hl, fun y hy => ⟨hx y hy, ?_⟩⟩
  obtain ⟨i, hi, rfl⟩ := List.getElem_of_mem hy
  exact record_len h (by decide) (by decide) hl i hi
 | union hk h hr hs hf hxk hx => exact ⟨by rw [out_union h]; simp [V.kids] <;> omega, by intro y hy; simp [V.kids] at hy; subst hy; exact ⟨hx, union_len h⟩⟩
 | enum hk h => exact ⟨by simp [V.kids], by simp [V.kids]⟩
end Go.Proofs.YtcjooeklehggaaaGreatDoor.M
