/- Lemmas of this seat. -/
import Derived.PlainAid
set_option linter.unusedVariables false
set_option linter.unusedSimpArgs false
set_option maxRecDepth 100000
namespace Go.Proofs.YtcjooeklehggaaaGreatDoor.M
def B8 (n : Int) : UInt8 := UInt8.ofNat n.toNat
theorem B8_nat (n : Int) (h0 : 0 ≤ n) (h1 : n < 256) : ((B8 n).toNat : Int) = n := by
 simp [B8, UInt8.toNat_ofNat']; omega
theorem B8_of (b : UInt8) : B8 (b.toNat : Int) = b := by simp [B8]
def at_ (l : List UInt8) (k : Nat) : Int := ((l.getD k 0).toNat : Int)
theorem at_lo (l : List UInt8) (k : Nat) : 0 ≤ at_ l k := by unfold at_; omega
theorem at_hi (l : List UInt8) (k : Nat) : at_ l k < 256 := by unfold at_; have := (l.getD k 0).toNat_lt; omega
def partL (l : List UInt8) : Nat → Int
 | 0 => 0
 | k + 1 => partL l k + at_ l k % 128 * 128 ^ k
def getFrom (l : List UInt8) : Nat → Nat → Int × List UInt8 × Bool
 | 0, _ => (0, [], false)
 | f + 1, k => if l.length ≤ k then (0, [], false) else
   if at_ l k < 128 then (if (0 < k ∧ at_ l k = 0) ∨ 999999 < partL l (k + 1) then (0, [], false) else (partL l (k + 1), l.drop (k + 1), true)) else getFrom l f (k + 1)
def lowFrom (l : List UInt8) (k : Nat) : Bool := (l.drop k).all fun c => decide (97 ≤ c.toNat) && decide (c.toNat ≤ 122)
theorem lowFrom_end (l : List UInt8) (k : Nat) (h : l.length ≤ k) : lowFrom l k = true := by
 unfold lowFrom; rw [List.drop_of_length_le h]; rfl
theorem lowFrom_in (l : List UInt8) (k : Nat) (h : k < l.length) : lowFrom l k = ((decide (97 ≤ at_ l k) && decide (at_ l k ≤ 122)) && lowFrom l (k + 1)) := by
 unfold lowFrom
 rw [List.drop_eq_getElem_cons h, List.all_cons]
 have e : at_ l k = ((l[k]).toNat : Int) := by unfold at_; rw [List.getD_eq_getElem?_getD, List.getElem?_eq_getElem h]; rfl
 rw [e]
 congr 2
 ·exact decide_eq_decide.2 (by omega)
 ·exact decide_eq_decide.2 (by omega)
def isName (l : List UInt8) : Bool := decide (1 ≤ l.length) && decide (l.length ≤ 3) && lowFrom l 0
def kindF : List UInt8 → Option (List UInt8 × Nat)
 | [] => none
 | c :: r =>
  if c = 91 ∨ c = 63 then (kindF r).map fun x => (x.1, x.2 + 1)
  else if c = 64 then (if r.getLast? = some 59 ∧ isName r.dropLast = true then some (r.dropLast, 0) else none)
  else if r = [] ∧ (c = 110 ∨ c = 116 ∨ c = 102) then some ([], 0) else none
def kindR (l : List UInt8) : Option (List UInt8 × Nat) := if l.length ≤ 12 then kindF l else none
theorem kindR_long (l : List UInt8) (h : 12 < l.length) : kindR l = none := by unfold kindR; rw [if_neg (by omega)]
theorem kindR_sign (c : UInt8) (r : List UInt8) (h : r.length + 1 ≤ 12) (hc : c = 91 ∨ c = 63) : kindR (c :: r) = (kindR r).map fun x => (x.1, x.2 + 1) := by
 unfold kindR; rw [if_pos (by simpa using h), if_pos (by omega), kindF, if_pos hc]
theorem kindR_at (r : List UInt8) (h : r.length + 1 ≤ 12) : kindR (64 :: r) = if r.getLast? = some 59 ∧ isName r.dropLast = true then some (r.dropLast, 0) else none := by
 unfold kindR; rw [if_pos (by simpa using h), kindF, if_neg (by decide), if_pos rfl]
theorem kindR_else (c : UInt8) (r : List UInt8) (h : r.length + 1 ≤ 12) (h1 : c ≠ 91) (h2 : c ≠ 63) (h3 : c ≠ 64) : kindR (c :: r) = if r = [] ∧ (c = 110 ∨ c = 116 ∨ c = 102) then some ([], 0) else none := by
 unfold kindR; rw [if_pos (by simpa using h), kindF, if_neg (by simp [h1, h2]), if_neg h3]
theorem last_at (c : UInt8) (r : List UInt8) (hr : r ≠ []) : at_ (c :: r) r.length = 59 ↔ r.getLast? = some 59 := by
 have e : (c :: r).getD r.length 0 = r.getLast hr := by
  rw [List.getD_eq_getElem?_getD]
  cases r with
  | nil => exact absurd rfl hr
  | cons x y => simp [List.getLast_eq_getElem]
 unfold at_; rw [e, List.getLast?_eq_some_getLast hr]
 constructor
 ·intro h; congr 1; exact UInt8.toNat_inj.1 (by show _ = 59; omega)
 ·intro h; injection h with h; rw [h]; rfl
theorem take_pred (r : List UInt8) : r.take (r.length - 1) = r.dropLast := List.dropLast_eq_take.symm
theorem kindF_core : ∀ (l n : List UInt8) (d : Nat), kindF l = some (n, d) → d ≤ l.length ∧ (∀ k, k < d → at_ l k = 91 ∨ at_ l k = 63) ∧
    ((n ≠ [] ∧ isName n = true ∧ l.drop d = 64 :: (n ++ [59])) ∨ (n = [] ∧ (l.drop d = [110] ∨ l.drop d = [116] ∨ l.drop d = [102]))) := by
  intro l
  induction l with
  | nil => intro n d h; cases h
  | cons c r ih =>
    intro n d h
    rw [kindF] at h
    by_cases c1 : c = 91 ∨ c = 63
    · rw [if_pos c1] at h
      cases hk : kindF r with
      | none => rw [hk] at h; cases h
      | some x =>
        rw [hk] at h
        obtain ⟨n', d'⟩ := x
        simp at h
        obtain ⟨rfl, rfl⟩ := h
        obtain ⟨i1, i2, i3⟩ := ih n' d' hk
        refine ⟨by simp; omega, ?_, by simpa using i3⟩
        intro k hk
        cases k with
        | zero => rcases c1 with rfl | rfl
                  · exact .inl rfl
                  · exact .inr rfl
        | succ k =>
          have := i2 k (by omega)
          have e : at_ (c :: r) (k + 1) = at_ r k := by unfold at_; simp
          rwa [e]
    · rw [if_neg c1] at h
      by_cases c2 : c = 64
      · rw [if_pos c2] at h
        split at h
        · rename_i hh
          injection h with h
          injection h with h1 h2
          subst h1 h2 c2
          have hne : r ≠ [] := by rintro rfl; simp at hh
          have hl : r.dropLast ++ [59] = r := by
            have := List.dropLast_concat_getLast hne
            rw [List.getLast?_eq_some_getLast hne] at hh
            obtain ⟨h1, _⟩ := hh
            injection h1 with h1
            rwa [h1] at this
          refine ⟨by omega, by omega, .inl ⟨?_, hh.2, ?_⟩⟩
          · intro e; have := hh.2; rw [e] at this; cases this
          · simp [hl]
        · cases h
      · rw [if_neg c2] at h
        split at h
        · rename_i hh
          injection h with h
          injection h with h1 h2
          subst h1 h2
          obtain ⟨rfl, hc⟩ := hh
          refine ⟨by omega, by omega, .inr ⟨rfl, ?_⟩⟩
          rcases hc with rfl | rfl | rfl <;> simp
        · cases h
def kOk (l : List UInt8) : Bool := (kindR l).isSome
def kDeep (l : List UInt8) : Int := match kindR l with | some x => (x.2 : Int) | none => -1
def kRefs (l : List UInt8) : List (List UInt8) := match kindR l with | some x => if x.1 = [] then [] else [x.1] | none => []
theorem kind_cases (l : List UInt8) : kindR l = none ∨ ∃ n d, kindR l = some (n, d) ∧ l.length ≤ 12 ∧ d < l.length ∧ (∀ k, k < d → at_ l k = 91 ∨ at_ l k = 63) ∧
  ((n ≠ [] ∧ isName n = true ∧ l.drop d = 64 :: (n ++ [59]) ∧ at_ l d = 64) ∨ (n = [] ∧ (l.drop d = [110] ∧ at_ l d = 110 ∨ l.drop d = [116] ∧ at_ l d = 116 ∨ l.drop d = [102] ∧ at_ l d = 102))) := by
 cases h : kindR l with
 | none => exact .inl rfl
 | some x =>
  obtain ⟨n, d⟩ := x
  right
  refine ⟨n, d, rfl, ?_⟩
  unfold kindR at h
  split at h
  ·rename_i hl
   obtain ⟨h1, h2, h3⟩ := kindF_core l n d h
   have hat : ∀ x y, l.drop d = x :: y → at_ l d = (x.toNat : Int) := by
    intro x y e
    have e2 : at_ (l.drop d) 0 = at_ l d := by unfold at_; simp [List.getD_eq_getElem?_getD]
    rw [← e2, e]; rfl
   have hlt : ∀ x y, l.drop d = x :: y → d < l.length := by
    intro x y e
    have := congrArg List.length e
    simp at this; omega
   rcases h3 with ⟨a, b, c⟩ | ⟨a, b | b | b⟩
   ·exact ⟨hl, hlt _ _ c, h2, .inl ⟨a, b, c, hat _ _ c⟩⟩
   ·exact ⟨hl, hlt _ _ b, h2, .inr ⟨a, .inl ⟨b, hat _ _ b⟩⟩⟩
   ·exact ⟨hl, hlt _ _ b, h2, .inr ⟨a, .inr (.inl ⟨b, hat _ _ b⟩)⟩⟩
   ·exact ⟨hl, hlt _ _ b, h2, .inr ⟨a, .inr (.inr ⟨b, hat _ _ b⟩)⟩⟩
  ·cases h
theorem name_of_drop {l n : List UInt8} {d : Nat} (h : l.drop d = 64 :: (n ++ [59])) : ((l.drop d).drop 1).take ((l.drop d).length - 1 - 1) = n := by
 rw [h]; simp
def rN (l : List UInt8) : List UInt8 := match kindR l with | some x => x.1 | none => []
def rD (l : List UInt8) : Int := match kindR l with | some x => (x.2 : Int) | none => 0
theorem rN_no {l : List UInt8} (h : kindR l = none) : rN l = [] ∧ rD l = 0 ∧ kOk l = false := by simp [rN, rD, kOk, h]
theorem rN_yes {l n : List UInt8} {d : Nat} (h : kindR l = some (n, d)) : rN l = n ∧ rD l = d ∧ kOk l = true := by simp [rN, rD, kOk, h]
theorem kindR_drop {l n : List UInt8} {d : Nat} (h : kindR l = some (n, d + 1)) : kindR (l.drop 1) = some (n, d) := by
 cases l with
 | nil => cases h
 | cons c r =>
  have hl : r.length + 1 ≤ 12 := by
   rcases Nat.lt_or_ge 12 (r.length + 1) with h1 | h1
   ·rw [kindR_long (c :: r) (by simpa using h1)] at h; cases h
   ·exact h1
  by_cases c1 : c = 91 ∨ c = 63
  ·rw [kindR_sign c r hl c1] at h
   cases hk : kindR r with
   | none => rw [hk] at h; cases h
   | some x => rw [hk] at h; obtain ⟨a, b⟩ := x; simp at h; simp [hk, h.1, h.2]
  ·by_cases c2 : c = 64
   ·subst c2; rw [kindR_at r hl] at h; split at h <;> cases h
   ·rw [kindR_else c r hl (fun h => c1 (.inl h)) (fun h => c1 (.inr h)) c2] at h; split at h <;> cases h
theorem refs_len (l : List UInt8) : (kRefs l).length ≤ 1 := by
 unfold kRefs; split
 ·split <;> simp
 ·simp
abbrev Bs := List UInt8
def pre (p : Bs) : List Bs → List Bs
 | [] => [p]
 | h :: t => (p ++ h) :: t
def cutL (c : Int) : Bs → List Bs
 | [] => [[]]
 | x :: r => if (x.toNat : Int) = c then [] :: cutL c r else pre [x] (cutL c r)
theorem pre_nil (l : List Bs) (h : l ≠ []) : pre [] l = l := by cases l with | nil => exact absurd rfl h | cons _ _ => rfl
theorem pre_pre (p q : Bs) (l : List Bs) (h : l ≠ []) : pre p (pre q l) = pre (p ++ q) l := by cases l with | nil => exact absurd rfl h | cons _ _ => simp [pre]
theorem cutL_ne (c : Int) (l : Bs) : cutL c l ≠ [] := by
 induction l with
 | nil => simp [cutL]
 | cons x r ih =>
  rw [cutL]
  split
  ·simp
  ·cases h : cutL c r with
   | nil => exact absurd h ih
   | cons a b => simp [pre]
theorem cutL_yes (c : Int) (l : Bs) (k : Nat) (h : k < l.length) (hc : at_ l k = c) : cutL c (l.drop k) = [] :: cutL c (l.drop (k + 1)) := by
 rw [List.drop_eq_getElem_cons h, cutL, if_pos]
 rw [← hc]; unfold at_; rw [List.getD_eq_getElem?_getD, List.getElem?_eq_getElem h]; rfl
theorem cutL_no (c : Int) (l : Bs) (k : Nat) (h : k < l.length) (hc : at_ l k ≠ c) : cutL c (l.drop k) = pre [l[k]] (cutL c (l.drop (k + 1))) := by
 rw [List.drop_eq_getElem_cons h, cutL, if_neg]
 intro e; apply hc; rw [← e]; unfold at_; rw [List.getD_eq_getElem?_getD, List.getElem?_eq_getElem h]; rfl
theorem piece_snoc (l : Bs) (f k : Nat) (h : k < l.length) (hf : f ≤ k) : (l.drop f).take (k + 1 - f) = (l.drop f).take (k - f) ++ [l[k]] := by
 rw [show k + 1 - f = (k - f) + 1 from by omega, List.take_succ_eq_append_getElem (by simp; omega)]
 simp [show f + (k - f) = k from by omega]
def decN (n : Nat) : Bs := if n < 10 then [B8 (48 + n)] else decN (n / 10) ++ [B8 (48 + (n % 10 : Nat))]
def dec (n : Int) : Bs := decN n.toNat
theorem dec_lo (n : Int) (h0 : 0 ≤ n) (h1 : n < 10) : dec n = [B8 (48 + n)] := by
 unfold dec; rw [decN, if_pos (by omega)]; congr 2; omega
theorem dec_hi (n : Int) (h : 10 ≤ n) : dec n = dec (n / 10) ++ [B8 (48 + n % 10)] := by
 unfold dec; rw [decN, if_neg (by omega)]; congr 1
 ·congr 1; omega
 ·congr 2; omega
theorem decN_len (n : Nat) : (decN n).length ≤ n + 1 := by
 induction n using Nat.strongRecOn with
 | _ n ih =>
  rw [decN]; split
  ·simp
  ·have := ih (n / 10) (by omega); simp; omega
theorem dec_len (n : Int) : (dec n).length ≤ n.toNat + 1 := decN_len _
def isDig (a : Int) : Bool := decide (48 ≤ a) && decide (a ≤ 57)
def valN (l : Bs) : Nat → Int
 | 0 => 0
 | k + 1 => 10 * valN l k + (at_ l k - 48)
def digsTo (l : Bs) (k : Nat) : Prop := ∀ j, j < k → 48 ≤ at_ l j ∧ at_ l j ≤ 57
theorem valN_bd (l : Bs) (k : Nat) (h : digsTo l k) (hk : k ≤ 6) : 0 ≤ valN l k ∧ valN l k < 10 ^ k := by
 induction k with
 | zero => simp [valN]
 | succ k ih =>
  have := ih (fun j hj => h j (by omega)) (by omega)
  have h2 := h k (by omega)
  rw [valN, Int.pow_succ]; omega
def numL (l : Bs) (top : Int) : Option Int :=
 if l.length ≤ 6 ∧ (∀ j, j < l.length → 48 ≤ at_ l j ∧ at_ l j ≤ 57) ∧ l = dec (valN l l.length) ∧ valN l l.length ≤ top then some (valN l l.length) else none
def plainC (a : Int) : Bool := a == 32 || (decide (48 ≤ a) && decide (a ≤ 57)) || (decide (97 ≤ a) && decide (a ≤ 122))
def textFrom (l : Bs) : Nat → Nat → Bool
 | 0, _ => true
 | f + 1, k => plainC (at_ l k) && textFrom l f (k + 1)
def textL (l : Bs) : Bool := decide (2 ≤ l.length) && decide (l.length ≤ 14) && (at_ l 0 == 39) && (at_ l (l.length - 1) == 39) && textFrom l (l.length - 2) 1
def standB (k s : Bs) : Bool :=
 if k = [110] then (numL s 999999).isSome && (s != [48]) else if k = [116] then textL s && (s != [39, 39]) else if k = [102] then s == [121, 101, 115] else false
def plainV (k : Bs) : Bs := if k = [110] then [48] else if k = [116] then [39, 39] else if k = [102] then [110, 111] else []
structure Fl where
 tag : Int
 name : Bs
 kind : Bs
 stand : Bs
structure Ty where
 sort : Int
 name : Bs
 fields : List Fl
def fieldOf (p b : List Bs) (c : Int) : Option Fl :=
 if p.length = (if c = 69 then 2 else 3) then
  match numL (p.getD 0 []) 200 with
  | none => none
  | some tag =>
   if 1 ≤ tag ∧ isName (p.getD 1 []) = true then
    if c = 69 then some ⟨tag, p.getD 1 [], [], []⟩
    else if b.length = 2 then (if c = 82 ∧ standB (b.getD 0 []) (b.getD 1 []) = true then some ⟨tag, p.getD 1 [], b.getD 0 [], b.getD 1 []⟩ else none)
    else if b.length = 1 ∧ kOk (b.getD 0 []) = true then some ⟨tag, p.getD 1 [], b.getD 0 [], []⟩ else none
   else none
 else none
def readField (s : Bs) (c : Int) : Option Fl := fieldOf (cutL 58 s) (cutL 61 ((cutL 58 s).getD 2 [])) c
theorem field_len {p b : List Bs} {c : Int} (h : p.length ≠ if c = 69 then 2 else 3) : fieldOf p b c = none := by unfold fieldOf; rw [if_neg h]
theorem field_num {p b : List Bs} {c : Int} (h : numL (p.getD 0 []) 200 = none) : fieldOf p b c = none := by
 unfold fieldOf; rw [h]; simp only [ite_self]
theorem field_bad {p b : List Bs} {c tag : Int} (h : numL (p.getD 0 []) 200 = some tag) (h2 : ¬ (1 ≤ tag ∧ isName (p.getD 1 []) = true)) : fieldOf p b c = none := by
 unfold fieldOf; rw [h]; simp only [if_neg h2, ite_self]
theorem field_E {p b : List Bs} {tag : Int} (h0 : p.length = 2) (h : numL (p.getD 0 []) 200 = some tag) (h2 : 1 ≤ tag ∧ isName (p.getD 1 []) = true) : fieldOf p b 69 = some ⟨tag, p.getD 1 [], [], []⟩ := by
 unfold fieldOf; rw [if_pos (by simpa using h0), h]; simp only; rw [if_pos h2, if_pos trivial]
theorem field_on {p b : List Bs} {c tag : Int} (hc : c ≠ 69) (h0 : p.length = 3) (h : numL (p.getD 0 []) 200 = some tag) (h2 : 1 ≤ tag ∧ isName (p.getD 1 []) = true) :
  fieldOf p b c = if b.length = 2 then (if c = 82 ∧ standB (b.getD 0 []) (b.getD 1 []) = true then some ⟨tag, p.getD 1 [], b.getD 0 [], b.getD 1 []⟩ else none)
    else if b.length = 1 ∧ kOk (b.getD 0 []) = true then some ⟨tag, p.getD 1 [], b.getD 0 [], []⟩ else none := by
 unfold fieldOf; rw [if_pos (by rw [if_neg hc]; exact h0), h]; simp only; rw [if_pos h2, if_neg hc]
theorem cutL_len (c : Int) (l : Bs) : ∀ x ∈ cutL c l, x.length ≤ l.length := by
 induction l with
 | nil => intro x hx; simp [cutL] at hx; subst hx; simp
 | cons a r ih =>
  intro x hx
  rw [cutL] at hx
  split at hx
  ·simp at hx; rcases hx with rfl | hx
   ·simp
   ·have := ih x hx; simp; omega
  ·cases hc : cutL c r with
   | nil => exact absurd hc (cutL_ne c r)
   | cons h t =>
    rw [hc] at hx
    simp [pre] at hx
    rcases hx with rfl | hx
    ·have := ih h (by rw [hc]; simp); simp; omega
    ·have := ih x (by rw [hc]; simp [hx]); simp; omega
theorem cutL_get (c : Int) (l : Bs) (k : Nat) : ((cutL c l).getD k []).length ≤ l.length := by
 rw [List.getD_eq_getElem?_getD]
 cases h : (cutL c l)[k]? with
 | none => simp
 | some x => exact cutL_len c l x (List.mem_of_getElem? h)
instance : Inhabited Fl := ⟨⟨0, [], [], []⟩⟩
instance : Inhabited Ty := ⟨⟨0, [], []⟩⟩
def eqAt : Bs → Nat
 | [] => 0
 | x :: r => if (x.toNat : Int) = 61 then 0 else eqAt r + 1
theorem at_cons0 (c : UInt8) (l : Bs) : at_ (c :: l) 0 = (c.toNat : Int) := rfl
theorem at_cons1 (c : UInt8) (l : Bs) (k : Nat) : at_ (c :: l) (k + 1) = at_ l k := by unfold at_; simp
theorem eqAt_yes (l : Bs) (k : Nat) (h : k ≤ eqAt l) (hk : k < l.length) (hc : at_ l k = 61) : eqAt l = k := by
 induction l generalizing k with
 | nil => simp at hk
 | cons x r ih =>
  rw [eqAt] at h ⊢
  cases k with
  | zero => rw [at_cons0] at hc; rw [if_pos hc]
  | succ k =>
   split at h
   ·omega
   ·rename_i hx; rw [if_neg hx]; rw [at_cons1] at hc; rw [ih k (by omega) (by simpa using hk) hc]
theorem eqAt_no (l : Bs) (k : Nat) (h : k ≤ eqAt l) (hk : k < l.length) (hc : at_ l k ≠ 61) : k + 1 ≤ eqAt l := by
 induction l generalizing k with
 | nil => simp at hk
 | cons x r ih =>
  rw [eqAt] at h ⊢
  cases k with
  | zero => rw [at_cons0] at hc; rw [if_neg hc]; omega
  | succ k =>
   split at h
   ·omega
   ·rename_i hx; rw [if_neg hx]; rw [at_cons1] at hc; have := ih k (by omega) (by simpa using hk) hc; omega
def clash1 (f g : Fl) : Bool := decide (f.tag ≤ g.tag) || g.name == f.name
def clash (fs : List Fl) (f : Fl) : Bool := fs.any (clash1 f)
theorem clash_in (fs : List Fl) (f : Fl) (k : Nat) (h : k < fs.length) : clash (fs.drop k) f = (clash1 f fs[k] || clash (fs.drop (k + 1)) f) := by
 unfold clash; rw [List.drop_eq_getElem_cons h, List.any_cons]
theorem clash_end (fs : List Fl) (f : Fl) (k : Nat) (h : fs.length ≤ k) : clash (fs.drop k) f = false := by
 unfold clash; rw [List.drop_of_length_le h]; rfl
def readFields (c : Int) : List Bs → List Fl → Option (List Fl)
 | [], fs => some fs
 | s :: r, fs => match readField s c with
  | none => none
  | some f => if clash fs f then none else readFields c r (fs ++ [f])
theorem readFields_no {c : Int} {L : List Bs} {k : Nat} {fs : List Fl} (h : k < L.length) (hf : readField L[k] c = none) : readFields c (L.drop k) fs = none := by
 rw [List.drop_eq_getElem_cons h, readFields, hf]
theorem readFields_clash {c : Int} {L : List Bs} {k : Nat} {fs : List Fl} {f : Fl} (h : k < L.length) (hf : readField L[k] c = some f) (hc : clash fs f = true) : readFields c (L.drop k) fs = none := by
 rw [List.drop_eq_getElem_cons h, readFields, hf]; simp only; rw [if_pos hc]
theorem readFields_in {c : Int} {L : List Bs} {k : Nat} {fs : List Fl} {f : Fl} (h : k < L.length) (hf : readField L[k] c = some f) (hc : clash fs f = false) : readFields c (L.drop k) fs = readFields c (L.drop (k + 1)) (fs ++ [f]) := by
 rw [List.drop_eq_getElem_cons h, readFields, hf]; simp only; rw [if_neg (by rw [hc]; decide)]
theorem readFields_end {c : Int} {L : List Bs} {k : Nat} {fs : List Fl} (h : L.length ≤ k) : readFields c (L.drop k) fs = some fs := by
 rw [List.drop_of_length_le h, readFields]
def isSort (c : Int) : Bool := c == 82 || c == 85 || c == 69
def tyOf (c : Int) (n : Bs) : Option (List Fl) → Option Ty
 | none => none
 | some fs => if fs.length ≤ 8 then some ⟨c, n, fs⟩ else none
def readType (s : Bs) : Option Ty :=
 if 1 ≤ eqAt s ∧ eqAt s < s.length then
  if isName ((s.drop 1).take (eqAt s - 1)) = true ∧ isSort (at_ s 0) = true then
   if s.drop (eqAt s + 1) = [] then (if at_ s 0 = 82 then some ⟨82, (s.drop 1).take (eqAt s - 1), []⟩ else none)
   else tyOf (at_ s 0) ((s.drop 1).take (eqAt s - 1)) (readFields (at_ s 0) (cutL 44 (s.drop (eqAt s + 1))) [])
  else none
 else none
def find (X : List Ty) (n : Bs) : Option Ty := X.find? fun t => t.name == n
theorem find_yes (X : List Ty) (n : Bs) (k : Nat) (h : k < X.length) (hn : (X[k].name == n) = true) : find (X.drop k) n = some X[k] := by
 unfold find; rw [List.drop_eq_getElem_cons h, List.find?_cons, hn]
theorem find_no (X : List Ty) (n : Bs) (k : Nat) (h : k < X.length) (hn : (X[k].name == n) = false) : find (X.drop k) n = find (X.drop (k + 1)) n := by
 unfold find; rw [List.drop_eq_getElem_cons h, List.find?_cons, hn]
theorem find_end (X : List Ty) (n : Bs) (k : Nat) (h : X.length ≤ k) : find (X.drop k) n = none := by
 unfold find; rw [List.drop_of_length_le h]; rfl
theorem find_mem {X : List Ty} {n : Bs} {t : Ty} (h : find X n = some t) : t ∈ X ∧ t.name = n := by
 unfold find at h
 exact ⟨List.mem_of_find?_eq_some h, by simpa using List.find?_some h⟩
def coreName (k : Bs) : Option Bs := match kindR k with
 | some x => if x.1 = [] then none else some x.1
 | none => none
def refT (X : List Ty) (k : Bs) : Option Ty := match kindR k with
 | some x => if x.1 = [] ∨ x.2 ≠ 0 then none else find X x.1
 | none => none
def endsF (X : List Ty) : Nat → Ty → Bool
 | 0, _ => false
 | n + 1, t => if t.sort = 85 then (match refT X (t.fields.getD 0 default).kind with | none => true | some u => endsF X n u) else true
def endsB (X : List Ty) (t : Ty) : Bool := endsF X (X.length + 1) t
def fieldOk (X : List Ty) (f : Fl) : Bool := match coreName f.kind with
 | none => true
 | some n => (find X n).isSome
def typeOk (X : List Ty) (p : List Ty) (t : Ty) : Bool := !(p.any fun u => u.name == t.name) && (t.sort == 69 || t.fields.all (fieldOk X))
def validFrom (X : List Ty) : List Ty → List Ty → Bool
 | _, [] => true
 | p, t :: r => typeOk X p t && validFrom X (p ++ [t]) r
def validB (X : List Ty) : Bool := validFrom X [] X && X.all (endsB X)
def readTypes : List Bs → List Ty → Option (List Ty)
 | [], X => some X
 | s :: r, X => match readType s with
  | none => none
  | some t => readTypes r (X ++ [t])
def lastL (L : List Bs) : Bs := L.getD (L.length - 1) []
def ofS (s : Bs) : Option (List Ty) :=
  if s.length ≤ 400 ∧ (cutL 10 s).length ≤ 9 ∧ lastL (cutL 10 s) = [] then
    (match readTypes ((cutL 10 s).take ((cutL 10 s).length - 1)) [] with
     | none => none
     | some X => if validB X = true then some X else none)
  else none
def GoodF (c : Int) (f : Fl) : Prop := 1 ≤ f.tag ∧ f.tag ≤ 200 ∧ isName f.name = true ∧ f.stand.length ≤ 14 ∧ f.kind.length ≤ 12 ∧ (c ≠ 69 → kOk f.kind = true) ∧ (c = 69 → f.kind = [] ∧ f.stand = [])
def GoodT (t : Ty) : Prop := isSort t.sort = true ∧ isName t.name = true ∧ t.fields.length ≤ 8 ∧ (t.sort ≠ 82 → t.fields ≠ []) ∧ ∀ f ∈ t.fields, GoodF t.sort f
theorem kOk_len {k : Bs} (h : kOk k = true) : k.length ≤ 12 ∧ 0 < k.length := by
 rcases kind_cases k with hk | ⟨n, d, hk, hl, hd, -⟩
 ·simp [kOk, hk] at h
 ·exact ⟨hl, by omega⟩
theorem numL_bd {l : Bs} {top n : Int} (h : numL l top = some n) : n ≤ top ∧ l.length ≤ 6 := by
 unfold numL at h; split at h
 ·rename_i h'; injection h with h; subst h; exact ⟨h'.2.2.2, h'.1⟩
 ·cases h
theorem standB_len {k s : Bs} (h : standB k s = true) : s.length ≤ 14 ∧ k.length ≤ 12 ∧ kOk k = true := by
 unfold standB at h
 split at h
 ·rename_i e; subst e
  simp at h
  obtain ⟨n, hn⟩ := Option.isSome_iff_exists.1 h.1
  exact ⟨by have := (numL_bd hn).2; omega, by simp, rfl⟩
 ·split at h
  ·rename_i e; subst e
   simp at h
   unfold textL at h; simp at h
   exact ⟨by omega, by simp, rfl⟩
  ·split at h
   ·rename_i e; subst e; simp at h; subst h; exact ⟨by simp, by simp, rfl⟩
   ·cases h
theorem readField_good {s : Bs} {c : Int} {f : Fl} (h : readField s c = some f) : GoodF c f := by
 unfold readField fieldOf at h
 generalize cutL 61 ((cutL 58 s).getD 2 []) = b at h
 generalize cutL 58 s = p at h
 by_cases hL : p.length = if c = 69 then 2 else 3
 ·rw [if_pos hL] at h
  cases hn : numL (p.getD 0 []) 200 with
  | none => rw [hn] at h; cases h
  | some tag =>
   rw [hn] at h
   simp only at h
   have ht := (numL_bd hn).1
   by_cases h1 : 1 ≤ tag ∧ isName (p.getD 1 []) = true
   ·rw [if_pos h1] at h
    by_cases hc : c = 69
    ·rw [if_pos hc] at h
     injection h with h; subst h
     exact ⟨h1.1, ht, h1.2, by simp, by simp, fun h => absurd hc h, fun _ => ⟨rfl, rfl⟩⟩
    ·rw [if_neg hc] at h
     by_cases h2 : b.length = 2
     ·rw [if_pos h2] at h
      by_cases h3 : c = 82 ∧ standB (b.getD 0 []) (b.getD 1 []) = true
      ·rw [if_pos h3] at h
       injection h with h; subst h
       obtain ⟨a, b, d⟩ := standB_len h3.2
       exact ⟨h1.1, ht, h1.2, a, b, fun _ => d, fun h => absurd h hc⟩
      ·rw [if_neg h3] at h; cases h
     ·rw [if_neg h2] at h
      by_cases h3 : b.length = 1 ∧ kOk (b.getD 0 []) = true
      ·rw [if_pos h3] at h
       injection h with h; subst h
       exact ⟨h1.1, ht, h1.2, by simp, (kOk_len h3.2).1, fun _ => h3.2, fun h => absurd h hc⟩
      ·rw [if_neg h3] at h; cases h
   ·rw [if_neg h1] at h; cases h
 ·rw [if_neg hL] at h; cases h
theorem readFields_good {c : Int} {L : List Bs} {fs x : List Fl} (hf : ∀ f ∈ fs, GoodF c f) (h : readFields c L fs = some x) : (∀ f ∈ x, GoodF c f) ∧ (L ≠ [] ∨ fs ≠ [] → x ≠ []) := by
 induction L generalizing fs with
 | nil => injection h with h; subst h; exact ⟨hf, fun h => h.elim (fun h => absurd rfl h) id⟩
 | cons s r ih =>
  rw [readFields] at h
  split at h
  ·cases h
  ·rename_i f hr
   split at h
   ·cases h
   ·obtain ⟨h1, h2⟩ := ih (fs := fs ++ [f]) (by
     intro g hg
     rcases List.mem_append.1 hg with hg | hg
     ·exact hf g hg
     ·simp at hg; subst hg; exact readField_good hr) h
    exact ⟨h1, fun _ => h2 (.inr (by simp))⟩
theorem readType_good {s : Bs} {t : Ty} (h : readType s = some t) : GoodT t := by
 unfold readType at h
 split at h
 ·split at h
  ·rename_i h1
   split at h
   ·split at h
    ·injection h with h; subst h; exact ⟨rfl, h1.1, by simp, fun h => absurd rfl h, by simp⟩
    ·cases h
   ·cases hr : readFields (at_ s 0) (cutL 44 (s.drop (eqAt s + 1))) [] with
    | none => rw [hr] at h; cases h
    | some x =>
     rw [hr] at h
     simp only [tyOf] at h
     split at h
     ·injection h with h; subst h
      obtain ⟨a, b⟩ := readFields_good (by simp) hr
      exact ⟨h1.2, h1.1, by assumption, fun _ => b (.inl (cutL_ne _ _)), a⟩
     ·cases h
  ·cases h
 ·cases h
theorem readTypes_good {L : List Bs} {P X : List Ty} (hp : ∀ t ∈ P, GoodT t) (h : readTypes L P = some X) : ∀ t ∈ X, GoodT t := by
 induction L generalizing P with
 | nil => injection h with h; subst h; exact hp
 | cons s r ih =>
  rw [readTypes] at h
  split at h
  ·cases h
  ·rename_i t ht
   exact ih (P := P ++ [t]) (by
    intro g hg
    rcases List.mem_append.1 hg with hg | hg
    ·exact hp g hg
    ·simp at hg; subst hg; exact readType_good ht) h
theorem cutL_cnt (c : Int) (l : Bs) : (cutL c l).length ≤ l.length + 1 := by
 induction l with
 | nil => simp [cutL]
 | cons x r ih =>
  rw [cutL]
  split
  ·simp; omega
  ·cases hc : cutL c r with
   | nil => simp [pre]
   | cons a b => rw [hc] at ih; simp [pre] at ih ⊢; omega
theorem endsF_more (X : List Ty) (n : Nat) (t u : Ty) (h : t.sort = 85) (hr : refT X (t.fields.getD 0 default).kind = some u) : endsF X (n + 1) t = endsF X n u := by
 rw [endsF, if_pos h, hr]
theorem endsF_none (X : List Ty) (n : Nat) (t : Ty) (h : t.sort = 85) (hr : refT X (t.fields.getD 0 default).kind = none) : endsF X (n + 1) t = true := by
 rw [endsF, if_pos h, hr]
theorem endsF_other (X : List Ty) (n : Nat) (t : Ty) (h : t.sort ≠ 85) : endsF X (n + 1) t = true := by
 rw [endsF, if_neg h]
theorem refT_mem0 {X : List Ty} {k : Bs} {t : Ty} (h : refT X k = some t) : t ∈ X := by
 unfold refT at h
 split at h
 ·split at h
  ·cases h
  ·exact (find_mem h).1
 ·cases h
def cutA (c : Int) : Bs → Bs
 | [] => []
 | x :: r => if (x.toNat : Int) = c then [] else x :: cutA c r
def cutB (c : Int) : Bs → Bs
 | [] => []
 | x :: r => if (x.toNat : Int) = c then r else cutB c r
def cutHas (c : Int) : Bs → Bool
 | [] => false
 | x :: r => if (x.toNat : Int) = c then true else cutHas c r
theorem cutL_has (c : Int) (l : Bs) (h : cutHas c l = true) : cutL c l = cutA c l :: cutL c (cutB c l) := by
 induction l with
 | nil => cases h
 | cons x r ih =>
  rw [cutHas] at h
  rw [cutL, cutA, cutB]
  split
  ·rfl
  ·rename_i hx
   rw [if_neg hx] at h
   rw [ih h]; rfl
theorem cut_hasnt (c : Int) (l : Bs) (h : cutHas c l = false) : cutL c l = [l] ∧ cutA c l = l ∧ cutB c l = [] := by
 induction l with
 | nil => exact ⟨rfl, rfl, rfl⟩
 | cons x r ih =>
  rw [cutHas] at h
  rw [cutL, cutA, cutB]
  split
  ·rename_i hx; rw [if_pos hx] at h; cases h
  ·rename_i hx
   rw [if_neg hx] at h
   obtain ⟨h1, h2, h3⟩ := ih h
   rw [h1, h2, h3]; exact ⟨rfl, rfl, rfl⟩
theorem cutB_len (c : Int) (l : Bs) : (cutB c l).length ≤ l.length := by
 induction l with
 | nil => simp [cutB]
 | cons x r ih => rw [cutB]; split <;> simp; omega
theorem cutB_lt (c : Int) (l : Bs) (h : cutHas c l = true) : (cutB c l).length < l.length := by
 induction l with
 | nil => cases h
 | cons x r ih =>
  rw [cutHas] at h
  rw [cutB]; split
  ·simp
  ·rename_i hx; rw [if_neg hx] at h; have := ih h; simp; omega
theorem cutA_len (c : Int) (l : Bs) : (cutA c l).length ≤ l.length := by
 induction l with
 | nil => simp [cutA]
 | cons x r ih => rw [cutA]; split <;> simp; omega
theorem cut_whole (c : Int) (l : Bs) (h : cutHas c l = true) : ∃ x : UInt8, (x.toNat : Int) = c ∧ l = cutA c l ++ x :: cutB c l := by
 induction l with
 | nil => cases h
 | cons x r ih =>
  rw [cutHas] at h
  rw [cutA, cutB]
  split
  ·rename_i hx; exact ⟨x, hx, rfl⟩
  ·rename_i hx
   rw [if_neg hx] at h
   obtain ⟨y, hy, e⟩ := ih h
   exact ⟨y, hy, by rw [List.cons_append, ← e]⟩
theorem has_iff (c : Int) (l : Bs) : cutHas c l = true ↔ ∃ x ∈ l, (x.toNat : Int) = c := by
 induction l with
 | nil => simp [cutHas]
 | cons x r ih =>
  rw [cutHas]; split
  ·rename_i hx; simp [hx]
  ·rename_i hx; rw [ih]; simp [hx]
theorem has_append (c : Int) (a b : Bs) : cutHas c (a ++ b) = (cutHas c a || cutHas c b) := by
 rw [Bool.eq_iff_iff, Bool.or_eq_true]; simp only [has_iff, List.mem_append]
 constructor
 ·rintro ⟨x, h | h, e⟩
  ·exact .inl ⟨x, h, e⟩
  ·exact .inr ⟨x, h, e⟩
 ·rintro (⟨x, h, e⟩ | ⟨x, h, e⟩)
  ·exact ⟨x, .inl h, e⟩
  ·exact ⟨x, .inr h, e⟩
theorem has_at (c : Int) (l : Bs) (h : ∀ k, k < l.length → at_ l k ≠ c) : cutHas c l = false := by
 cases hb : cutHas c l with
 | false => rfl
 | true =>
  obtain ⟨x, hx, e⟩ := (has_iff c l).1 hb
  obtain ⟨k, hk, rfl⟩ := List.getElem_of_mem hx
  exact absurd (by unfold at_; rw [List.getD_eq_getElem?_getD, List.getElem?_eq_getElem hk]; exact e) (h k hk)
theorem at_get (l : Bs) (k : Nat) (h : k < l.length) : at_ l k = (l[k].toNat : Int) := by unfold at_; rw [List.getD_eq_getElem?_getD, List.getElem?_eq_getElem h]; rfl
theorem valN_pos (l : Bs) (k : Nat) (h0 : 49 ≤ at_ l 0) (h : digsTo l (k + 1)) : (10 : Int) ^ k ≤ valN l (k + 1) := by
 induction k with
 | zero => simp [valN]; omega
 | succ k ih =>
  have := ih (fun j hj => h j (by omega))
  have h2 := h (k + 1) (by omega)
  rw [valN, Int.pow_succ]; omega
theorem valN_nonneg (l : Bs) (k : Nat) (h : digsTo l k) : 0 ≤ valN l k := by
 induction k with
 | zero => simp [valN]
 | succ k ih =>
  have := ih (fun j hj => h j (by omega))
  have h2 := h k (by omega)
  rw [valN]; omega
theorem B8_at (l : Bs) (k : Nat) (h : k < l.length) : B8 (at_ l k) = l[k] := by rw [at_get l k h, B8_of]
theorem dec_val (l : Bs) (k : Nat) (hk : k < l.length) (h : digsTo l (k + 1)) (h0 : 49 ≤ at_ l 0 ∨ k = 0) : dec (valN l (k + 1)) = l.take (k + 1) := by
 induction k with
 | zero =>
  have := h 0 (by omega)
  rw [dec_lo _ (by simp [valN]; omega) (by simp [valN]; omega)]
  simp only [valN]
  rw [show 48 + (10 * 0 + (at_ l 0 - 48)) = at_ l 0 by omega, B8_at l 0 hk, List.take_succ_eq_append_getElem hk]; rfl
 | succ k ih =>
  have h1 : 49 ≤ at_ l 0 := by rcases h0 with h0 | h0 <;> omega
  have hp := valN_pos l k h1 (fun j hj => h j (by omega))
  have hp1 : (1 : Int) ≤ 10 ^ k := Int.pow_pos (by omega)
  have h2 := h (k + 1) (by omega)
  have i := ih (by omega) (fun j hj => h j (by omega)) (.inl h1)
  rw [valN, dec_hi _ (by omega), show (10 * valN l (k + 1) + (at_ l (k + 1) - 48)) / 10 = valN l (k + 1) by omega, i,
   show 48 + (10 * valN l (k + 1) + (at_ l (k + 1) - 48)) % 10 = at_ l (k + 1) by omega, B8_at l (k + 1) hk, ← List.take_succ_eq_append_getElem hk]
theorem decN_head (n : Nat) : (n = 0 ∧ decN n = [48]) ∨ (1 ≤ n ∧ 49 ≤ at_ (decN n) 0 ∧ decN n ≠ []) := by
 induction n using Nat.strongRecOn with
 | _ n ih =>
  rw [decN]; split
  ·rename_i h
   by_cases h0 : n = 0
   ·subst h0; exact .inl ⟨rfl, rfl⟩
   ·right
    refine ⟨by omega, ?_, by simp⟩
    show 49 ≤ ((B8 (48 + (n : Int))).toNat : Int)
    rw [B8_nat _ (by omega) (by omega)]; omega
  ·rename_i h
   right
   rcases ih (n / 10) (by omega) with ⟨h1, -⟩ | ⟨-, h1, h2⟩
   ·omega
   ·refine ⟨by omega, ?_, by simp⟩
    have : at_ (decN (n / 10) ++ [B8 (48 + (n % 10 : Nat))]) 0 = at_ (decN (n / 10)) 0 := by
     unfold at_
     rw [List.getD_eq_getElem?_getD, List.getD_eq_getElem?_getD, List.getElem?_append_left (List.length_pos_iff.2 h2)]
    rw [this]; exact h1
instance (l : Bs) (k : Nat) : Decidable (digsTo l k) := by unfold digsTo; infer_instance
instance (l : Bs) : Decidable (at_ l 0 = 48 → l = [48]) := by infer_instance
def decP (l : Bs) (top : Int) : Option Int :=
 if l ≠ [] ∧ (at_ l 0 = 48 → l = [48]) ∧ digsTo l l.length ∧ valN l l.length ≤ top then some (valN l l.length) else none
theorem decP_numL (l : Bs) (top : Int) (ht : top ≤ 999999) : decP l top = numL l top := by
 unfold decP numL
 by_cases hd : digsTo l l.length
 ·by_cases hv : valN l l.length ≤ top
  ·by_cases hc : l ≠ [] ∧ (at_ l 0 = 48 → l = [48])
   ·rw [if_pos ⟨hc.1, hc.2, hd, hv⟩, if_pos]
    obtain ⟨k, hk⟩ : ∃ k, l.length = k + 1 := by
     cases l with
     | nil => exact absurd rfl hc.1
     | cons a b => exact ⟨b.length, rfl⟩
    have h0 := hd 0 (by omega)
    have hh : 49 ≤ at_ l 0 ∨ k = 0 := by
     by_cases e : at_ l 0 = 48
     ·right; have := congrArg List.length (hc.2 e); simp at this; omega
     ·left; omega
    refine ⟨?_, hd, ?_, hv⟩
    ·rcases hh with hh | hh
     ·have := valN_pos l k hh (by rw [← hk]; exact hd)
      rw [hk] at hv
      rcases Nat.lt_or_ge k 6 with h6 | h6
      ·omega
      ·have : (10 : Int) ^ 6 ≤ 10 ^ k := by exact_mod_cast Nat.pow_le_pow_right (by omega) h6
       omega
     ·omega
    ·have := dec_val l k (by omega) (by rw [← hk]; exact hd) hh
     rw [hk, this, ← hk, List.take_length]
   ·rw [if_neg (fun h => hc ⟨h.1, h.2.1⟩), if_neg]
    rintro ⟨h1, h2, h3, h4⟩
    apply hc
    have hn := valN_nonneg l l.length hd
    rcases decN_head (valN l l.length).toNat with ⟨-, h5⟩ | ⟨h5, h6, h7⟩
    ·have h8 : l = [48] := by rw [h3]; exact h5
     exact ⟨by rw [h8]; simp, fun _ => h8⟩
    ·have h8 : dec (valN l l.length) = decN (valN l l.length).toNat := rfl
     rw [← h8, ← h3] at h6 h7
     exact ⟨h7, fun e => by omega⟩
  ·rw [if_neg (fun h => hv h.2.2.2), if_neg (fun h => hv h.2.2.2)]
 ·rw [if_neg (fun h => hd h.2.2.1), if_neg (fun h => hd h.2.1)]
theorem numL_digs {l : Bs} {top n : Int} (h : numL l top = some n) : digsTo l l.length := by
 unfold numL at h; split at h
 ·rename_i h'; exact h'.2.1
 ·cases h
theorem numL_nil (top : Int) : numL [] top = none := by
 unfold numL; rw [if_neg]; rintro ⟨-, -, h, -⟩
 rw [show dec (valN [] (List.length ([] : Bs))) = [48] from dec_lo 0 (by omega) (by omega)] at h; cases h
theorem numL_no58 {l : Bs} {top n c : Int} (h : numL l top = some n) (hc : c < 48 ∨ 57 < c) : cutHas c l = false :=
 has_at c l fun k hk e => by have := numL_digs h k hk; omega
def txtC (l : Bs) : Bool := l.all fun x => plainC (x.toNat : Int)
def txtB (l : Bs) : Bool := decide (l.length ≤ 12) && txtC l
theorem textFrom_eq (l : Bs) (f k : Nat) (h : k + f ≤ l.length) : textFrom l f k = ((l.drop k).take f).all fun x => plainC (x.toNat : Int) := by
 induction f generalizing k with
 | zero => simp [textFrom]
 | succ f ih =>
  rw [textFrom, ih (k + 1) (by omega), at_get l k (by omega), List.drop_eq_getElem_cons (by omega : k < l.length), List.take_succ_cons, List.all_cons]
def quoteP (l : Bs) : Bool := (l.head? == some 39) && ((l.drop 1).getLast? == some 39) && txtB (l.drop 1).dropLast
theorem concat_cases (l : Bs) : l = [] ∨ ∃ m y, l = m ++ [y] := by
 by_cases h : l = []
 ·exact .inl h
 ·exact .inr ⟨l.dropLast, l.getLast h, (List.dropLast_concat_getLast h).symm⟩
theorem toNat_eq (x : UInt8) (n : Nat) (hn : n < 256) : (x = UInt8.ofNat n) ↔ ((x.toNat : Int) = n) := by
 constructor
 ·rintro rfl; simp [UInt8.toNat_ofNat']; omega
 ·intro h; apply UInt8.toNat_inj.1; rw [UInt8.toNat_ofNat']; omega
theorem quoteP_eq (l : Bs) : quoteP l = textL l := by
 cases l with
 | nil => rfl
 | cons x r =>
  rcases concat_cases r with rfl | ⟨m, y, rfl⟩
  ·unfold quoteP textL; simp
  ·have e1 : (x :: (m ++ [y])).length = m.length + 2 := by simp
   have e2 : at_ (x :: (m ++ [y])) (m.length + 2 - 1) = (y.toNat : Int) := by
    rw [at_get _ _ (by simp)]; simp [List.getElem_cons]
   have e3 : textFrom (x :: (m ++ [y])) (m.length + 2 - 2) 1 = txtC m := by
    rw [textFrom_eq _ _ _ (by simp; omega)]; unfold txtC; congr 1; simp
   unfold quoteP textL
   rw [e1, e2, e3, at_cons0]
   have q1 : ((x :: (m ++ [y])).head? == some 39) = ((x.toNat : Int) == 39) := by
    rw [Bool.eq_iff_iff]; simp only [List.head?_cons, beq_iff_eq, Option.some.injEq]; exact toNat_eq x 39 (by omega)
   have q2 : (((x :: (m ++ [y])).drop 1).getLast? == some 39) = ((y.toNat : Int) == 39) := by
    rw [Bool.eq_iff_iff]; simp only [List.drop_succ_cons, List.drop_zero, List.getLast?_append, List.getLast?_singleton, Option.some_or, beq_iff_eq, Option.some.injEq]; exact toNat_eq y 39 (by omega)
   have q3 : (((x :: (m ++ [y])).drop 1).dropLast) = m := by simp
   rw [q1, q2, q3]
   unfold txtB
   rw [decide_eq_true (by omega : 2 ≤ m.length + 2), show decide (m.length + 2 ≤ 14) = decide (m.length ≤ 12) from decide_eq_decide.2 (by omega)]
   cases decide (m.length ≤ 12) <;> cases ((x.toNat : Int) == 39) <;> cases ((y.toNat : Int) == 39) <;> simp
theorem textL_no {l : Bs} {c : Int} (h : textL l = true) (hc : plainC c = false) (h39 : c ≠ 39) : cutHas c l = false := by
 rw [← quoteP_eq] at h
 cases l with
 | nil => rfl
 | cons x r =>
  rcases concat_cases r with rfl | ⟨m, y, rfl⟩
  ·unfold quoteP at h; simp at h
  ·unfold quoteP txtB txtC at h
   simp at h
   obtain ⟨⟨rfl, rfl⟩, -, h3⟩ := h
   cases hb : cutHas c (39 :: (m ++ [39])) with
   | false => rfl
   | true =>
    obtain ⟨z, hz, e⟩ := (has_iff _ _).1 hb
    simp at hz
    rcases hz with rfl | hz | rfl
    ·exact absurd e.symm h39
    ·have := h3 z hz; rw [e] at this; rw [this] at hc; cases hc
    ·exact absurd e.symm h39
def plainP (k s : Bs) : Bool :=
 if k = [110] then (decP s 999999).isSome else if k = [116] then quoteP s else if k = [102] then (s == [121, 101, 115] || s == [110, 111]) else false
theorem plainP_stand (k s : Bs) : (plainP k s && !(s == plainV k)) = standB k s := by
 unfold plainP standB plainV
 by_cases h1 : k = [110]
 ·rw [if_pos h1, if_pos h1, if_pos h1, decP_numL s 999999 (by omega)]; rfl
 ·rw [if_neg h1, if_neg h1, if_neg h1]
  by_cases h2 : k = [116]
  ·rw [if_pos h2, if_pos h2, if_pos h2, quoteP_eq]; rfl
  ·rw [if_neg h2, if_neg h2, if_neg h2]
   by_cases h3 : k = [102]
   ·rw [if_pos h3, if_pos h3, if_pos h3]
    by_cases h4 : s = [121, 101, 115]
    ·subst h4; rfl
    ·by_cases h5 : s = [110, 111]
     ·subst h5; rfl
     ·have b4 : (s == [121, 101, 115]) = false := beq_eq_false_iff_ne.2 h4
      have b5 : (s == [110, 111]) = false := beq_eq_false_iff_ne.2 h5
      rw [b4, b5]; rfl
   ·rw [if_neg h3, if_neg h3, if_neg h3]; rfl
theorem standB_no {k s : Bs} {c : Int} (h : standB k s = true) (hc : plainC c = false) (h39 : c ≠ 39) : cutHas c s = false := by
 unfold standB at h
 have hd : c < 48 ∨ 57 < c := by
  unfold plainC at hc; simp at hc; omega
 split at h
 ·simp at h
  obtain ⟨h1, -⟩ := h
  cases hn : numL s 999999 with
  | none => rw [hn] at h1; cases h1
  | some n => exact numL_no58 hn hd
 ·split at h
  ·simp at h; exact textL_no h.1 hc h39
  ·split at h
   ·simp at h; subst h
    cases hb : cutHas c [121, 101, 115] with
    | false => rfl
    | true =>
     obtain ⟨z, hz, e⟩ := (has_iff _ _).1 hb
     simp at hz
     rcases hz with rfl | rfl | rfl <;> (rw [← e] at hc; revert hc; decide)
   ·cases h
theorem isName_no {n : Bs} {c : Int} (h : isName n = true) (hc : c < 97 ∨ 122 < c) : cutHas c n = false := by
 unfold isName lowFrom at h
 simp at h
 cases hb : cutHas c n with
 | false => rfl
 | true =>
  obtain ⟨z, hz, e⟩ := (has_iff _ _).1 hb
  have := h.2 z hz; omega
theorem kOk_no {k : Bs} {c : Int} (h : kOk k = true) (hc : c = 58 ∨ c = 61) : cutHas c k = false := by
 cases hk : kindR k with
 | none => simp [kOk, hk] at h
 | some x =>
  obtain ⟨n, d⟩ := x
  rcases kind_cases k with h0 | ⟨n', d', hk', hl, hd, h1, h2⟩
  ·rw [h0] at hk; cases hk
  ·rw [← List.take_append_drop d' k, has_append]
   have a1 : cutHas c (k.take d') = false := has_at c _ fun j hj e => by
    rw [List.length_take] at hj
    have hj1 : j < d' := by omega
    have e2 : at_ (k.take d') j = at_ k j := by unfold at_; simp [List.getD_eq_getElem?_getD, hj1]
    rw [e2] at e
    rcases h1 j hj1 with h3 | h3 <;> omega
   rw [a1, Bool.false_or]
   have one : ∀ v : UInt8, (v.toNat : Int) ≠ c → cutHas c [v] = false := fun v hv => by rw [cutHas, if_neg hv]; rfl
   rcases h2 with ⟨-, hn, h3, -⟩ | ⟨-, ⟨h3, -⟩ | ⟨h3, -⟩ | ⟨h3, -⟩⟩
   ·rw [h3, cutHas, if_neg (by show (64 : Int) ≠ c; omega), has_append, isName_no hn (by omega)]
    exact one 59 (by show (59 : Int) ≠ c; omega)
   ·rw [h3]; exact one 110 (by show (110 : Int) ≠ c; omega)
   ·rw [h3]; exact one 116 (by show (116 : Int) ≠ c; omega)
   ·rw [h3]; exact one 102 (by show (102 : Int) ≠ c; omega)
def cutStandP (s : Bs) : Option (Bs × Bs) :=
 if cutHas 61 s = true then (if (plainP (cutA 61 s) (cutB 61 s) && !(cutB 61 s == plainV (cutA 61 s))) = true then some (cutA 61 s, cutB 61 s) else none) else some (s, [])
def fieldP (s : Bs) (c : Int) : Option Fl :=
 match decP (cutA 58 s) 200 with
 | none => none
 | some tag =>
  if tag = 0 then none
  else if c = 69 then (if isName (cutB 58 s) = true then some ⟨tag, cutB 58 s, [], []⟩ else none)
  else match (if c = 82 then cutStandP (cutB 58 (cutB 58 s)) else some (cutB 58 (cutB 58 s), [])) with
   | none => none
   | some x => if isName (cutA 58 (cutB 58 s)) = true ∧ kOk x.1 = true then some ⟨tag, cutA 58 (cutB 58 s), x.1, x.2⟩ else none
theorem standB_kOk {k s : Bs} (h : standB k s = true) : kOk k = true := by
 unfold standB at h
 split at h
 ·rename_i e; subst e; rfl
 ·split at h
  ·rename_i e; subst e; rfl
  ·split at h
   ·rename_i e; subst e; rfl
   ·cases h
theorem kOk_has {k : Bs} {c : Int} (h : cutHas c k = true) (hc : c = 58 ∨ c = 61) : kOk k = false := by
 cases hk : kOk k with
 | false => rfl
 | true => rw [kOk_no hk hc] at h; cases h
theorem isName_has {k : Bs} {c : Int} (h : cutHas c k = true) (hc : c < 97 ∨ 122 < c) : isName k = false := by
 cases hk : isName k with
 | false => rfl
 | true => rw [isName_no hk hc] at h; cases h
theorem standB_has {k s : Bs} {c : Int} (h : cutHas c s = true) (hc : plainC c = false) (h39 : c ≠ 39) : standB k s = false := by
 cases hk : standB k s with
 | false => rfl
 | true => rw [standB_no hk hc h39] at h; cases h
theorem cutStand_yes {s : Bs} (h : cutHas 61 s = true) : cutStandP s = if standB (cutA 61 s) (cutB 61 s) = true then some (cutA 61 s, cutB 61 s) else none := by
 unfold cutStandP; rw [if_pos h, plainP_stand]
theorem cutStand_no {s : Bs} (h : cutHas 61 s = false) : cutStandP s = some (s, []) := by
 unfold cutStandP; rw [if_neg (by rw [h]; decide)]
theorem fieldP_tag {s : Bs} {c : Int} (h : decP (cutA 58 s) 200 = none) : fieldP s c = none := by unfold fieldP; rw [h]
theorem fieldP_eq (s : Bs) (c : Int) (hc : isSort c = true) : fieldP s c = readField s c := by
 have hc3 : c = 82 ∨ c = 85 ∨ c = 69 := by unfold isSort at hc; simp at hc; omega
 have hd := decP_numL (cutA 58 s) 200 (by omega)
 unfold readField
 cases h1 : cutHas 58 s with
 | false =>
  obtain ⟨e1, e2, e3⟩ := cut_hasnt 58 s h1
  rw [e1, field_len (by simp; split <;> omega)]
  unfold fieldP
  rw [e3]
  cases decP (cutA 58 s) 200 with
  | none => rfl
  | some tag =>
   simp only
   split
   ·rfl
   ·split
    ·rfl
    ·split
     ·rfl
     ·rw [if_neg]; rintro ⟨h, -⟩; revert h; decide
 | true =>
  rw [cutL_has 58 s h1]
  unfold fieldP
  rw [hd]
  clear hd h1
  generalize cutB 58 s = b
  generalize cutA 58 s = a
  cases h2 : cutHas 58 b with
  | false =>
   obtain ⟨e1, e2, e3⟩ := cut_hasnt 58 b h2
   rw [e1, e3]
   by_cases h69 : c = 69
   ·subst h69
    cases hn : numL a 200 with
    | none => rw [field_num (by simpa using hn)]
    | some tag =>
     have ht := numL_digs hn
     simp only
     by_cases ht0 : tag = 0
     ·rw [if_pos ht0, field_bad (tag := tag) (by simpa using hn) (by omega)]
     ·have ht1 : 0 ≤ tag := by
       have := valN_nonneg a a.length ht
       unfold numL at hn; split at hn
       ·injection hn with hn; omega
       ·cases hn
      rw [if_neg ht0, if_pos trivial]
      cases hnm : isName b with
      | false => rw [field_bad (tag := tag) (by simpa using hn) (by simp [hnm])]; rfl
      | true => rw [field_E (tag := tag) (by simp) (by simpa using hn) ⟨by omega, by simpa using hnm⟩]; simp
   ·rw [field_len (by simp [h69])]
    cases hn : numL a 200 with
    | none => rfl
    | some tag =>
     simp only
     split
     ·rfl
     ·split
      ·rfl
      ·rename_i x hx
       rw [if_neg]; rintro ⟨-, h⟩
       have : x.1 = [] := by
        split at hx
        ·rw [cutStand_no (by rfl)] at hx; injection hx with hx; rw [← hx]
        ·injection hx with hx; rw [← hx]
       rw [this] at h; revert h; decide
  | true =>
   rw [cutL_has 58 b h2]
   have hnb := isName_has h2 (by omega)
   by_cases h69 : c = 69
   ·subst h69
    rw [field_len (by
     cases hx : cutL 58 (cutB 58 b) with
     | nil => exact absurd hx (cutL_ne _ _)
     | cons y z => simp)]
    cases hn : numL a 200 with
    | none => rfl
    | some tag =>
     simp only
     rw [if_pos trivial, hnb]
     split <;> rfl
   ·clear hnb h2
    generalize cutB 58 b = k
    generalize cutA 58 b = n
    cases h3 : cutHas 58 k with
    | true =>
     have hk := kOk_has h3 (by omega)
     rw [field_len (by
      rw [if_neg h69, cutL_has 58 k h3]
      cases hx : cutL 58 (cutB 58 k) with
      | nil => exact absurd hx (cutL_ne _ _)
      | cons y z => simp)]
     cases hn : numL a 200 with
     | none => rfl
     | some tag =>
      simp only
      split
      ·rfl
      ·by_cases h82 : c = 82
       ·rw [if_pos h82]
        cases h4 : cutHas 61 k with
        | false =>
         rw [cutStand_no h4]; simp only
         rw [if_neg (by simp [hk])]
        | true =>
         rw [cutStand_yes h4]
         obtain ⟨x, hx, e⟩ := cut_whole 61 k h4
         have hor : cutHas 58 (cutA 61 k) = true ∨ cutHas 58 (cutB 61 k) = true := by
          rw [e, has_append] at h3
          rw [Bool.or_eq_true] at h3
          rcases h3 with h3 | h3
          ·exact .inl h3
          ·rw [cutHas, if_neg (by omega)] at h3; exact .inr h3
         rcases hor with ho | ho
         ·have := kOk_has ho (by omega)
          split
          ·rfl
          ·rename_i y hy
           split at hy
           ·injection hy with hy; rw [← hy]; rw [if_neg (by simp [this])]
           ·cases hy
         ·rw [standB_has ho (by decide) (by omega)]; rfl
       ·rw [if_neg h82]; simp only
        rw [if_neg (by simp [hk])]
    | false =>
     obtain ⟨e1, e2, e3⟩ := cut_hasnt 58 k h3
     rw [e1]
     have eg : ([a, n, k].getD 2 [] : Bs) = k := rfl
     rw [eg]
     cases hn : numL a 200 with
     | none => rw [field_num (by simpa using hn)]
     | some tag =>
      simp only
      by_cases ht0 : tag = 0
      ·rw [if_pos ht0, field_bad (tag := tag) (by simpa using hn) (by omega)]
      ·have ht1 : 1 ≤ tag := by
        have := valN_nonneg a a.length (numL_digs hn)
        unfold numL at hn; split at hn
        ·injection hn with hn; omega
        ·cases hn
       rw [if_neg ht0, if_neg h69]
       cases hnm : isName n with
       | false =>
        rw [field_bad (tag := tag) (by simpa using hn) (by simp [hnm])]
        split
        ·rfl
        ·rw [if_neg (by simp)]
       | true =>
        rw [field_on (tag := tag) h69 (by simp) (by simpa using hn) ⟨ht1, by simpa using hnm⟩]
        have eg1 : ([a, n, k].getD 1 [] : Bs) = n := rfl
        rw [eg1]
        cases h4 : cutHas 61 k with
        | false =>
         obtain ⟨f1, f2, f3⟩ := cut_hasnt 61 k h4
         rw [f1]
         rw [cutStand_no h4, ite_self]; simp
        | true =>
         have hk := kOk_has h4 (by omega)
         rw [cutL_has 61 k h4]
         by_cases h82 : c = 82
         ·rw [if_pos h82, cutStand_yes h4]
          cases h5 : cutHas 61 (cutB 61 k) with
          | false =>
           obtain ⟨f1, f2, f3⟩ := cut_hasnt 61 _ h5
           rw [f1]
           simp only [List.getD_cons_zero, List.getD_cons_succ]
           cases h6 : standB (cutA 61 k) (cutB 61 k) with
           | false => simp
           | true => simp [h82, standB_kOk h6]
          | true =>
           rw [standB_has h5 (by decide) (by omega), cutL_has 61 _ h5]
           cases hx : cutL 61 (cutB 61 (cutB 61 k)) with
           | nil => exact absurd hx (cutL_ne _ _)
           | cons y z => simp
         ·rw [if_neg h82]
          simp only
          rw [if_neg (by simp [hk])]
          cases hx : cutL 61 (cutB 61 k) with
          | nil => exact absurd hx (cutL_ne _ _)
          | cons y z => simp [h82]
def mayP (fs : List Fl) (f : Fl) : Bool := decide (fs.length ≠ 8) && !clash fs f
def fieldsP (c : Int) : List Bs → List Fl → Option (List Fl)
 | [], fs => some fs
 | s :: r, fs => match fieldP s c with
  | none => none
  | some f => if mayP fs f = true then fieldsP c r (fs ++ [f]) else none
theorem readFields_long (c : Int) (L : List Bs) (fs x : List Fl) (h : readFields c L fs = some x) : fs.length ≤ x.length := by
 induction L generalizing fs with
 | nil => injection h with h; subst h; omega
 | cons s r ih =>
  rw [readFields] at h
  split at h
  ·cases h
  ·split at h
   ·cases h
   ·have := ih _ h; simp at this; omega
theorem fieldsP_eq (c : Int) (hc : isSort c = true) (L : List Bs) (fs : List Fl) (hl : fs.length ≤ 8) :
  fieldsP c L fs = match readFields c L fs with | none => none | some x => if x.length ≤ 8 then some x else none := by
 induction L generalizing fs with
 | nil => simp [fieldsP, readFields, hl]
 | cons s r ih =>
  rw [fieldsP, readFields, fieldP_eq s c hc]
  cases readField s c with
  | none => rfl
  | some f =>
   simp only
   by_cases hcl : clash fs f = true
   ·rw [if_pos hcl, if_neg (by unfold mayP; rw [hcl]; simp)]
   ·rw [if_neg hcl]
    have hcf := Bool.eq_false_iff.2 hcl
    by_cases h8 : fs.length = 8
    ·rw [if_neg (by unfold mayP; rw [h8]; simp)]
     cases hr : readFields c r (fs ++ [f]) with
     | none => rfl
     | some x => have := readFields_long c r _ x hr; simp at this; simp only; rw [if_neg (by omega)]
    ·rw [if_pos (by unfold mayP; rw [hcf]; simp [h8]), ih (fs ++ [f]) (by simp; omega)]
def bodyP (c : Int) (b : Bs) : Option (List Fl) := if b = [] then (if c = 82 then some [] else none) else fieldsP c (cutL 44 b) []
def typeP (s : Bs) : Option Ty :=
  if cutHas 61 s = true ∧ cutA 61 s ≠ [] ∧ isName ((cutA 61 s).drop 1) = true ∧ isSort (at_ (cutA 61 s) 0) = true then
    (match bodyP (at_ (cutA 61 s) 0) (cutB 61 s) with
     | none => none
     | some fs => some ⟨at_ (cutA 61 s) 0, (cutA 61 s).drop 1, fs⟩)
  else none
theorem cut_eqAt (s : Bs) : cutA 61 s = s.take (eqAt s) ∧ cutB 61 s = s.drop (eqAt s + 1) ∧ cutHas 61 s = decide (eqAt s < s.length) := by
 induction s with
 | nil => exact ⟨rfl, rfl, rfl⟩
 | cons x r ih =>
  rw [cutA, cutB, cutHas, eqAt]
  split
  ·simp
  ·obtain ⟨h1, h2, h3⟩ := ih
   rw [h1, h2, h3]; simp
theorem typeP_eq (s : Bs) : typeP s = readType s := by
 obtain ⟨h1, h2, h3⟩ := cut_eqAt s
 unfold typeP readType
 rw [h1, h2, h3]
 by_cases hk : eqAt s < s.length
 ·by_cases h0 : 1 ≤ eqAt s
  ·rw [if_pos (show 1 ≤ eqAt s ∧ eqAt s < s.length from ⟨h0, hk⟩)]
   have e1 : s.take (eqAt s) ≠ [] := by intro e; have := congrArg List.length e; rw [List.length_take, List.length_nil] at this; omega
   have e2 : (s.take (eqAt s)).drop 1 = (s.drop 1).take (eqAt s - 1) := by rw [List.drop_take]
   have e3 : at_ (s.take (eqAt s)) 0 = at_ s 0 := by unfold at_; simp [List.getD_eq_getElem?_getD, show 0 < eqAt s by omega]
   rw [e2, e3]
   by_cases hn : isName ((s.drop 1).take (eqAt s - 1)) = true ∧ isSort (at_ s 0) = true
   ·rw [if_pos hn, if_pos (show decide (eqAt s < s.length) = true ∧ s.take (eqAt s) ≠ [] ∧ isName ((s.drop 1).take (eqAt s - 1)) = true ∧ isSort (at_ s 0) = true from ⟨by simpa using hk, e1, hn.1, hn.2⟩)]
    unfold bodyP
    by_cases hb : s.drop (eqAt s + 1) = []
    ·rw [if_pos hb, if_pos hb]
     by_cases h82 : at_ s 0 = 82
     ·rw [if_pos h82, if_pos h82, h82]
     ·rw [if_neg h82, if_neg h82]
    ·rw [if_neg hb, if_neg hb, fieldsP_eq _ hn.2 _ _ (by simp)]
     cases readFields (at_ s 0) (cutL 44 (s.drop (eqAt s + 1))) [] with
     | none => rfl
     | some x => simp only [tyOf]; by_cases h8 : x.length ≤ 8 <;> simp [h8]
   ·rw [if_neg hn, if_neg (fun h => hn h.2.2)]
  ·rw [if_neg (fun h : 1 ≤ eqAt s ∧ eqAt s < s.length => h0 h.1), if_neg]
   rintro ⟨-, h, -⟩; apply h; rw [show eqAt s = 0 by omega]; rfl
 ·rw [if_neg (fun h : 1 ≤ eqAt s ∧ eqAt s < s.length => hk h.2), if_neg]
  rintro ⟨h, -⟩; exact hk (by simpa using h)
def hasName (X : List Ty) (n : Bs) : Bool := X.any fun t => t.name == n
def linesP : Nat → Bs → List Ty → Option (List Ty)
  | 0, _, _ => none
  | f + 1, s, X => if s = [] then some X else
      if cutHas 10 s = true then
        (match typeP (cutA 10 s) with
         | none => none
         | some t => if X.length = 8 ∨ hasName X t.name = true then none else linesP f (cutB 10 s) (X ++ [t]))
      else none
def distFrom : List Ty → List Ty → Bool
 | _, [] => true
 | p, t :: r => !hasName p t.name && distFrom (p ++ [t]) r
def linkB (X : List Ty) : List Ty → Bool := fun Q => Q.all fun t => t.sort == 69 || t.fields.all (fieldOk X)
theorem validFrom_eq (X p Q : List Ty) : validFrom X p Q = (distFrom p Q && linkB X Q) := by
 induction Q generalizing p with
 | nil => rfl
 | cons t r ih =>
  rw [validFrom, distFrom, ih]
  unfold typeOk linkB hasName
  rw [List.all_cons]
  generalize (p.any fun u => u.name == t.name) = a
  generalize (t.sort == 69 || t.fields.all (fieldOk X)) = b
  generalize distFrom (p ++ [t]) r = c
  cases a <;> cases b <;> cases c <;> rfl
theorem readTypes_app (L : List Bs) (P : List Ty) : readTypes L P = (readTypes L []).map (P ++ ·) := by
 induction L generalizing P with
 | nil => simp [readTypes]
 | cons s r ih =>
  rw [readTypes, readTypes]
  cases readType s with
  | none => rfl
  | some t =>
   simp only
   rw [ih (P ++ [t]), ih ([] ++ [t])]
   cases readTypes r [] with
   | none => rfl
   | some x => simp
def readAll (s : Bs) : Option (List Ty) := if lastL (cutL 10 s) = [] then readTypes ((cutL 10 s).take ((cutL 10 s).length - 1)) [] else none
theorem lastL_cons (a : Bs) (L : List Bs) (h : L ≠ []) : lastL (a :: L) = lastL L := by
 cases L with
 | nil => exact absurd rfl h
 | cons b r => unfold lastL; simp [List.getD_eq_getElem?_getD]
theorem linesP_eq (f : Nat) (s : Bs) (P : List Ty) (hf : s.length < f) (hP : P.length ≤ 8) :
  linesP f s P = match readAll s with | none => none | some Q => if P.length + Q.length ≤ 8 ∧ distFrom P Q = true then some (P ++ Q) else none := by
 induction f generalizing s P with
 | zero => omega
 | succ f ih =>
  rw [linesP]
  by_cases hs : s = []
  ·subst hs
   rw [if_pos rfl]
   show _ = match some ([] : List Ty) with | none => none | some Q => if P.length + Q.length ≤ 8 ∧ distFrom P Q = true then some (P ++ Q) else none
   simp [distFrom, hP]
  ·rw [if_neg hs]
   cases h10 : cutHas 10 s with
   | false =>
    rw [if_neg (by decide)]
    have : readAll s = none := by unfold readAll; rw [(cut_hasnt 10 s h10).1]; exact if_neg hs
    rw [this]
   | true =>
    rw [if_pos rfl, typeP_eq]
    have hlt := cutB_lt 10 s h10
    have hne := cutL_ne 10 (cutB 10 s)
    have hra : readAll s = match readType (cutA 10 s) with | none => none | some t => (readAll (cutB 10 s)).map (t :: ·) := by
     unfold readAll
     rw [cutL_has 10 s h10, lastL_cons _ _ hne]
     have hl : ((cutA 10 s :: cutL 10 (cutB 10 s)).take ((cutA 10 s :: cutL 10 (cutB 10 s)).length - 1)) = cutA 10 s :: (cutL 10 (cutB 10 s)).take ((cutL 10 (cutB 10 s)).length - 1) := by
      cases hc : cutL 10 (cutB 10 s) with
      | nil => exact absurd hc hne
      | cons a b => simp
     rw [hl, readTypes]
     split
     ·cases readType (cutA 10 s) with
      | none => rfl
      | some t => simp only; rw [readTypes_app]; rfl
     ·cases readType (cutA 10 s) <;> rfl
    rw [hra]
    cases readType (cutA 10 s) with
    | none => rfl
    | some t =>
     simp only
     by_cases hx : P.length = 8 ∨ hasName P t.name = true
     ·rw [if_pos hx]
      cases readAll (cutB 10 s) with
      | none => rfl
      | some Q =>
       simp only [Option.map_some]
       rw [if_neg]
       rintro ⟨h1, h2⟩
       rw [distFrom] at h2
       rcases hx with hx | hx
       ·simp at h1; omega
       ·rw [hx] at h2; cases h2
     ·rw [if_neg hx, ih (cutB 10 s) (P ++ [t]) (by omega) (by simp; omega)]
      have hn : hasName P t.name = false := by cases h : hasName P t.name with | false => rfl | true => exact absurd (.inr h) hx
      cases readAll (cutB 10 s) with
      | none => rfl
      | some Q =>
       simp only [Option.map_some]
       rw [distFrom, hn, show P.length + (t :: Q).length = (P ++ [t]).length + Q.length from by simp; omega]
       simp
def stepT (X : List Ty) (t : Ty) : Option Ty := if t.sort = 85 then refT X (t.fields.getD 0 default).kind else none
def iterT (X : List Ty) : Nat → Ty → Option Ty
 | 0, t => some t
 | k + 1, t => match stepT X t with | none => none | some u => iterT X k u
theorem endsF_iter (X : List Ty) (n : Nat) (t : Ty) : endsF X n t = (iterT X n t).isNone := by
 induction n generalizing t with
 | zero => rfl
 | succ n ih =>
  rw [endsF, iterT, stepT]
  split
  ·split <;> simp_all
  ·rfl
theorem iterT_add (X : List Ty) (a b : Nat) (t : Ty) : iterT X (a + b) t = (iterT X a t).bind (iterT X b) := by
 induction a generalizing t with
 | zero => simp [iterT]
 | succ a ih =>
  rw [show a + 1 + b = (a + b) + 1 from by omega, iterT, iterT]
  cases stepT X t with
  | none => rfl
  | some u => exact ih u
theorem iterT_cycle (X : List Ty) (k : Nat) (hk : 1 ≤ k) (t : Ty) (h : iterT X k t = some t) (n : Nat) : iterT X n t ≠ none := by
 have hm : ∀ m, iterT X (m * k) t = some t := by
  intro m
  induction m with
  | zero => simp [iterT]
  | succ m ih => rw [Nat.succ_mul, iterT_add, ih]; exact h
 intro hn
 have h1 := hm n
 have h2 : n * k = n + (n * k - n) := by have := Nat.le_mul_of_pos_right n hk; omega
 rw [h2, iterT_add, hn] at h1
 cases h1
theorem pigeon (l L : List Bs) (hn : l.Nodup) (hs : ∀ x ∈ l, x ∈ L) : l.length ≤ L.length := by
 induction l generalizing L with
 | nil => simp
 | cons a r ih =>
  rw [List.nodup_cons] at hn
  have ha : a ∈ L := hs a (by simp)
  have := ih (L.erase a) hn.2 (fun x hx => (List.mem_erase_of_ne (fun e : x = a => hn.1 (e ▸ hx))).2 (hs x (by simp [hx])))
  rw [List.length_erase_of_mem ha] at this
  have : 0 < L.length := List.length_pos_of_mem ha
  simp; omega
theorem refT_mem {X : List Ty} {k : Bs} {t : Ty} (h : refT X k = some t) : t ∈ X := by
 unfold refT at h
 split at h
 ·split at h
  ·cases h
  ·exact (find_mem h).1
 ·cases h
theorem stepT_mem {X : List Ty} {t u : Ty} (h : stepT X t = some u) : u ∈ X := by
 unfold stepT at h; split at h
 ·exact refT_mem h
 ·cases h
def Uniq (X : List Ty) : Prop := ∀ t ∈ X, ∀ u ∈ X, t.name = u.name → t = u
inductive Comes (X : List Ty) : List Ty → Option Ty → Bool → Prop
 | nil (s : List Ty) : Comes X s none false
 | other (s : List Ty) (t : Ty) (h : t.sort ≠ 85) : Comes X s (some t) false
 | back (s : List Ty) (t : Ty) (h : t.sort = 85) (hs : t.name ∈ s.map (·.name)) : Comes X s (some t) true
 | on (s : List Ty) (t : Ty) (b : Bool) (h : t.sort = 85) (hs : t.name ∉ s.map (·.name)) (hn : Comes X (t :: s) (stepT X t) b) : Comes X s (some t) b
theorem comes_ends (X : List Ty) (hX : Uniq X) (s : List Ty) (o : Option Ty) (b : Bool) (h : Comes X s o b) (n : Nat) (hn : X.length < s.length + n) (hnd : (s.map (·.name)).Nodup) (hs : ∀ t ∈ s, t ∈ X) (hc : ∀ u, o = some u → u ∈ X ∧ ∀ t ∈ s, ∃ k, 1 ≤ k ∧ iterT X k t = some u) :
  b = match o with | none => false | some t => !endsF X n t := by
 induction h generalizing n with
 | nil s => rfl
 | other s t h =>
  have hp := pigeon (s.map (·.name)) (X.map (·.name)) hnd (by
   intro x hx
   obtain ⟨u, hu, rfl⟩ := List.mem_map.1 hx
   exact List.mem_map.2 ⟨u, hs u hu, rfl⟩)
  simp at hp
  obtain ⟨m, rfl⟩ : ∃ m, n = m + 1 := ⟨n - 1, by omega⟩
  simp only; rw [endsF, if_neg h]; rfl
 | back s t h ht =>
  obtain ⟨u, hu, e⟩ := List.mem_map.1 ht
  obtain ⟨h1, h2⟩ := hc t rfl
  obtain rfl : u = t := hX u (hs u hu) t h1 e
  obtain ⟨k, hk, hi⟩ := h2 u hu
  have := iterT_cycle X k hk u hi n
  simp only; rw [endsF_iter]
  cases hh : iterT X n u with
  | none => exact absurd hh this
  | some _ => rfl
 | on s t b h ht hn' ih =>
  obtain ⟨h1, h2⟩ := hc t rfl
  have hnd2 : ((t :: s).map (·.name)).Nodup := by rw [List.map_cons, List.nodup_cons]; exact ⟨ht, hnd⟩
  have hs2 : ∀ u ∈ t :: s, u ∈ X := by
   intro u hu
   rcases List.mem_cons.1 hu with rfl | hu
   ·exact h1
   ·exact hs u hu
  have hp := pigeon ((t :: s).map (·.name)) (X.map (·.name)) hnd2 (by
   intro x hx
   obtain ⟨u, hu, rfl⟩ := List.mem_map.1 hx
   exact List.mem_map.2 ⟨u, hs2 u hu, rfl⟩)
  simp at hp
  obtain ⟨m, rfl⟩ : ∃ m, n = m + 1 := ⟨n - 1, by omega⟩
  have := ih m (by simp; omega) hnd2 hs2 (by
   intro u hu
   refine ⟨stepT_mem hu, fun v hv => ?_⟩
   rcases List.mem_cons.1 hv with rfl | hv
   ·exact ⟨1, by omega, by rw [iterT, hu]; rfl⟩
   ·obtain ⟨k, hk, hi⟩ := h2 v hv
    exact ⟨k + 1, by omega, by rw [iterT_add, hi]; show iterT X 1 t = some u; rw [iterT, hu]; rfl⟩)
  rw [this]
  simp only; rw [endsF, if_pos h]
  have e : stepT X t = refT X (t.fields.getD 0 default).kind := by unfold stepT; rw [if_pos h]
  rw [e]
  cases refT X (t.fields.getD 0 default).kind <;> rfl
theorem comes_endsB {X : List Ty} (hX : Uniq X) {t : Ty} (ht : t ∈ X) {b : Bool} (h : Comes X [] (some t) b) : b = !endsB X t :=
 comes_ends X hX [] (some t) b h (X.length + 1) (by simp) (by simp) (by simp) (by intro u hu; injection hu with hu; subst hu; exact ⟨ht, by simp⟩)
def ofP (s : Bs) : Option (List Ty) :=
  if s.length ≤ 400 then
    (match linesP (s.length + 1) s [] with
     | none => none
     | some X => if (linkB X X && X.all (endsB X)) = true then some X else none)
  else none
theorem readTypes_len (L : List Bs) (P X : List Ty) (h : readTypes L P = some X) : X.length = P.length + L.length := by
 induction L generalizing P with
 | nil => injection h with h; subst h; simp
 | cons s r ih =>
  rw [readTypes] at h
  split at h
  ·cases h
  ·have := ih _ h; simp at this; simp; omega
theorem ofP_eq (s : Bs) : ofP s = ofS s := by
 unfold ofP ofS
 by_cases hl : s.length ≤ 400
 ·rw [if_pos hl, linesP_eq (s.length + 1) s [] (by omega) (by simp)]
  unfold readAll
  have hne := cutL_ne 10 s
  have hpos : 0 < (cutL 10 s).length := List.length_pos_iff.2 hne
  by_cases h1 : lastL (cutL 10 s) = []
  ·rw [if_pos h1]
   cases hr : readTypes ((cutL 10 s).take ((cutL 10 s).length - 1)) [] with
   | none => simp
   | some X =>
    have hlen := readTypes_len _ _ _ hr
    rw [List.length_take] at hlen
    simp only [List.length_nil, Nat.zero_add, List.nil_append] at hlen ⊢
    by_cases h9 : (cutL 10 s).length ≤ 9
    ·rw [if_pos (show s.length ≤ 400 ∧ (cutL 10 s).length ≤ 9 ∧ lastL (cutL 10 s) = [] from ⟨hl, h9, h1⟩)]
     have : validB X = (distFrom [] X && (linkB X X && X.all (endsB X))) := by unfold validB; rw [validFrom_eq, Bool.and_assoc]
     rw [this]
     cases hd : distFrom [] X with
     | false => simp
     | true => rw [if_pos ⟨by omega, rfl⟩]; simp
    ·rw [if_neg (by omega), if_neg (by omega)]
  ·rw [if_neg h1, if_neg (fun h => h1 h.2.2)]
 ·rw [if_neg hl, if_neg (fun h => hl h.1)]
theorem hasName_no {p : List Ty} {n : Bs} (h : hasName p n = false) : ∀ u ∈ p, u.name ≠ n := by
 intro u hu e
 unfold hasName at h
 rw [List.any_eq_false] at h
 exact h u hu (by simpa using e)
theorem ofS_some {s : Bs} {X : List Ty} (h : ofS s = some X) : (∀ t ∈ X, GoodT t) ∧ X.length ≤ 8 ∧ validB X = true := by
 unfold ofS at h
 split at h
 ·rename_i hc
  split at h
  ·cases h
  ·rename_i Y hY
   split at h
   ·rename_i hv
    injection h with h; subst h
    refine ⟨readTypes_good (P := []) (by simp) hY, ?_, hv⟩
    have := readTypes_len _ _ _ hY
    rw [List.length_take] at this; simp at this; omega
   ·cases h
 ·cases h
def coreOk (X : List Ty) (k : Bs) : Bool := match coreName k with
 | none => true
 | some n => (find X n).isSome
def kindS (l k : Bs) : Option (List Ty) := match ofS l with
 | none => none
 | some X => if kOk k = true ∧ coreOk X k = true then some X else none
def tag0 (t : Ty) : Int := (t.fields.getD 0 default).tag
def kind0 (t : Ty) : Bs := (t.fields.getD 0 default).kind
def standsF (X : List Ty) : Nat → Bs → Option Bs
 | 0, _ => none
 | n + 1, k => if at_ k 0 = 91 then some [91, 93] else if at_ k 0 = 63 then some [45] else
   match refT X k with
   | none => some (plainV k)
   | some t => if t.sort = 82 then some [123, 125] else if t.sort = 69 then some (35 :: dec (tag0 t)) else
     match standsF X n (kind0 t) with
     | none => none
     | some s => some (60 :: (dec (tag0 t) ++ 61 :: (s ++ [62])))
theorem standsF_more (X : List Ty) (n : Nat) (k s : Bs) (h : standsF X n k = some s) : standsF X (n + 1) k = some s := by
 induction n generalizing k s with
 | zero => cases h
 | succ n ih =>
  rw [standsF] at h ⊢
  split
  ·rename_i h1; rw [if_pos h1] at h; exact h
  ·rename_i h1
   rw [if_neg h1] at h
   split
   ·rename_i h2; rw [if_pos h2] at h; exact h
   ·rename_i h2
    rw [if_neg h2] at h
    cases hr : refT X k with
    | none => rw [hr] at h; exact h
    | some t =>
     rw [hr] at h
     simp only at h ⊢
     split
     ·rename_i h3; rw [if_pos h3] at h; exact h
     ·rename_i h3
      rw [if_neg h3] at h
      split
      ·rename_i h4; rw [if_pos h4] at h; exact h
      ·rename_i h4
       rw [if_neg h4] at h
       cases hs : standsF X n (kind0 t) with
       | none => rw [hs] at h; cases h
       | some x => rw [hs] at h; rw [ih _ _ hs]; exact h
theorem standsF_mono (X : List Ty) (n m : Nat) (hnm : n ≤ m) (k s : Bs) (h : standsF X n k = some s) : standsF X m k = some s := by
 obtain ⟨d, rfl⟩ : ∃ d, m = n + d := ⟨m - n, by omega⟩
 clear hnm
 induction d with
 | zero => exact h
 | succ d ih => exact standsF_more X (n + d) k s ih
theorem decN_len3 (n : Nat) (h : n < 1000) : (decN n).length ≤ 3 := by
 rw [decN]; split
 ·simp
 ·rw [decN]; split
  ·simp
  ·rw [decN, if_pos (by omega)]; simp
theorem plainV_len (k : Bs) : (plainV k).length ≤ 2 := by
 unfold plainV; split
 ·simp
 ·split
  ·simp
  ·split <;> simp
theorem tag0_bd {t : Ty} (h : GoodT t) (h82 : t.sort ≠ 82) : 1 ≤ tag0 t ∧ tag0 t ≤ 200 := by
 obtain ⟨-, -, -, h1, h2⟩ := h
 have hne := h1 h82
 have hpos : 0 < t.fields.length := List.length_pos_iff.2 hne
 unfold tag0
 rw [List.getD_eq_getElem?_getD, List.getElem?_eq_getElem hpos]
 have := h2 _ (List.getElem_mem hpos)
 exact ⟨this.1, this.2.1⟩
theorem kind0_ok {t : Ty} (h : GoodT t) (h82 : t.sort ≠ 82) (h69 : t.sort ≠ 69) : kOk (kind0 t) = true := by
 obtain ⟨-, -, -, h1, h2⟩ := h
 have hne := h1 h82
 have hpos : 0 < t.fields.length := List.length_pos_iff.2 hne
 unfold kind0
 rw [List.getD_eq_getElem?_getD, List.getElem?_eq_getElem hpos]
 exact (h2 _ (List.getElem_mem hpos)).2.2.2.2.2.1 h69
theorem standsF_len (X : List Ty) (hg : ∀ t ∈ X, GoodT t) (n : Nat) (k s : Bs) (h : standsF X n k = some s) : s.length ≤ 6 * n + 4 := by
 induction n generalizing k s with
 | zero => cases h
 | succ n ih =>
  rw [standsF] at h
  split at h
  ·injection h with h; subst h; simp
  ·split at h
   ·injection h with h; subst h; simp
   ·cases hr : refT X k with
    | none => rw [hr] at h; injection h with h; subst h; have := plainV_len k; omega
    | some t =>
     have hgt := hg t (refT_mem hr)
     rw [hr] at h
     simp only at h
     split at h
     ·injection h with h; subst h; simp
     ·rename_i h82
      have hb := tag0_bd hgt h82
      have hd : (dec (tag0 t)).length ≤ 3 := decN_len3 _ (by omega)
      split at h
      ·injection h with h; subst h; simp; omega
      ·cases hs : standsF X n (kind0 t) with
       | none => rw [hs] at h; cases h
       | some x =>
        rw [hs] at h
        injection h with h; subst h
        have := ih _ _ hs
        simp; omega
theorem standsF_none (X : List Ty) (n : Nat) (k : Bs) (h : refT X k = none) : ∃ s, standsF X (n + 1) k = some s := by
 rw [standsF, h]
 by_cases h1 : at_ k 0 = 91
 ·rw [if_pos h1]; exact ⟨_, rfl⟩
 ·rw [if_neg h1]
  by_cases h2 : at_ k 0 = 63
  ·rw [if_pos h2]; exact ⟨_, rfl⟩
  ·rw [if_neg h2]; exact ⟨_, rfl⟩
theorem standsF_ends (X : List Ty) (n : Nat) (t : Ty) (h : endsF X (n + 1) t = true) (k : Bs) (hk : at_ k 0 = 64) (hr : refT X k = some t) (hg : ∀ t ∈ X, GoodT t) : ∃ s, standsF X (n + 2) k = some s := by
 induction n generalizing t k with
 | zero =>
  rw [standsF, if_neg (by omega), if_neg (by omega), hr]
  simp only
  by_cases h82 : t.sort = 82
  ·rw [if_pos h82]; exact ⟨_, rfl⟩
  ·rw [if_neg h82]
   by_cases h69 : t.sort = 69
   ·rw [if_pos h69]; exact ⟨_, rfl⟩
   ·rw [if_neg h69]
    have hs : t.sort = 85 := by have := (hg t (refT_mem hr)).1; unfold isSort at this; simp at this; omega
    rw [endsF, if_pos hs] at h
    have hn : refT X (kind0 t) = none := by
     unfold kind0
     cases hx : refT X (t.fields.getD 0 default).kind with
     | none => rfl
     | some u => rw [hx] at h; cases h
    obtain ⟨s, hs2⟩ := standsF_none X 0 (kind0 t) hn
    rw [hs2]; exact ⟨_, rfl⟩
 | succ n ih =>
  rw [standsF, if_neg (by omega), if_neg (by omega), hr]
  simp only
  by_cases h82 : t.sort = 82
  ·rw [if_pos h82]; exact ⟨_, rfl⟩
  ·rw [if_neg h82]
   by_cases h69 : t.sort = 69
   ·rw [if_pos h69]; exact ⟨_, rfl⟩
   ·rw [if_neg h69]
    have hgt := hg t (refT_mem hr)
    have hs : t.sort = 85 := by have := hgt.1; unfold isSort at this; simp at this; omega
    rw [endsF, if_pos hs] at h
    cases hx : refT X (kind0 t) with
    | none =>
     obtain ⟨s, hs2⟩ := standsF_none X (n + 1) (kind0 t) hx
     rw [hs2]; exact ⟨_, rfl⟩
    | some u =>
     have hx2 : refT X (t.fields.getD 0 default).kind = some u := hx
     rw [hx2] at h
     have h64 : at_ (kind0 t) 0 = 64 := by
      unfold refT at hx
      rcases kind_cases (kind0 t) with hk | ⟨m, d, hk, -, -, -, h2⟩
      ·rw [hk] at hx; cases hx
      ·rw [hk] at hx
       simp only at hx
       split at hx
       ·cases hx
       ·rename_i hc
        have hd : d = 0 := by simp at hc; exact hc.2
        have hm : m ≠ [] := by simp at hc; exact hc.1
        subst hd
        rcases h2 with ⟨-, -, -, e⟩ | ⟨e, -⟩
        ·exact e
        ·exact absurd e hm
     obtain ⟨s, hs2⟩ := ih u h (kind0 t) h64 hx
     rw [hs2]; exact ⟨_, rfl⟩
def standsV (X : List Ty) (k : Bs) : Bs := (standsF X (X.length + 3) k).getD []
theorem valid_ends {X : List Ty} (h : validB X = true) : ∀ t ∈ X, endsF X (X.length + 1) t = true := by
 intro t ht
 unfold validB at h
 rw [Bool.and_eq_true] at h
 exact List.all_eq_true.1 h.2 t ht
theorem standsV_ok {X : List Ty} (hv : validB X = true) (hg : ∀ t ∈ X, GoodT t) (k : Bs) : standsF X (X.length + 3) k = some (standsV X k) := by
 have : ∃ s, standsF X (X.length + 3) k = some s := by
  by_cases h1 : at_ k 0 = 91
  ·rw [standsF, if_pos h1]; exact ⟨_, rfl⟩
  ·by_cases h2 : at_ k 0 = 63
   ·rw [standsF, if_neg h1, if_pos h2]; exact ⟨_, rfl⟩
   ·cases hr : refT X k with
    | none => rw [standsF, if_neg h1, if_neg h2, hr]; exact ⟨_, rfl⟩
    | some t =>
     have h64 : at_ k 0 = 64 := by
      have hr' := hr
      unfold refT at hr'
      rcases kind_cases k with hk | ⟨m, d, hk, -, -, -, h2⟩
      ·rw [hk] at hr'; cases hr'
      ·rw [hk] at hr'
       simp only at hr'
       split at hr'
       ·cases hr'
       ·rename_i hc
        have hd : d = 0 := by simp at hc; exact hc.2
        have hm : m ≠ [] := by simp at hc; exact hc.1
        subst hd
        rcases h2 with ⟨-, -, -, e⟩ | ⟨e, -⟩
        ·exact e
        ·exact absurd e hm
     obtain ⟨s, hs⟩ := standsF_ends X X.length t (valid_ends hv t (refT_mem hr)) k h64 hr hg
     exact ⟨s, standsF_mono X _ _ (by omega) k s hs⟩
 obtain ⟨s, hs⟩ := this
 unfold standsV; rw [hs]; rfl
theorem refT_refs (X : List Ty) (k : Bs) : refT X k = if kDeep k = 0 then (match kRefs k with | [] => none | n :: _ => find X n) else none := by
 unfold refT kDeep kRefs
 cases hk : kindR k with
 | none => simp
 | some x =>
  simp only
  by_cases h1 : x.1 = []
  ·rw [if_pos h1, if_pos (.inl h1)]; simp
  ·rw [if_neg h1]
   by_cases h2 : x.2 = 0
   ·rw [if_neg (by simp [h1, h2]), if_pos (by simp [h2])]
   ·rw [if_pos (.inr h2), if_neg (by omega)]
theorem coreName_refs (k : Bs) : coreName k = (kRefs k).head? := by
 unfold coreName kRefs
 cases hk : kindR k with
 | none => rfl
 | some x =>
  simp only
  by_cases h1 : x.1 = []
  ·rw [if_pos h1, if_pos h1]; rfl
  ·rw [if_neg h1, if_neg h1]; rfl
theorem isName_len {n : Bs} (h : isName n = true) : n.length ≤ 3 := by
 unfold isName at h; simp at h; exact h.1.2
end Go.Proofs.YtcjooeklehggaaaGreatDoor.M
