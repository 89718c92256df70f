/- Chapter 2 without any Go: kinds. -/
import Derived.Test.YtgaiagpfnfnnaaaM1
namespace Go.Proofs.Ytgaiagpfnfnnaaa.M

/-- Is every byte from k on a small letter? -/
def lowFrom (l : List UInt8) (k : Nat) : Bool := (l.drop k).all fun c => decide (97 ≤ c.toNat) && decide (c.toNat ≤ 122)
theorem lowFrom_end (l : List UInt8) (k : Nat) (h : l.length ≤ k) : lowFrom l k = true := by
  unfold lowFrom; rw [List.drop_of_length_le h]; rfl
theorem lowFrom_in (l : List UInt8) (k : Nat) (h : k < l.length) : lowFrom l k = ((decide (97 ≤ at_ l k) && decide (at_ l k ≤ 122)) && lowFrom l (k + 1)) := by
  unfold lowFrom
  rw [List.drop_eq_getElem_cons h, List.all_cons]
  have e : at_ l k = ((l[k]).toNat : Int) := by unfold at_; rw [List.getD_eq_getElem?_getD, List.getElem?_eq_getElem h]; rfl
  rw [e]
  congr 2
  · exact decide_eq_decide.2 (by omega)
  · exact decide_eq_decide.2 (by omega)
/-- A name: one to three small letters. -/
def isName (l : List UInt8) : Bool := decide (1 ≤ l.length) && decide (l.length ≤ 3) && lowFrom l 0

/-- Name and depth of a kind, whatever its length. -/
def kindF : List UInt8 → Option (List UInt8 × Nat)
  | [] => none
  | c :: r =>
    if c = 91 ∨ c = 63 then (kindF r).map fun x => (x.1, x.2 + 1)
    else if c = 64 then (if r.getLast? = some 59 ∧ isName r.dropLast = true then some (r.dropLast, 0) else none)
    else if r = [] ∧ (c = 110 ∨ c = 116 ∨ c = 102) then some ([], 0) else none
/-- Name and depth of a kind. -/
def kindR (l : List UInt8) : Option (List UInt8 × Nat) := if l.length ≤ 12 then kindF l else none

theorem kindR_nil : kindR [] = none := rfl
theorem kindR_long (l : List UInt8) (h : 12 < l.length) : kindR l = none := by unfold kindR; rw [if_neg (by omega)]
theorem kindR_sign (c : UInt8) (r : List UInt8) (h : r.length + 1 ≤ 12) (hc : c = 91 ∨ c = 63) : kindR (c :: r) = (kindR r).map fun x => (x.1, x.2 + 1) := by
  unfold kindR; rw [if_pos (by simpa using h), if_pos (by omega), kindF, if_pos hc]
theorem kindR_at (r : List UInt8) (h : r.length + 1 ≤ 12) : kindR (64 :: r) = if r.getLast? = some 59 ∧ isName r.dropLast = true then some (r.dropLast, 0) else none := by
  unfold kindR; rw [if_pos (by simpa using h), kindF, if_neg (by decide), if_pos rfl]
theorem kindR_else (c : UInt8) (r : List UInt8) (h : r.length + 1 ≤ 12) (h1 : c ≠ 91) (h2 : c ≠ 63) (h3 : c ≠ 64) : kindR (c :: r) = if r = [] ∧ (c = 110 ∨ c = 116 ∨ c = 102) then some ([], 0) else none := by
  unfold kindR; rw [if_pos (by simpa using h), kindF, if_neg (by simp [h1, h2]), if_neg h3]
theorem last_at (c : UInt8) (r : List UInt8) (hr : r ≠ []) : at_ (c :: r) r.length = 59 ↔ r.getLast? = some 59 := by
  have e : (c :: r).getD r.length 0 = r.getLast hr := by
    rw [List.getD_eq_getElem?_getD]
    cases r with
    | nil => exact absurd rfl hr
    | cons x y => simp [List.getLast_eq_getElem]
  unfold at_; rw [e, List.getLast?_eq_some_getLast hr]
  constructor
  · intro h; congr 1; exact UInt8.toNat_inj.1 (by show _ = 59; omega)
  · intro h; injection h with h; rw [h]; rfl
theorem take_pred (r : List UInt8) : r.take (r.length - 1) = r.dropLast := List.dropLast_eq_take.symm

/-- What a kind is: signs, then a core. -/
theorem kindF_core : ∀ (l n : List UInt8) (d : Nat), kindF l = some (n, d) → d ≤ l.length ∧ (∀ k, k < d → at_ l k = 91 ∨ at_ l k = 63) ∧
    ((n ≠ [] ∧ isName n = true ∧ l.drop d = 64 :: (n ++ [59])) ∨ (n = [] ∧ (l.drop d = [110] ∨ l.drop d = [116] ∨ l.drop d = [102]))) := by
  intro l
  induction l with
  | nil => intro n d h; cases h
  | cons c r ih =>
    intro n d h
    rw [kindF] at h
    by_cases c1 : c = 91 ∨ c = 63
    · rw [if_pos c1] at h
      cases hk : kindF r with
      | none => rw [hk] at h; cases h
      | some x =>
        rw [hk] at h
        obtain ⟨n', d'⟩ := x
        simp at h
        obtain ⟨rfl, rfl⟩ := h
        obtain ⟨i1, i2, i3⟩ := ih n' d' hk
        refine ⟨by simp; omega, ?_, by simpa using i3⟩
        intro k hk
        cases k with
        | zero => rcases c1 with rfl | rfl
                  · exact .inl rfl
                  · exact .inr rfl
        | succ k =>
          have := i2 k (by omega)
          have e : at_ (c :: r) (k + 1) = at_ r k := by unfold at_; simp
          rwa [e]
    · rw [if_neg c1] at h
      by_cases c2 : c = 64
      · rw [if_pos c2] at h
        split at h
        · rename_i hh
          injection h with h
          injection h with h1 h2
          subst h1 h2 c2
          have hne : r ≠ [] := by rintro rfl; simp at hh
          have hl : r.dropLast ++ [59] = r := by
            have := List.dropLast_concat_getLast hne
            rw [List.getLast?_eq_some_getLast hne] at hh
            obtain ⟨h1, _⟩ := hh
            injection h1 with h1
            rwa [h1] at this
          refine ⟨by omega, by omega, .inl ⟨?_, hh.2, ?_⟩⟩
          · intro e; have := hh.2; rw [e] at this; cases this
          · simp [hl]
        · cases h
      · rw [if_neg c2] at h
        split at h
        · rename_i hh
          injection h with h
          injection h with h1 h2
          subst h1 h2
          obtain ⟨rfl, hc⟩ := hh
          refine ⟨by omega, by omega, .inr ⟨rfl, ?_⟩⟩
          rcases hc with rfl | rfl | rfl <;> simp
        · cases h

/-- The parts of a kind's reading. -/
def kOk (l : List UInt8) : Bool := (kindR l).isSome
def kDeep (l : List UInt8) : Int := match kindR l with | some x => (x.2 : Int) | none => -1
def kNameV (l : List UInt8) : List UInt8 := match kindR l with | some x => if x.2 = 0 then x.1 else [] | none => []
def kNameB (l : List UInt8) : Bool := match kindR l with | some x => decide (x.2 = 0 ∧ x.1 ≠ []) | none => false
def kPartB (l : List UInt8) : Bool := match kindR l with | some x => decide (x.2 ≠ 0) | none => false
def kPartV (l : List UInt8) : List UInt8 := if kPartB l then l.drop 1 else []
def kRefs (l : List UInt8) : List (List UInt8) := match kindR l with | some x => if x.1 = [] then [] else [x.1] | none => []

theorem kind_cases (l : List UInt8) : kindR l = none ∨ ∃ n d, kindR l = some (n, d) ∧ l.length ≤ 12 ∧ d < l.length ∧ (∀ k, k < d → at_ l k = 91 ∨ at_ l k = 63) ∧
    ((n ≠ [] ∧ isName n = true ∧ l.drop d = 64 :: (n ++ [59]) ∧ at_ l d = 64) ∨ (n = [] ∧ (l.drop d = [110] ∧ at_ l d = 110 ∨ l.drop d = [116] ∧ at_ l d = 116 ∨ l.drop d = [102] ∧ at_ l d = 102))) := by
  cases h : kindR l with
  | none => exact .inl rfl
  | some x =>
    obtain ⟨n, d⟩ := x
    right
    refine ⟨n, d, rfl, ?_⟩
    unfold kindR at h
    split at h
    · rename_i hl
      obtain ⟨h1, h2, h3⟩ := kindF_core l n d h
      have hat : ∀ x y, l.drop d = x :: y → at_ l d = (x.toNat : Int) := by
        intro x y e
        have e2 : at_ (l.drop d) 0 = at_ l d := by unfold at_; simp [List.getD_eq_getElem?_getD]
        rw [← e2, e]; rfl
      have hlt : ∀ x y, l.drop d = x :: y → d < l.length := by
        intro x y e
        have := congrArg List.length e
        simp at this; omega
      rcases h3 with ⟨a, b, c⟩ | ⟨a, b | b | b⟩
      · exact ⟨hl, hlt _ _ c, h2, .inl ⟨a, b, c, hat _ _ c⟩⟩
      · exact ⟨hl, hlt _ _ b, h2, .inr ⟨a, .inl ⟨b, hat _ _ b⟩⟩⟩
      · exact ⟨hl, hlt _ _ b, h2, .inr ⟨a, .inr (.inl ⟨b, hat _ _ b⟩)⟩⟩
      · exact ⟨hl, hlt _ _ b, h2, .inr ⟨a, .inr (.inr ⟨b, hat _ _ b⟩)⟩⟩
    · cases h
theorem name_of_drop {l n : List UInt8} {d : Nat} (h : l.drop d = 64 :: (n ++ [59])) : ((l.drop d).drop 1).take ((l.drop d).length - 1 - 1) = n := by
  rw [h]; simp

def rN (l : List UInt8) : List UInt8 := match kindR l with | some x => x.1 | none => []
def rD (l : List UInt8) : Int := match kindR l with | some x => (x.2 : Int) | none => 0
theorem rN_no {l : List UInt8} (h : kindR l = none) : rN l = [] ∧ rD l = 0 ∧ kOk l = false := by simp [rN, rD, kOk, h]
theorem rN_yes {l n : List UInt8} {d : Nat} (h : kindR l = some (n, d)) : rN l = n ∧ rD l = d ∧ kOk l = true := by simp [rN, rD, kOk, h]

theorem kindR_drop {l n : List UInt8} {d : Nat} (h : kindR l = some (n, d + 1)) : kindR (l.drop 1) = some (n, d) := by
  cases l with
  | nil => cases h
  | cons c r =>
    have hl : r.length + 1 ≤ 12 := by
      rcases Nat.lt_or_ge 12 (r.length + 1) with h1 | h1
      · rw [kindR_long (c :: r) (by simpa using h1)] at h; cases h
      · exact h1
    by_cases c1 : c = 91 ∨ c = 63
    · rw [kindR_sign c r hl c1] at h
      cases hk : kindR r with
      | none => rw [hk] at h; cases h
      | some x => rw [hk] at h; obtain ⟨a, b⟩ := x; simp at h; simp [hk, h.1, h.2]
    · by_cases c2 : c = 64
      · subst c2; rw [kindR_at r hl] at h; split at h <;> cases h
      · rw [kindR_else c r hl (fun h => c1 (.inl h)) (fun h => c1 (.inr h)) c2] at h; split at h <;> cases h

theorem law_KindOk (l : List UInt8) : kOk l = decide (0 ≤ kDeep l) := by
  unfold kOk kDeep
  cases h : kindR l with
  | none => rfl
  | some x => simp
theorem law_KindPart (l : List UInt8) (h : kPartB l = true) : kDeep (kPartV l) = kDeep l - 1 ∧ kPartV l = l.drop 1 ∧ 0 < l.length ∧ 0 < kDeep l ∧ kDeep l ≤ 12 ∧ kRefs (kPartV l) = kRefs l := by
  have hv : kPartV l = l.drop 1 := by simp [kPartV, h]
  rw [hv]
  rcases kind_cases l with hk | ⟨n, d, hk, hl, hd, -, -⟩
  · simp [kPartB, hk] at h
  · cases d with
    | zero => simp [kPartB, hk] at h
    | succ d =>
      have h2 := kindR_drop hk
      refine ⟨?_, rfl, by omega, ?_, ?_, ?_⟩
      · simp only [kDeep, hk, h2]; omega
      · simp only [kDeep, hk]; omega
      · simp only [kDeep, hk]; omega
      · simp only [kRefs, hk, h2]
theorem law_KindName (l : List UInt8) (h : kNameB l = true) : 64 :: (kNameV l ++ [59]) = l ∧ l.length ≤ 12 := by
  rcases kind_cases l with hk | ⟨n, d, hk, hl, hd, -, h2⟩
  · simp [kNameB, hk] at h
  · simp [kNameB, hk] at h
    obtain ⟨rfl, hn⟩ := h
    refine ⟨?_, hl⟩
    rcases h2 with ⟨_, _, h2, _⟩ | ⟨h2, _⟩
    · simp only [kNameV, hk, if_pos]; exact h2.symm
    · exact absurd h2 hn
theorem refs_len (l : List UInt8) : (kRefs l).length ≤ 1 := by
  unfold kRefs; split
  · split <;> simp
  · simp
theorem kPart_no (l : List UInt8) (h : kPartB l = false) : kPartV l = [] := by simp [kPartV, h]
theorem kPart_short (l : List UInt8) : (kPartV l).length ≤ l.length := by unfold kPartV; split <;> simp
theorem deep_cases (l : List UInt8) : kDeep l = -1 ∨ ∃ n d, kindR l = some (n, d) ∧ kDeep l = d ∧ d ≤ 12 := by
  rcases kind_cases l with hk | ⟨n, d, hk, hl, hd, -, -⟩
  · left; simp [kDeep, hk]
  · right; exact ⟨n, d, hk, by simp [kDeep, hk], by omega⟩
theorem part_deep {l n : List UInt8} {d : Nat} (h : kindR l = some (n, d)) : kPartB l = decide (d ≠ 0) ∧ kPartV l = if d = 0 then [] else l.drop 1 := by
  cases d with
  | zero => simp [kPartV, kPartB, h]
  | succ d => simp [kPartV, kPartB, h]
end Go.Proofs.Ytgaiagpfnfnnaaa.M
