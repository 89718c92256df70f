/- BytesField without any Go. -/
import Derived.Test.YtoeiohhaedabnaaM1c
namespace Go.Proofs.Ytoeiohhaedabnaa.M

theorem get_less (s : List UInt8) (h : (numGet s).2.2 = true) : (numGet s).2.1.length < s.length ∧ 0 ≤ (numGet s).1 ∧ (numGet s).1 ≤ 999999 := by
  obtain ⟨h1, h2⟩ := put_get s h
  obtain ⟨a, b⟩ := told_bd h1
  have hl : 1 ≤ (numPut (numGet s).1).length := by
    unfold numPut numBytes; rw [if_pos h1]; split
    · simp
    · split <;> simp
  refine ⟨?_, a, b⟩
  have := congrArg List.length h2
  simp at this; omega
/-- Bytes with how many they are ahead, and what is behind. -/
def takeL (s : List UInt8) : Option (List UInt8 × List UInt8) :=
  if (numGet s).2.2 = true ∧ (numGet s).1 ≤ (numGet s).2.1.length then some ((numGet s).2.1.take (numGet s).1.toNat, (numGet s).2.1.drop (numGet s).1.toNat) else none
theorem takeL_less {s p m : List UInt8} (h : takeL s = some (p, m)) : p.length ≤ s.length ∧ m.length < s.length := by
  unfold takeL at h
  split at h
  · rename_i hc
    injection h with h
    injection h with h1 h2
    have := get_less s hc.1
    subst h1 h2; simp; omega
  · cases h
/-- The bytes of a field, the tags ahead of it. -/
def fieldF : Nat → List UInt8 → Int → Int → Option (List UInt8)
  | 0, _, _, _ => none
  | f + 1, s, last, want =>
    if (numGet s).2.2 = true ∧ last < (numGet s).1 then
      match takeL (numGet s).2.1 with
      | none => none
      | some (p, m) => if (numGet s).1 = want then some p else fieldF f m (numGet s).1 want
    else none
def fieldL (s : List UInt8) (want : Int) : Option (List UInt8) := fieldF s.length s 0 want
theorem fieldF_more (f : Nat) : ∀ (s : List UInt8) (last want : Int), s.length ≤ f → fieldF f s last want = fieldF s.length s last want := by
  induction f using Nat.strongRecOn with
  | _ f ih =>
    intro s last want hs
    cases f with
    | zero => rw [show s.length = 0 by omega]
    | succ f =>
      cases hl : s.length with
      | zero =>
        have : s = [] := List.eq_nil_of_length_eq_zero hl
        subst this; rfl
      | succ n =>
        rw [fieldF, fieldF]
        split
        · rename_i hc
          have hg := get_less s hc.1
          cases ht : takeL (numGet s).2.1 with
          | none => rfl
          | some pm =>
            obtain ⟨p, m⟩ := pm
            have hm := takeL_less ht
            simp only
            split
            · rfl
            · rw [ih f (by omega) m _ _ (by omega), ih n (by omega) m _ _ (by omega)]
        · rfl
theorem fieldF_no {s : List UInt8} {last want : Int} (h : ¬ ((numGet s).2.2 = true ∧ last < (numGet s).1)) : fieldF s.length s last want = none := by
  cases hl : s.length with
  | zero => rfl
  | succ n => rw [fieldF, if_neg h]
theorem fieldF_bad {s : List UInt8} {last want : Int} (h : takeL (numGet s).2.1 = none) : fieldF s.length s last want = none := by
  cases hl : s.length with
  | zero => rfl
  | succ n => rw [fieldF]; split <;> simp [h]
theorem fieldF_here {s p m : List UInt8} {last want : Int} (h : (numGet s).2.2 = true ∧ last < (numGet s).1) (ht : takeL (numGet s).2.1 = some (p, m)) (hw : (numGet s).1 = want) : fieldF s.length s last want = some p := by
  have := get_less s h.1
  cases hl : s.length with
  | zero => omega
  | succ n => rw [fieldF, if_pos h, ht]; simp only; rw [if_pos hw]
theorem fieldF_on {s p m : List UInt8} {last want : Int} (h : (numGet s).2.2 = true ∧ last < (numGet s).1) (ht : takeL (numGet s).2.1 = some (p, m)) (hw : (numGet s).1 ≠ want) : fieldF s.length s last want = fieldF m.length m (numGet s).1 want := by
  have hg := get_less s h.1
  have hm := takeL_less ht
  cases hl : s.length with
  | zero => omega
  | succ n => rw [fieldF, if_pos h, ht]; simp only; rw [if_neg hw, fieldF_more n m _ _ (by omega)]
/-- What BytesField returns. -/
def bytesField (s : List UInt8) (tag : Int) : Option (List UInt8) := if s.length ≤ 600 ∧ 1 ≤ tag ∧ tag ≤ 200 then fieldL s tag else none
end Go.Proofs.Ytoeiohhaedabnaa.M
