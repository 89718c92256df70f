/- Chapter 1 without any Go: its laws. -/
import Derived.Test.YtoeiohhaedabnaaM1b
namespace Go.Proofs.Ytoeiohhaedabnaa.M

theorem at_cons_0 (a : UInt8) (r : List UInt8) : at_ (a :: r) 0 = (a.toNat : Int) := rfl
theorem at_cons_1 (a b : UInt8) (r : List UInt8) : at_ (a :: b :: r) 1 = (b.toNat : Int) := rfl
theorem at_cons_2 (a b c : UInt8) (r : List UInt8) : at_ (a :: b :: c :: r) 2 = (c.toNat : Int) := rfl
theorem told_bd {n : Int} (h : isTold n = true) : 0 ≤ n ∧ n ≤ 999999 := by simpa [isTold] using h
theorem told_mk {n : Int} (h0 : 0 ≤ n) (h1 : n ≤ 999999) : isTold n = true := by simp [isTold, h0, h1]

theorem numGet_put (n : Int) (h : isTold n = true) (more : List UInt8) : numGet (numPut n ++ more) = (n, more, true) := by
  obtain ⟨h0, h1⟩ := told_bd h
  unfold numPut
  rw [if_pos h]
  unfold numBytes
  by_cases c1 : n < 128
  · rw [if_pos c1]
    have e0 : at_ ([B8 n] ++ more) 0 = n := by rw [List.singleton_append, at_cons_0, B8_nat n h0 (by omega)]
    rw [numGet_0 _ (by simp) (by rw [e0]; exact c1), e0]; rfl
  · rw [if_neg c1]
    by_cases c2 : n < 16384
    · rw [if_pos c2]
      have e0 : at_ ([B8 (128 + n % 128), B8 (n / 128)] ++ more) 0 = 128 + n % 128 := by
        show ((B8 (128 + n % 128)).toNat : Int) = _; exact B8_nat _ (by omega) (by omega)
      have e1 : at_ ([B8 (128 + n % 128), B8 (n / 128)] ++ more) 1 = n / 128 := by
        show ((B8 (n / 128)).toNat : Int) = _; exact B8_nat _ (by omega) (by omega)
      rw [numGet_1 _ (by simp) (by rw [e0]; omega) (by rw [e1]; omega), e0, e1, if_neg (by omega)]
      have : (128 + n % 128) % 128 + n / 128 * 128 = n := by omega
      rw [this]; rfl
    · rw [if_neg c2]
      have e0 : at_ ([B8 (128 + n % 128), B8 (128 + n / 128 % 128), B8 (n / 128 / 128)] ++ more) 0 = 128 + n % 128 := by
        show ((B8 (128 + n % 128)).toNat : Int) = _; exact B8_nat _ (by omega) (by omega)
      have e1 : at_ ([B8 (128 + n % 128), B8 (128 + n / 128 % 128), B8 (n / 128 / 128)] ++ more) 1 = 128 + n / 128 % 128 := by
        show ((B8 (128 + n / 128 % 128)).toNat : Int) = _; exact B8_nat _ (by omega) (by omega)
      have e2 : at_ ([B8 (128 + n % 128), B8 (128 + n / 128 % 128), B8 (n / 128 / 128)] ++ more) 2 = n / 128 / 128 := by
        show ((B8 (n / 128 / 128)).toNat : Int) = _; exact B8_nat _ (by omega) (by omega)
      rw [numGet_2 _ (by simp) (by rw [e0]; omega) (by rw [e1]; omega) (by rw [e2]; omega), e0, e1, e2]
      have : (128 + n % 128) % 128 + (128 + n / 128 % 128) % 128 * 128 + n / 128 / 128 * 16384 = n := by omega
      rw [this, if_neg (by omega)]; rfl

theorem B8_at (l : List UInt8) (k : Nat) : B8 (at_ l k) = l.getD k 0 := B8_of _

theorem ahead_1 : ∀ (l : List UInt8), 0 < l.length → [l.getD 0 0] ++ l.drop 1 = l
  | _ :: _, _ => rfl
theorem ahead_2 : ∀ (l : List UInt8), 1 < l.length → [l.getD 0 0, l.getD 1 0] ++ l.drop 2 = l
  | _ :: _ :: _, _ => rfl
  | [_], h => by simp at h
theorem ahead_3 : ∀ (l : List UInt8), 2 < l.length → [l.getD 0 0, l.getD 1 0, l.getD 2 0] ++ l.drop 3 = l
  | _ :: _ :: _ :: _, _ => rfl
  | [_], h => by simp at h
  | [_, _], h => by simp at h
/-- Where a number is read, its bytes and what is behind are the text. -/
theorem put_get (l : List UInt8) (h : (numGet l).2.2 = true) : isTold (numGet l).1 = true ∧ numPut (numGet l).1 ++ (numGet l).2.1 = l := by
  have hex : ∃ k, k < 3 ∧ k < l.length ∧ at_ l k < 128 ∧ ∀ j, j < k → 128 ≤ at_ l j := by
    by_cases hno : ∀ k, k < 3 → k < l.length → 128 ≤ at_ l k
    · rw [numGet_no l hno] at h; cases h
    · by_cases c0 : 0 < l.length ∧ at_ l 0 < 128
      · exact ⟨0, by omega, c0.1, c0.2, by omega⟩
      · by_cases c1 : 1 < l.length ∧ at_ l 1 < 128
        · refine ⟨1, by omega, c1.1, c1.2, fun j hj => ?_⟩
          obtain rfl : j = 0 := by omega
          omega
        · by_cases c2 : 2 < l.length ∧ at_ l 2 < 128
          · refine ⟨2, by omega, c2.1, c2.2, fun j hj => ?_⟩
            obtain rfl | rfl : j = 0 ∨ j = 1 := by omega
            · omega
            · omega
          · refine (hno fun k h3 hk => ?_).elim
            obtain rfl | rfl | rfl : k = 0 ∨ k = 1 ∨ k = 2 := by omega
            all_goals omega
  obtain ⟨k, k3, hk, hlt, hb⟩ := hex
  obtain rfl | rfl | rfl : k = 0 ∨ k = 1 ∨ k = 2 := by omega
  · rw [numGet_0 l hk hlt] at h ⊢
    have h0 := at_lo l 0
    have ht := told_mk h0 (by omega)
    refine ⟨ht, ?_⟩
    dsimp only
    unfold numPut numBytes
    rw [if_pos ht, if_pos hlt, B8_at]
    exact ahead_1 l hk
  · have hb0 := hb 0 (by omega)
    have h0 := at_hi l 0
    have h1 := at_lo l 1
    rw [numGet_1 l hk hb0 hlt] at h ⊢
    by_cases hz : at_ l 1 = 0
    · rw [if_pos hz] at h; cases h
    · rw [if_neg hz]
      have ht := told_mk (n := at_ l 0 % 128 + at_ l 1 * 128) (by omega) (by omega)
      refine ⟨ht, ?_⟩
      dsimp only
      unfold numPut numBytes
      rw [if_pos ht, if_neg (by omega), if_pos (by omega), show 128 + (at_ l 0 % 128 + at_ l 1 * 128) % 128 = at_ l 0 from by omega, show (at_ l 0 % 128 + at_ l 1 * 128) / 128 = at_ l 1 from by omega, B8_at, B8_at]
      exact ahead_2 l hk
  · have hb0 := hb 0 (by omega)
    have hb1 := hb 1 (by omega)
    have h0 := at_hi l 0
    have h1 := at_hi l 1
    have h2 := at_lo l 2
    rw [numGet_2 l hk hb0 hb1 hlt] at h ⊢
    by_cases hz : at_ l 2 = 0 ∨ 999999 < at_ l 0 % 128 + at_ l 1 % 128 * 128 + at_ l 2 * 16384
    · rw [if_pos hz] at h; cases h
    · rw [if_neg hz]
      have ht := told_mk (n := at_ l 0 % 128 + at_ l 1 % 128 * 128 + at_ l 2 * 16384) (by omega) (by omega)
      refine ⟨ht, ?_⟩
      dsimp only
      unfold numPut numBytes
      rw [if_pos ht, if_neg (by omega), if_neg (by omega), show 128 + (at_ l 0 % 128 + at_ l 1 % 128 * 128 + at_ l 2 * 16384) % 128 = at_ l 0 from by omega,
        show 128 + (at_ l 0 % 128 + at_ l 1 % 128 * 128 + at_ l 2 * 16384) / 128 % 128 = at_ l 1 from by omega, show (at_ l 0 % 128 + at_ l 1 % 128 * 128 + at_ l 2 * 16384) / 128 / 128 = at_ l 2 from by omega, B8_at, B8_at, B8_at]
      exact ahead_3 l hk

theorem size_told (n : Int) : decide (0 < numSize n) = isTold n ∧ numSize n ≤ 3 ∧ 0 ≤ numSize n := by
  unfold numSize
  cases h : isTold n with
  | false => rw [if_neg (by simp)]; exact ⟨rfl, by decide, by decide⟩
  | true =>
    rw [if_pos rfl]
    split
    · exact ⟨rfl, by decide, by decide⟩
    · split
      · exact ⟨rfl, by decide, by decide⟩
      · exact ⟨rfl, by decide, by decide⟩

theorem open_fold (n : Int) (h : foldB n = true) : openB (foldV n) = true ∧ openV (foldV n) = n ∧ 0 ≤ foldV n := by
  have hb : -499999 ≤ n ∧ n ≤ 499999 := by simpa [foldB] using h
  unfold foldV
  rw [if_pos h]
  split
  · have ho : openB (-2 * n - 1) = true := by simp [openB]; omega
    refine ⟨ho, ?_, by omega⟩
    unfold openV
    rw [if_pos ho, if_pos (by omega)]; omega
  · have ho : openB (2 * n) = true := by simp [openB]; omega
    refine ⟨ho, ?_, by omega⟩
    unfold openV
    rw [if_pos ho, if_neg (by omega)]; omega
theorem fold_open (n : Int) (h : openB n = true) : foldB (openV n) = true ∧ foldV (openV n) = n := by
  have hb : 0 ≤ n ∧ n ≤ 999998 := by simpa [openB] using h
  unfold openV
  rw [if_pos h]
  split
  · have ho : foldB (-((n + 1) / 2)) = true := by simp [foldB]; omega
    refine ⟨ho, ?_⟩
    unfold foldV
    rw [if_pos ho, if_pos (by omega)]; omega
  · have ho : foldB (n / 2) = true := by simp [foldB]; omega
    refine ⟨ho, ?_⟩
    unfold foldV
    rw [if_pos ho, if_neg (by omega)]; omega
end Go.Proofs.Ytoeiohhaedabnaa.M
