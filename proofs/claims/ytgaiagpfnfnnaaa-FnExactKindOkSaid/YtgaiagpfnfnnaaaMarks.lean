/- What marks a slice that a call has made, and what finds the marks again. -/
import Derived.Test.YtgaiagpfnfnnaaaStrs
namespace Go.Proofs.Ytgaiagpfnfnnaaa
open Go.ChangeShapes Go.WideShapes Go.ChangeAt Go.RowKit M

/-- The digits of a number, ahead of what is there. -/
def digF : Nat → Int → List UInt8 → List UInt8
  | 0, _, acc => acc
  | f + 1, k, acc => if k ≤ 0 then acc else digF f (k / 10) (B8 (48 + k % 10) :: acc)
theorem digF_zero (f : Nat) (k : Int) (acc : List UInt8) (h : k ≤ 0) : digF f k acc = acc := by cases f <;> simp [digF, h]
theorem digF_step (f : Nat) (k : Int) (acc : List UInt8) (h : 0 < k) (hf : k ≤ f) : digF f k acc = digF (f - 1) (k / 10) (B8 (48 + k % 10) :: acc) := by
  cases f with
  | zero => omega
  | succ f => rw [digF, if_neg (by omega)]; rfl
/-- The mark of a number. -/
def markL (k : Int) : List UInt8 := 109 :: digF 1000000 k []

theorem markText_any (k : Int) (w : World) (h0 : 1 ≤ k) (h1 : k ≤ 1000000) :
    Calls Try.prog 38 #[.int .i64 k] w fun e w' => e = .returned (.string (S (markL k))) ∧ Below w.heap.size w w' := by
  have hc := conv1
  have hc1 := cellIs_some
  have hc2 := cellB_some
  go_enter Try.func38, Try.ntmps38
  go_wp2_with fail
  clear hc hc1 hc2
  go_loopw [0, 3] (fun i o wr => ∃ (x : Int) (f : Nat) (acc : List UInt8), 0 ≤ x ∧ x ≤ f ∧ acc.length + f ≤ 1000000 ∧ i = .int .i64 x ∧ o = .string (S acc) ∧ Hid (digF 1000000 k [] = digF f x acc) ∧ Below w.heap.size w wr) (fun i _ _ => (intOf i).toNat)
  case atStart => exact ⟨k, 1000000, [], by omega, by omega, by simp, rfl, rfl, rfl, Below.refl _ _⟩
  case round =>
    obtain ⟨x, f, acc, x0, xf, hl, rfl, rfl, hd, hb⟩ := hrel
    by_cases hlt : 0 < x
    · have a1 : x.tmod 10 = x % 10 := IntWalk.rem_in _ _ (by omega)
      have a2 : IntKind.i64.wrap (48 + x % 10) = 48 + x % 10 := IntWalk.i64_in _ (by omega)
      have a3 : IntKind.u8.wrap (48 + x % 10) = 48 + x % 10 := IntWalk.u8_in _ (by omega)
      have HS := Lib.hid (digF_step f x acc hlt xf)
      have hcat := cat_run [B8 (48 + x % 10)] acc (by simp; omega)
      have hc := conv1
      have hc1 := cellIs_some
      have hc2 := cellB_some
      go_wp2_with fail
      clear hc hc1 hc2 hcat a1 a2 a3
      go_roundw
      case rel => exact ⟨x / 10, f - 1, _, by omega, by omega, by simp; omega, by go_num, rfl, hd.out.trans HS.out, by (repeat (first | exact Below.refl _ _ | apply below_drew | apply below_draws | apply below_alloc | (refine below_trans ?_ (by assumption)) | (refine Below.trans ?_ (by assumption))))⟩
      case measure => first | (simp [intOf]; done) | (simp [intOf]; omega)
    · have HZ := Lib.hid (hd.out.trans (digF_zero f x acc (by omega)))
      have hcat := cat_run [109] acc (by simp; omega)
      go_wp2_with fail
      go_ret
      exact ⟨ret_s (by rw [markL, HZ.out]), hb⟩

/-- The first i strings marked, from k on. -/
def mix (k : Int) (i : Nat) (L : List (List UInt8)) : List (List UInt8) := ((List.range i).map fun j : Nat => markL (k + (j : Int))) ++ L.drop i
theorem mix_zero (k : Int) (L : List (List UInt8)) : mix k 0 L = L := rfl
theorem mix_len (k : Int) (i : Nat) (L : List (List UInt8)) (h : i ≤ L.length) : (mix k i L).length = L.length := by simp [mix]; omega
theorem mix_succ (k : Int) (i : Nat) (L : List (List UInt8)) (h : i < L.length) : (mix k i L).set i (markL (k + i)) = mix k (i + 1) L := by
  unfold mix
  rw [List.drop_eq_getElem_cons h, List.set_append_right _ _ (by simp), List.range_succ]
  simp only [List.length_map, List.length_range, Nat.sub_self, List.set_cons_zero, List.map_append, List.map_cons, List.map_nil, List.append_assoc, List.cons_append, List.nil_append]
theorem mix_at (k : Int) (i : Nat) (L : List (List UInt8)) (h : i < L.length) : (mix k L.length L).getD i [] = markL (k + i) := by
  unfold mix; simp [h]
theorem Strs.set {w : World} {B g n cap : Nat} {L : List (List UInt8)} (h : Strs w B (.slice (some ⟨g, 0, none⟩) n cap) L) (k : Nat) (x : List UInt8) :
    Strs (w.setCell ⟨g, k, none⟩ (.string (S x))) B (.slice (some ⟨g, 0, none⟩) n cap) (L.set k x) ∧ w.grownBy (w.setCell ⟨g, k, none⟩ (.string (S x))) (some g) := by
  obtain ⟨ao, c, hv, -, -⟩ := h.form
  obtain ⟨rfl, rfl, rfl⟩ : n = L.length ∧ cap = c ∧ ao = _ := by injection hv with h1 h2 h3; exact ⟨h2, h3, h1.symm⟩
  have := World.ownsRow.stored h k (.string (S x))
  unfold Strs
  rw [List.length_set, List.map_set]
  exact this

theorem markStringS (v : Value) (L : List (List UInt8)) (B : Nat) (k : Int) (w : World) (h : Strs w B v L) (h0 : 1 ≤ k) (h1 : k + L.length ≤ 1000000) :
    Calls Try.prog 30 #[v, .int .i64 k] w fun e w' => e = .returned (.int .i64 (k + L.length)) ∧ Strs w' B v (mix k L.length L) ∧ w.grownBy w' v.ownBlock := by
  obtain ⟨ao, cap, rfl, hc, hf⟩ := h.form
  have H := Lib.hid h; clear h
  obtain ⟨n, hn⟩ : ∃ n, L.length = n := ⟨_, rfl⟩
  rw [hn] at H h1 hc ⊢
  have HN := Lib.hid hn; clear hn
  have HF := Lib.hid hf; clear hf
  go_enter Try.func30, Try.ntmps30
  go_wp2_with fail
  go_loopw [1, 5] (fun y i wr => ∃ j : Nat, j ≤ n ∧ i = .int .i64 j ∧ y = .int .i64 (k + j) ∧ Hid (Strs wr B (.slice ao n cap) (mix k j L)) ∧ w.grownBy wr (Value.slice ao n cap).ownBlock) (fun _ i _ => n - (intOf i).toNat)
  case atStart => exact ⟨0, by omega, rfl, by simp, H.out, World.grownBy.refl _ _⟩
  case round =>
    obtain ⟨j, hj, rfl, rfl, hS, hg⟩ := hrel
    by_cases hlt : j < n
    · obtain ⟨g, rfl, hg1, hg2⟩ : ∃ g, ao = some ⟨g, 0, none⟩ ∧ B ≤ g ∧ g < w.heap.size := by
        rcases HF.out with ⟨_, h0⟩ | h0
        · have h1 := HN.out; rw [h0] at h1; simp at h1; omega
        · exact h0
      have hlm := mix_len k j L (by rw [HN.out]; omega)
      have hset := mix_succ k j L (by rw [HN.out]; omega)
      have HLM := Lib.hid hlm; clear hlm
      have HSET := Lib.hid hset; clear hset
      go_wp2_with fail
      refine (markText_any (k + j) _ (by omega) (by omega)).mono ?_
      rintro e w2 ⟨rfl, hb⟩
      have hs2 := Lib.hid (hS.out.below hb)
      have c1 := hs2.out.cell j (by rw [HLM.out, HN.out]; exact hlt)
      have c2 := hs2.out.nofreeze j
      have G := Lib.hid (hg.trans (grown_of_below hb (some g)))
      have ST := hs2.out.set j (markL (k + j))
      rw [HSET.out] at ST
      have ST' := Lib.hid ST; clear ST
      go_wp2_with fail
      clear c1 c2
      go_roundw
      case rel => exact ⟨j + 1, by omega, by go_num, by go_num, ST'.out.1, G.out.trans ST'.out.2⟩
      case measure => simp [intOf]; omega
    · obtain rfl : j = n := by omega
      go_wp2_with fail
      go_ret
      exact ⟨rfl, hS.out, hg⟩
theorem heldStringS (v : Value) (L : List (List UInt8)) (B : Nat) (k : Int) (w : World) (h : Strs w B v (mix k L.length L)) (h0 : 1 ≤ k) (h1 : k + L.length ≤ 1000000) :
    Calls Try.prog 31 #[v, .int .i64 k] w fun e w' => e = .returned (.int .i64 (k + L.length)) ∧ Below w.heap.size w w' := by
  obtain ⟨ao, cap, rfl, hc, hf⟩ := h.form
  rw [mix_len k _ L (Nat.le_refl _)] at *
  have H := Lib.hid h; clear h
  obtain ⟨n, hn⟩ : ∃ n, L.length = n := ⟨_, rfl⟩
  have HAT := Lib.hid (mix_at k)
  have HF := Lib.hid hf; clear hf
  have HML := Lib.hid (mix_len k _ L (Nat.le_refl _))
  rw [hn] at H h1 hc ⊢
  have HN := Lib.hid hn; clear hn
  go_enter Try.func31, Try.ntmps31
  go_wp2_with fail
  go_loopw [1, 5] (fun y i wr => ∃ j : Nat, j ≤ n ∧ i = .int .i64 j ∧ y = .int .i64 (k + j) ∧ Below w.heap.size w wr) (fun _ i _ => n - (intOf i).toNat)
  case atStart => exact ⟨0, by omega, rfl, by simp, Below.refl _ _⟩
  case round =>
    obtain ⟨j, hj, rfl, rfl, hb⟩ := hrel
    by_cases hlt : j < n
    · obtain ⟨g, rfl, hg1, hg2⟩ : ∃ g, ao = some ⟨g, 0, none⟩ ∧ B ≤ g ∧ g < w.heap.size := by
        rcases HF.out with ⟨_, h0⟩ | h0
        · have h2 := HML.out; rw [h0, HN.out] at h2; simp at h2; omega
        · exact h0
      have hs2 := Lib.hid (H.out.below hb)
      have c1 := hs2.out.cell j (by rw [← HN.out, HML.out, HN.out]; exact hlt)
      rw [← HN.out, HAT.out j L (by rw [HN.out]; exact hlt)] at c1
      have hg3 := Nat.lt_of_lt_of_le hg2 hb.size
      have hj0 : (0 : Int) ≤ (j : Int) := Int.natCast_nonneg _
      have hj1 : (j : Int) < (n : Int) := by omega
      go_wp2_with fail
      go_region_held3 (fun w' => w'.cell? ⟨g, j, none⟩ = some (.string (S (markL (k + j)))) ∧ g < w'.heap.size ∧ Below w.heap.size w w') (first | (refine ⟨?_, ?_, ?_⟩; go_keep; go_keep; exact below_drew hb) | (go_split_ands; refine ⟨?_, ?_, ?_⟩; (rw [hb2.cell (p := ⟨g, j, none⟩) (by assumption)]; assumption); (exact Nat.lt_of_lt_of_le (by assumption) hb2.size); (repeat (first | exact Below.refl _ _ | apply below_drew | apply below_draws | apply below_alloc | (refine below_trans ?_ (by assumption)) | (refine Below.trans ?_ (by assumption)))))) (first | (go_at_call 38; refine (markText_any (k + j) _ (by omega) (by omega)).mono ?_; rintro e w2 ⟨rfl, hb2⟩))
      all_goals
        go_wp2_with fail
        go_roundw
        case rel => exact ⟨j + 1, by omega, by go_num, by go_num, by (repeat (first | exact Below.refl _ _ | apply below_drew | apply below_draws | apply below_alloc | (refine below_trans ?_ (by assumption)) | (refine Below.trans ?_ (by assumption))))⟩
        case measure => simp [intOf]; omega
    · obtain rfl : j = n := by omega
      go_wp2_with fail
      go_ret
      exact ⟨rfl, hb⟩

/-- A row that lies below the marked one is as it was. -/
theorem Strs.marked {w w' : World} {B B1 B2 : Nat} {v g : Value} {L L' : List (List UInt8)} (h : Strs w B v L) (hlt : ∀ k, v.ownBlock = some k → k < B1) (hg : Strs w B2 g L') (hB : B1 ≤ B2) (hw : w.grownBy w' g.ownBlock) : Strs w' B v L := by
  refine World.ownsRow.kept h hw ?_
  cases hv : v.ownBlock with
  | none => exact .inl rfl
  | some k =>
    right
    intro e
    have h1 := hlt k hv
    have h2 := (World.ownsRow.lt hg k e.symm).1
    omega
theorem Strs.low {w : World} {B : Nat} {v : Value} {L : List (List UInt8)} (h : Strs w B v L) : ∀ k, v.ownBlock = some k → k < w.heap.size := fun k hk => (World.ownsRow.lt h k hk).2
theorem Strs.belowMark {w w3 w4 : World} {B : Nat} {g : Value} {L : List (List UInt8)} (h : Below w.heap.size w w3) (hg : Strs w3 B g L) (hB : w.heap.size ≤ B) (hw : w3.grownBy w4 g.ownBlock) : Below w.heap.size w w4 :=
  Below.grown h hw h.size (fun k hk => Nat.le_trans hB (World.ownsRow.lt hg k hk).1)
end Go.Proofs.Ytgaiagpfnfnnaaa
