/- Lemmas of this seat. -/
import Derived.Test.YtcjooeklehggaaaGreatDoorZLs
set_option linter.unusedVariables false
set_option linter.unusedSimpArgs false
set_option maxRecDepth 100000
namespace Go.Proofs.YtcjooeklehggaaaGreatDoor
open Go.ChangeShapes Go.WideShapes Go.ChangeAt Go.RowKit M
def pickV (x y p len n : Int) : Int := bits .xor .i64 (x * 131 + y * 1117 + p * 29 + p / len * 53) ((x * 131 + y * 1117 + p * 29 + p / len * 53) / 64) % n
def PickIs (v p : Int) (b : Nat) (w : World) (e : Ending) (w' : World) : Prop := e = .returned (.int .i64 v) ∧ ∃ q : Nat, w' = (w.setCell ⟨b, 1, none⟩ (.int .i64 (p + 1))).drewN q
theorem pick_mixV (n p : Int) (b : Nat) (len cap : Nat) (w : World) (blk off : Nat)
  (hb : w.cell? ⟨b, 0, none⟩ = some (.slice (some ⟨blk, off, none⟩) len cap)) (hp : w.cell? ⟨b, 1, none⟩ = some (.int .i64 p)) (hf : w.frozen? ⟨b, 1, none⟩ = false)
  (hne : blk ≠ b) (h0 : 0 ≤ p) (h1 : p ≤ 1000000) (hn : 1 ≤ n) (hn2 : n ≤ 1000000) (hlen : 0 < len) (hlen2 : len ≤ 2000) (hpl : (len : Int) ≤ p)
  (x y : Int) (hx : w.cell? ⟨blk, off + (p % len).toNat, none⟩ = some (.int .u8 x)) (hy : w.cell? ⟨blk, off + ((p * 7 + 3) % len).toNat, none⟩ = some (.int .u8 y))
  (x0 : 0 ≤ x) (x1 : x < 256) (y0 : 0 ≤ y) (y1 : y < 256) :
  Calls Tryz.prog 32 #[.pointer (some ⟨b, 0, none⟩), .int .i64 n] w (PickIs (pickV x y p len n) p b w) := by
 have hl0 : ((len : Int) == 0) = false := by simp; omega
 have r1 : 0 ≤ p % len := Int.emod_nonneg _ (by omega)
 have r2 : p % len < len := Int.emod_lt_of_pos _ (by omega)
 have r3 : 0 ≤ (p * 7 + 3) % len := Int.emod_nonneg _ (by omega)
 have r4 : (p * 7 + 3) % len < len := Int.emod_lt_of_pos _ (by omega)
 have q1 : 0 ≤ p / len := Int.ediv_nonneg (by omega) (by omega)
 have q2 : p / len ≤ p := Int.ediv_le_self _ (by omega)
 have e1 : p.tmod len = p % len := IntWalk.rem_in _ _ h0
 have e2 : IntKind.i64.wrap (p * 7) = p * 7 := IntWalk.i64_in _ (by omega)
 have e3 : IntKind.i64.wrap (p * 7 + 3) = p * 7 + 3 := IntWalk.i64_in _ (by omega)
 have e4 : (p * 7 + 3).tmod len = (p * 7 + 3) % len := IntWalk.rem_in _ _ (by omega)
 have e5 : IntKind.i64.wrap (x * 131) = x * 131 := IntWalk.i64_in _ (by omega)
 have e6 : IntKind.i64.wrap (y * 1117) = y * 1117 := IntWalk.i64_in _ (by omega)
 have e7 : IntKind.i64.wrap (x * 131 + y * 1117) = x * 131 + y * 1117 := IntWalk.i64_in _ (by omega)
 have e8 : IntKind.i64.wrap (p * 29) = p * 29 := IntWalk.i64_in _ (by omega)
 have e9 : IntKind.i64.wrap (x * 131 + y * 1117 + p * 29) = x * 131 + y * 1117 + p * 29 := IntWalk.i64_in _ (by omega)
 have e10 : p.tdiv len = p / len := Int.tdiv_eq_ediv_of_nonneg h0
 have e11 : IntKind.i64.wrap (p / len) = p / len := IntWalk.i64_in _ (by omega)
 have e12 : IntKind.i64.wrap (p / len * 53) = p / len * 53 := IntWalk.i64_in _ (by omega)
 have e13 : IntKind.i64.wrap (x * 131 + y * 1117 + p * 29 + p / len * 53) = x * 131 + y * 1117 + p * 29 + p / len * 53 := IntWalk.i64_in _ (by omega)
 have e14 : IntKind.i64.wrap x = x := IntWalk.i64_in _ (by omega)
 have e15 : IntKind.i64.wrap y = y := IntWalk.i64_in _ (by omega)
 have HV := Lib.hid (show pickV x y p len n = bits .xor .i64 (x * 131 + y * 1117 + p * 29 + p / len * 53) ((x * 131 + y * 1117 + p * 29 + p / len * 53) / 64) % n from rfl)
 generalize pickV x y p len n = V at *
 go_enter Tryz.func32, Tryz.ntmps32
 go_wp2_with fail
 go_quiet (fail)
 clear e1 e2 e3 e4 e5 e6 e7 e8 e9 e10 e11 e12 e13 e14 e15
 obtain ⟨X, hX⟩ : ∃ X, x * 131 + y * 1117 + p * 29 + p / len * 53 = X := ⟨_, rfl⟩
 have X0 : 0 ≤ X := by omega
 have X1 : X ≤ 100000000 := by omega
 rw [hX] at HV ⊢
 clear hX
 have B0 := xor_i64 X (X / 64) X0 (by omega) (by omega) (by omega)
 go_wp2
 go_ret
 exact ⟨congrArg (fun v => Ending.returned (Value.int .i64 v)) HV.out.symm, nq, rfl⟩
theorem pick_hereV (n p : Int) (b : Nat) (len cap : Nat) (w : World) (blk off : Nat)
  (hb : w.cell? ⟨b, 0, none⟩ = some (.slice (some ⟨blk, off, none⟩) len cap)) (hp : w.cell? ⟨b, 1, none⟩ = some (.int .i64 p)) (hf : w.frozen? ⟨b, 1, none⟩ = false)
  (hne : blk ≠ b) (h0 : 0 ≤ p) (h1 : p ≤ 1000000) (hn : 1 ≤ n) (hn2 : n ≤ 1000000) (hlen : 0 < len) (hlen2 : len ≤ 2000) (hpl : p < (len : Int))
  (x : Int) (hx : w.cell? ⟨blk, off + p.toNat, none⟩ = some (.int .u8 x)) (x0 : 0 ≤ x) (x1 : x < 256) :
  Calls Tryz.prog 32 #[.pointer (some ⟨b, 0, none⟩), .int .i64 n] w (PickIs (x % n) p b w) := by
 have hl0 : ((len : Int) == 0) = false := by simp; omega
 have r1 := Int.emod_nonneg x (b := n) (by omega)
 have r2 := Int.emod_lt_of_pos x (b := n) (by omega)
 go_enter Tryz.func32, Tryz.ntmps32
 go_wp2
 go_ret
 exact ⟨rfl, 0, rfl⟩
theorem pick_noneV (n p : Int) (b : Nat) (ao : Option Addr) (cap : Nat) (w : World)
  (hb : w.cell? ⟨b, 0, none⟩ = some (.slice ao 0 cap)) (hp : w.cell? ⟨b, 1, none⟩ = some (.int .i64 p)) (hf : w.frozen? ⟨b, 1, none⟩ = false)
  (h0 : 0 ≤ p) (h1 : p ≤ 1000000) (hn : 1 ≤ n) (hn2 : n ≤ 1000000) :
  Calls Tryz.prog 32 #[.pointer (some ⟨b, 0, none⟩), .int .i64 n] w (PickIs 0 p b w) := by
 go_enter Tryz.func32, Tryz.ntmps32
 go_wp2
 go_ret
 exact ⟨rfl, 0, rfl⟩
theorem pick_det {B : Nat} {w : World} {b : Nat} {ao : Option Addr} {len cap : Nat} {p : Int} (h : Rdr B w b ao len cap p) (h1 : p ≤ 1000000) (n : Int) (hn : 1 ≤ n) (hn2 : n ≤ 1000000) :
  ∃ v : Int, 0 ≤ v ∧ v < n ∧ ∀ W, Below w.heap.size w W → Calls Tryz.prog 32 #[.pointer (some ⟨b, 0, none⟩), .int .i64 n] W fun e w' => e = .returned (.int .i64 v) ∧ Hid (Rdr B w' b ao len cap (p + 1)) ∧ w'.heap.size = W.heap.size ∧
   (∀ k o, k ≠ b → w'.cell? ⟨k, o, none⟩ = W.cell? ⟨k, o, none⟩) ∧ (∀ k o, k ≠ b → w'.frozen? ⟨k, o, none⟩ = W.frozen? ⟨k, o, none⟩) ∧ Hid (W.grownBy w' (some b)) := by
 have key : ∀ v : Int, 0 ≤ v → v < n → (∀ W, Below w.heap.size w W → Calls Tryz.prog 32 #[.pointer (some ⟨b, 0, none⟩), .int .i64 n] W (PickIs v p b W)) →
   ∃ v : Int, 0 ≤ v ∧ v < n ∧ ∀ W, Below w.heap.size w W → Calls Tryz.prog 32 #[.pointer (some ⟨b, 0, none⟩), .int .i64 n] W fun e w' => e = .returned (.int .i64 v) ∧ Hid (Rdr B w' b ao len cap (p + 1)) ∧ w'.heap.size = W.heap.size ∧
    (∀ k o, k ≠ b → w'.cell? ⟨k, o, none⟩ = W.cell? ⟨k, o, none⟩) ∧ (∀ k o, k ≠ b → w'.frozen? ⟨k, o, none⟩ = W.frozen? ⟨k, o, none⟩) ∧ Hid (W.grownBy w' (some b)) := by
  intro v v0 v1 hc
  refine ⟨v, v0, v1, fun W hb => (hc W hb).mono ?_⟩
  rintro e w' ⟨rfl, q, rfl⟩
  exact ⟨rfl, (h.below hb).pick q, by simp, fun k o hk => by simp [go_sem], fun k o _ => by simp [go_sem], only_drewN (only_setCell (World.grownBy.refl _ _) (.inl rfl) _) q⟩
 obtain ⟨c0, c1, f1, base, lt, bts, short, p0⟩ := h
 have C0 : ∀ W, Below w.heap.size w W → W.cell? ⟨b, 0, none⟩ = some (.slice ao len cap) := fun W hb => by rw [← c0]; exact hb.cell (p := ⟨b, 0, none⟩) lt
 have C1 : ∀ W, Below w.heap.size w W → W.cell? ⟨b, 1, none⟩ = some (.int .i64 p) := fun W hb => by rw [← c1]; exact hb.cell (p := ⟨b, 1, none⟩) lt
 have F1 : ∀ W, Below w.heap.size w W → W.frozen? ⟨b, 1, none⟩ = false := fun W hb => by rw [← f1]; exact hb.frozen (p := ⟨b, 1, none⟩) lt
 rcases bts with rfl | ⟨blk, off, rfl, hlt, hc⟩
 ·exact key 0 (by omega) (by omega) (fun W hb => pick_noneV n p b ao cap W (C0 W hb) (C1 W hb) (F1 W hb) p0 h1 hn hn2)
 ·have CX : ∀ (i : Nat) (x : Int) W, Below w.heap.size w W → w.cell? ⟨blk, off + i, none⟩ = some (.int .u8 x) → W.cell? ⟨blk, off + i, none⟩ = some (.int .u8 x) := fun i x W hb hx => by rw [← hx]; exact hb.cell (p := ⟨blk, off + i, none⟩) (by show blk < _; omega)
  by_cases hl : len = 0
  ·subst hl; exact key 0 (by omega) (by omega) (fun W hb => pick_noneV n p b _ cap W (C0 W hb) (C1 W hb) (F1 W hb) p0 h1 hn hn2)
  ·by_cases hp : p < len
   ·obtain ⟨x, hx, x0, x1⟩ := hc p.toNat (by omega)
    exact key (x % n) (Int.emod_nonneg _ (by omega)) (Int.emod_lt_of_pos _ (by omega)) (fun W hb => pick_hereV n p b len cap W blk off (C0 W hb) (C1 W hb) (F1 W hb) (by omega) p0 h1 hn hn2 (by omega) short hp x (CX _ _ W hb hx) x0 x1)
   ·have r1 : 0 ≤ p % len := Int.emod_nonneg _ (by omega)
    have r2 : p % len < len := Int.emod_lt_of_pos _ (by omega)
    have r3 : 0 ≤ (p * 7 + 3) % len := Int.emod_nonneg _ (by omega)
    have r4 : (p * 7 + 3) % len < len := Int.emod_lt_of_pos _ (by omega)
    obtain ⟨x, hx, x0, x1⟩ := hc (p % len).toNat (by omega)
    obtain ⟨y, hy, y0, y1⟩ := hc ((p * 7 + 3) % len).toNat (by omega)
    exact key (pickV x y p len n) (Int.emod_nonneg _ (by omega)) (Int.emod_lt_of_pos _ (by omega)) (fun W hb => pick_mixV n p b len cap W blk off (C0 W hb) (C1 W hb) (F1 W hb) (by omega) p0 h1 hn hn2 (by omega) short (by omega) x y (CX _ _ W hb hx) (CX _ _ W hb hy) x0 x1 y0 y1)
end Go.Proofs.YtcjooeklehggaaaGreatDoor
