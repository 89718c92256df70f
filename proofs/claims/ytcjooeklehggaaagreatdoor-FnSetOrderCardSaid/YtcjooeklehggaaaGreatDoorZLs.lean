/- Lemmas of this seat. -/
import Derived.Test.YtcjooeklehggaaaGreatDoorZAs
import Derived.Test.YtcjooeklehggaaaGreatDoorZBs
import Derived.Test.YtcjooeklehggaaaGreatDoorZFs
set_option linter.unusedVariables false
set_option linter.unusedSimpArgs false
set_option maxRecDepth 100000
namespace Go.Proofs.YtcjooeklehggaaaGreatDoor
open Go.ChangeShapes Go.WideShapes Go.ChangeAt Go.RowKit M
theorem xor_i64 (a b : Int) (h1 : 0 ≤ a) (h2 : a < 1073741824) (h3 : 0 ≤ b) (h4 : b < 1073741824) : 0 ≤ bits .xor .i64 a b := by
 obtain ⟨A, rfl⟩ := Int.eq_ofNat_of_zero_le h1
 obtain ⟨B, rfl⟩ := Int.eq_ofNat_of_zero_le h3
 have hx : A ^^^ B < 2 ^ 30 := Nat.xor_lt_two_pow (by omega) (by omega)
 show 0 ≤ IntKind.i64.wrap ((BitVec.ofInt 64 (A : Int) ^^^ BitVec.ofInt 64 (B : Int)).toNat : Int)
 rw [BitVec.toNat_xor, ofInt_u64 A (by omega), ofInt_u64 B (by omega), IntWalk.i64_in _ (by omega)]
 omega
def PickPost (n p : Int) (b : Nat) (w : World) (e : Ending) (w' : World) : Prop :=
 ∃ (v : Int) (q : Nat), e = .returned (.int .i64 v) ∧ 0 ≤ v ∧ v < n ∧ w' = (w.setCell ⟨b, 1, none⟩ (.int .i64 (p + 1))).drewN q
theorem pick_mix (n p : Int) (b : Nat) (len cap : Nat) (w : World) (blk off : Nat)
  (hb : w.cell? ⟨b, 0, none⟩ = some (.slice (some ⟨blk, off, none⟩) len cap)) (hp : w.cell? ⟨b, 1, none⟩ = some (.int .i64 p)) (hf : w.frozen? ⟨b, 1, none⟩ = false)
  (hne : blk ≠ b) (h0 : 0 ≤ p) (h1 : p ≤ 1000000) (hn : 1 ≤ n) (hn2 : n ≤ 1000000) (hlen : 0 < len) (hlen2 : len ≤ 2000) (hpl : (len : Int) ≤ p)
  (x y : Int) (hx : w.cell? ⟨blk, off + (p % len).toNat, none⟩ = some (.int .u8 x)) (hy : w.cell? ⟨blk, off + ((p * 7 + 3) % len).toNat, none⟩ = some (.int .u8 y))
  (x0 : 0 ≤ x) (x1 : x < 256) (y0 : 0 ≤ y) (y1 : y < 256) :
  Calls Tryz.prog 32 #[.pointer (some ⟨b, 0, none⟩), .int .i64 n] w (PickPost n p b w) := by
 have hl0 : ((len : Int) == 0) = false := by simp; omega
 have r1 : 0 ≤ p % len := Int.emod_nonneg _ (by omega)
 have r2 : p % len < len := Int.emod_lt_of_pos _ (by omega)
 have r3 : 0 ≤ (p * 7 + 3) % len := Int.emod_nonneg _ (by omega)
 have r4 : (p * 7 + 3) % len < len := Int.emod_lt_of_pos _ (by omega)
 have q1 : 0 ≤ p / len := Int.ediv_nonneg (by omega) (by omega)
 have q2 : p / len ≤ p := Int.ediv_le_self _ (by omega)
 have e1 : p.tmod len = p % len := IntWalk.rem_in _ _ h0
 have e2 : IntKind.i64.wrap (p * 7) = p * 7 := IntWalk.i64_in _ (by omega)
 have e3 : IntKind.i64.wrap (p * 7 + 3) = p * 7 + 3 := IntWalk.i64_in _ (by omega)
 have e4 : (p * 7 + 3).tmod len = (p * 7 + 3) % len := IntWalk.rem_in _ _ (by omega)
 have e5 : IntKind.i64.wrap (x * 131) = x * 131 := IntWalk.i64_in _ (by omega)
 have e6 : IntKind.i64.wrap (y * 1117) = y * 1117 := IntWalk.i64_in _ (by omega)
 have e7 : IntKind.i64.wrap (x * 131 + y * 1117) = x * 131 + y * 1117 := IntWalk.i64_in _ (by omega)
 have e8 : IntKind.i64.wrap (p * 29) = p * 29 := IntWalk.i64_in _ (by omega)
 have e9 : IntKind.i64.wrap (x * 131 + y * 1117 + p * 29) = x * 131 + y * 1117 + p * 29 := IntWalk.i64_in _ (by omega)
 have e10 : p.tdiv len = p / len := Int.tdiv_eq_ediv_of_nonneg h0
 have e11 : IntKind.i64.wrap (p / len) = p / len := IntWalk.i64_in _ (by omega)
 have e12 : IntKind.i64.wrap (p / len * 53) = p / len * 53 := IntWalk.i64_in _ (by omega)
 have e13 : IntKind.i64.wrap (x * 131 + y * 1117 + p * 29 + p / len * 53) = x * 131 + y * 1117 + p * 29 + p / len * 53 := IntWalk.i64_in _ (by omega)
 have e14 : IntKind.i64.wrap x = x := IntWalk.i64_in _ (by omega)
 have e15 : IntKind.i64.wrap y = y := IntWalk.i64_in _ (by omega)
 go_enter Tryz.func32, Tryz.ntmps32
 go_wp2_with fail
 go_quiet (fail)
 clear e1 e2 e3 e4 e5 e6 e7 e8 e9 e10 e11 e12 e13 e14 e15
 obtain ⟨X, hX⟩ : ∃ X, x * 131 + y * 1117 + p * 29 + p / len * 53 = X := ⟨_, rfl⟩
 have X0 : 0 ≤ X := by omega
 have X1 : X ≤ 100000000 := by omega
 rw [hX]
 clear hX
 have B0 := xor_i64 X (X / 64) X0 (by omega) (by omega) (by omega)
 go_wp2
 go_ret
 refine ⟨_, nq, rfl, ?_, ?_, rfl⟩
 ·exact Int.emod_nonneg _ (by omega)
 ·exact Int.emod_lt_of_pos _ (by omega)
theorem pick_here (n p : Int) (b : Nat) (len cap : Nat) (w : World) (blk off : Nat)
  (hb : w.cell? ⟨b, 0, none⟩ = some (.slice (some ⟨blk, off, none⟩) len cap)) (hp : w.cell? ⟨b, 1, none⟩ = some (.int .i64 p)) (hf : w.frozen? ⟨b, 1, none⟩ = false)
  (hne : blk ≠ b) (h0 : 0 ≤ p) (h1 : p ≤ 1000000) (hn : 1 ≤ n) (hn2 : n ≤ 1000000) (hlen : 0 < len) (hlen2 : len ≤ 2000) (hpl : p < (len : Int))
  (x : Int) (hx : w.cell? ⟨blk, off + p.toNat, none⟩ = some (.int .u8 x)) (x0 : 0 ≤ x) (x1 : x < 256) :
  Calls Tryz.prog 32 #[.pointer (some ⟨b, 0, none⟩), .int .i64 n] w (PickPost n p b w) := by
 have hl0 : ((len : Int) == 0) = false := by simp; omega
 have r1 := Int.emod_nonneg x (b := n) (by omega)
 have r2 := Int.emod_lt_of_pos x (b := n) (by omega)
 go_enter Tryz.func32, Tryz.ntmps32
 go_wp2
 go_ret
 exact ⟨_, 0, rfl, r1, r2, rfl⟩
theorem pick_none (n p : Int) (b : Nat) (ao : Option Addr) (cap : Nat) (w : World)
  (hb : w.cell? ⟨b, 0, none⟩ = some (.slice ao 0 cap)) (hp : w.cell? ⟨b, 1, none⟩ = some (.int .i64 p)) (hf : w.frozen? ⟨b, 1, none⟩ = false)
  (h0 : 0 ≤ p) (h1 : p ≤ 1000000) (hn : 1 ≤ n) (hn2 : n ≤ 1000000) :
  Calls Tryz.prog 32 #[.pointer (some ⟨b, 0, none⟩), .int .i64 n] w (PickPost n p b w) := by
 go_enter Tryz.func32, Tryz.ntmps32
 go_wp2
 go_ret
 exact ⟨0, 0, rfl, by omega, by omega, rfl⟩
def Bts (w : World) (ao : Option Addr) (len : Nat) (B : Nat) : Prop :=
 len = 0 ∨ ∃ blk off, ao = some ⟨blk, off, none⟩ ∧ blk < B ∧ ∀ i, i < len → ∃ x : Int, w.cell? ⟨blk, off + i, none⟩ = some (.int .u8 x) ∧ 0 ≤ x ∧ x < 256
structure Rdr (B : Nat) (w : World) (b : Nat) (ao : Option Addr) (len cap : Nat) (p : Int) : Prop where
 c0 : w.cell? ⟨b, 0, none⟩ = some (.slice ao len cap)
 c1 : w.cell? ⟨b, 1, none⟩ = some (.int .i64 p)
 f1 : w.frozen? ⟨b, 1, none⟩ = false
 base : B ≤ b
 lt : b < w.heap.size
 bts : Bts w ao len B
 short : len ≤ 2000
 p0 : 0 ≤ p
theorem pick_any {B : Nat} {w : World} {b : Nat} {ao : Option Addr} {len cap : Nat} {p : Int} (h : Rdr B w b ao len cap p) (h1 : p ≤ 1000000) (n : Int) (hn : 1 ≤ n) (hn2 : n ≤ 1000000) :
  Calls Tryz.prog 32 #[.pointer (some ⟨b, 0, none⟩), .int .i64 n] w (PickPost n p b w) := by
 obtain ⟨c0, c1, f1, base, lt, bts, short, p0⟩ := h
 rcases bts with rfl | ⟨blk, off, rfl, hlt, hc⟩
 ·exact pick_none n p b ao cap w c0 c1 f1 p0 h1 hn hn2
 ·by_cases hl : len = 0
  ·subst hl; exact pick_none n p b _ cap w c0 c1 f1 p0 h1 hn hn2
  ·by_cases hp : p < len
   ·obtain ⟨x, hx, x0, x1⟩ := hc p.toNat (by omega)
    exact pick_here n p b len cap w blk off c0 c1 f1 (by omega) p0 h1 hn hn2 (by omega) short hp x hx x0 x1
   ·have r1 : 0 ≤ p % len := Int.emod_nonneg _ (by omega)
    have r2 : p % len < len := Int.emod_lt_of_pos _ (by omega)
    have r3 : 0 ≤ (p * 7 + 3) % len := Int.emod_nonneg _ (by omega)
    have r4 : (p * 7 + 3) % len < len := Int.emod_lt_of_pos _ (by omega)
    obtain ⟨x, hx, x0, x1⟩ := hc (p % len).toNat (by omega)
    obtain ⟨y, hy, y0, y1⟩ := hc ((p * 7 + 3) % len).toNat (by omega)
    exact pick_mix n p b len cap w blk off c0 c1 f1 (by omega) p0 h1 hn hn2 (by omega) short (by omega) x y hx hy x0 x1 y0 y1
theorem Bts.below {w w' : World} {ao : Option Addr} {len B : Nat} (h : Bts w ao len B) (hb : Below B w w') : Bts w' ao len B := by
 rcases h with h | ⟨blk, off, rfl, hlt, hc⟩
 ·exact .inl h
 ·refine .inr ⟨blk, off, rfl, hlt, fun i hi => ?_⟩
  obtain ⟨x, hx, x0, x1⟩ := hc i hi
  exact ⟨x, by rw [← hx]; exact hb.cell (p := ⟨blk, off + i, none⟩) hlt, x0, x1⟩
theorem Rdr.below {B : Nat} {w w' : World} {b : Nat} {ao : Option Addr} {len cap : Nat} {p : Int} (h : Rdr B w b ao len cap p) (hb : Below w.heap.size w w') : Rdr B w' b ao len cap p :=
  ⟨by rw [← h.c0]; exact hb.cell (p := ⟨b, 0, none⟩) h.lt, by rw [← h.c1]; exact hb.cell (p := ⟨b, 1, none⟩) h.lt, by rw [← h.f1]; exact hb.frozen (p := ⟨b, 1, none⟩) h.lt, h.base, Nat.lt_of_lt_of_le h.lt hb.size,
   h.bts.below (hb.mono (Nat.le_of_lt (Nat.lt_of_le_of_lt h.base h.lt))), h.short, h.p0⟩
theorem Rdr.pick {B : Nat} {w : World} {b : Nat} {ao : Option Addr} {len cap : Nat} {p : Int} (h : Rdr B w b ao len cap p) (q : Nat) : Rdr B ((w.setCell ⟨b, 1, none⟩ (.int .i64 (p + 1))).drewN q) b ao len cap (p + 1) := by
 have hb : Below B w ((w.setCell ⟨b, 1, none⟩ (.int .i64 (p + 1))).drewN q) := below_drewN ((Below.refl _ _).setCell h.base _) q
 have c0 := h.c0
 have c1 := h.c1
 have f1 := h.f1
 refine ⟨?_, ?_, ?_, h.base, ?_, h.bts.below hb, h.short, by have := h.p0; omega⟩
 ·simp [go_sem, c0]
 ·simp [go_sem, c1]
 ·simp [go_sem, f1]
 ·have := h.lt; simpa using this
theorem pick_abs {B : Nat} {w : World} {b : Nat} {ao : Option Addr} {len cap : Nat} {p : Int} (h : Rdr B w b ao len cap p) (h1 : p ≤ 1000000) (n : Int) (hn : 1 ≤ n) (hn2 : n ≤ 1000000) :
  Calls Tryz.prog 32 #[.pointer (some ⟨b, 0, none⟩), .int .i64 n] w fun e w' => ∃ v : Int, e = .returned (.int .i64 v) ∧ 0 ≤ v ∧ v < n ∧ Hid (Rdr B w' b ao len cap (p + 1)) ∧ w'.heap.size = w.heap.size ∧
   (∀ k o, k ≠ b → w'.cell? ⟨k, o, none⟩ = w.cell? ⟨k, o, none⟩) ∧ (∀ k o, k ≠ b → w'.frozen? ⟨k, o, none⟩ = w.frozen? ⟨k, o, none⟩) ∧ Below B w w' := by
 refine (pick_any h h1 n hn hn2).mono ?_
 rintro e w' ⟨v, q, rfl, v0, v1, rfl⟩
 refine ⟨v, rfl, v0, v1, h.pick q, by simp, fun k o hk => by simp [go_sem], fun k o _ => by simp [go_sem], below_drewN ((Below.refl _ _).setCell h.base _) q⟩
theorem l6open_none (cap : Nat) (w : World) (ao : Option Addr) :
  Calls Tryz.prog 29 #[.slice ao 0 cap] w fun e w' => e = .returned (.pointer (some ⟨w.heap.size, 0, none⟩)) ∧ w' = w.alloc (.cells #[.slice ao 0 cap, .int .i64 0] 105) := by
 go_enter Tryz.func29, Tryz.ntmps29
 go_wp2
 go_ret
 exact ⟨rfl, rfl⟩
theorem l6open_short (len cap : Nat) (w : World) (blk off : Nat) (hlen : len ≤ 2000) :
  Calls Tryz.prog 29 #[.slice (some ⟨blk, off, none⟩) len cap] w fun e w' => e = .returned (.pointer (some ⟨w.heap.size, 0, none⟩)) ∧ w' = w.alloc (.cells #[.slice (some ⟨blk, off, none⟩) len cap, .int .i64 0] 105) := by
 go_enter Tryz.func29, Tryz.ntmps29
 go_wp2
 go_ret
 exact ⟨rfl, rfl⟩
theorem l6open_long (len cap : Nat) (w : World) (blk off : Nat) (hlen : 2000 < len) (hcap : len ≤ cap) :
  Calls Tryz.prog 29 #[.slice (some ⟨blk, off, none⟩) len cap] w fun e w' => e = .returned (.pointer (some ⟨w.heap.size, 0, none⟩)) ∧ w' = w.alloc (.cells #[.slice (some ⟨blk, off, none⟩) 2000 cap, .int .i64 0] 105) := by
 have h2 : 2000 ≤ cap := by omega
 go_enter Tryz.func29, Tryz.ntmps29
 go_wp2
 go_ret
 exact ⟨rfl, rfl⟩
theorem row_bts {w : World} {ao : Option Addr} {len cap : Nat} {z : List Int} (h : IsRow .u8 w ao len cap z) : len ≤ cap ∧ (len = 0 ∨ ∃ blk off, ao = some ⟨blk, off, none⟩ ∧ blk < w.heap.size ∧ ∀ i, i < len → ∃ x : Int, w.cell? ⟨blk, off + i, none⟩ = some (.int .u8 x) ∧ 0 ≤ x ∧ x < 256) := by
 rcases h with ⟨rfl, rfl, rfl, rfl⟩ | ⟨x, rfl, hl, hm, hz, hcell, hwz⟩
 ·exact ⟨Nat.le_refl _, .inl rfl⟩
 ·refine ⟨hl, ?_⟩
  by_cases h0 : len = 0
  ·exact .inl h0
  ·obtain ⟨b, off, spot⟩ := x
   have hc := hcell 0 (by omega)
   have hspot : spot = none := by simpa [Addr.add] using World.cell?_spot hc
   subst hspot
   refine .inr ⟨b, off, rfl, World.block_lt_of_cell? w _ hc, fun i hi => ⟨z.getD i 0, ?_, ?_⟩⟩
   ·have := hcell i (by omega)
    rwa [Addr.add_lit] at this
   ·have := range_u8 hwz i
    rw [List.getD_eq_getElem?_getD]
    omega
theorem l6open_any {w : World} {ao : Option Addr} {len cap : Nat} {z : List Int} (h : IsRow .u8 w ao len cap z) :
  Calls Tryz.prog 29 #[.slice ao len cap] w fun e w' => ∃ len', e = .returned (.pointer (some ⟨w.heap.size, 0, none⟩)) ∧ Rdr w.heap.size (w.alloc (.cells #[.slice ao len' cap, .int .i64 0] 105)) w.heap.size ao len' cap 0 ∧ w' = w.alloc (.cells #[.slice ao len' cap, .int .i64 0] 105) := by
 have mk : ∀ len', len' ≤ 2000 → Bts w ao len' w.heap.size → Rdr w.heap.size (w.alloc (.cells #[.slice ao len' cap, .int .i64 0] 105)) w.heap.size ao len' cap 0 := fun len' hl hb =>
  ⟨by simp [go_sem], by simp [go_sem], by simp [go_sem], Nat.le_refl _, by simp, hb.below (below_alloc (Below.refl _ _) _), hl, by omega⟩
 obtain ⟨hlc, h | ⟨blk, off, rfl, hlt, hc⟩⟩ := row_bts h
 ·subst h
  exact (l6open_none cap w ao).mono fun e w' ⟨he, hw⟩ => ⟨0, he, mk 0 (by omega) (.inl rfl), hw⟩
 ·by_cases hs : len ≤ 2000
  ·exact (l6open_short len cap w blk off hs).mono fun e w' ⟨he, hw⟩ => ⟨len, he, mk len hs (.inr ⟨blk, off, rfl, hlt, hc⟩), hw⟩
  ·exact (l6open_long len cap w blk off (by omega) hlc).mono fun e w' ⟨he, hw⟩ => ⟨2000, he, mk 2000 (by omega) (.inr ⟨blk, off, rfl, hlt, fun i hi => hc i (by omega)⟩), hw⟩
theorem idxS (l : List (List UInt8)) (v : Int) (h0 : 0 ≤ v) (h1 : v < l.length) : ∃ x, x ∈ l ∧ ∀ h, (l.map fun s => Value.string (S s))[v.toNat]'h = .string (S x) :=
 ⟨l[v.toNat]'(by omega), List.getElem_mem _, fun h => by rw [List.getElem_map]⟩
theorem only_drewN {a w : World} {row : Option Nat} (h : a.grownBy w row) (n : Nat) : a.grownBy (w.drewN n) row := ⟨h.os, h.tape, h.output, h.size, h.block⟩
theorem only_alloc {a w : World} {row : Option Nat} (h : a.grownBy w row) (o : Obj) : a.grownBy (w.alloc o) row :=
 ⟨h.os, h.tape, h.output, Nat.le_trans h.size (by simp), fun i hi hne => (Below.heap_alloc w o i (Nat.lt_of_lt_of_le hi h.size)).trans (h.block i hi hne)⟩
theorem only_setCell {a w : World} {g : Nat} (h : a.grownBy w (some g)) {p : Addr} (hp : p.block = g ∨ a.heap.size ≤ p.block) (u : Value) : a.grownBy (w.setCell p u) (some g) :=
 ⟨h.os, h.tape, h.output, by simpa [World.setCell] using h.size, fun i hi hne => (Below.heap_setCell w p u i (by
  rintro rfl
  rcases hp with hp | hp
  ·exact hne (by rw [hp])
  ·omega)).trans (h.block i hi hne)⟩
theorem only_trans {a x y : World} {row : Option Nat} (h : a.grownBy x row) (k : x.grownBy y row) : a.grownBy y row := h.trans k
theorem below_of_only {w w' : World} {b B : Nat} (h : w.grownBy w' (some b)) (hb : B ≤ b) (hw : B ≤ w.heap.size) : Below B w w' :=
 ⟨h.os, h.tape, h.output, h.size, fun i hi => h.block i (by omega) (by intro e; injection e with e; omega)⟩
theorem pick_g {B : Nat} {w : World} {b : Nat} {ao : Option Addr} {len cap : Nat} {p : Int} (h : Rdr B w b ao len cap p) (h1 : p ≤ 1000000) (n : Int) (hn : 1 ≤ n) (hn2 : n ≤ 1000000) :
  Calls Tryz.prog 32 #[.pointer (some ⟨b, 0, none⟩), .int .i64 n] w fun e w' => ∃ v : Int, e = .returned (.int .i64 v) ∧ 0 ≤ v ∧ v < n ∧ Hid (Rdr B w' b ao len cap (p + 1)) ∧ w'.heap.size = w.heap.size ∧
   (∀ k o, k ≠ b → w'.cell? ⟨k, o, none⟩ = w.cell? ⟨k, o, none⟩) ∧ (∀ k o, k ≠ b → w'.frozen? ⟨k, o, none⟩ = w.frozen? ⟨k, o, none⟩) ∧ Hid (w.grownBy w' (some b)) := by
 refine (pick_any h h1 n hn hn2).mono ?_
 rintro e w' ⟨v, q, rfl, v0, v1, rfl⟩
 refine ⟨v, rfl, v0, v1, h.pick q, by simp, fun k o hk => by simp [go_sem], fun k o _ => by simp [go_sem], ?_⟩
 exact only_drewN (only_setCell (World.grownBy.refl _ _) (.inl rfl) _) q
def DrawS (B b : Nat) (ao : Option Addr) (len cap : Nat) (p dp : Int) (N : Nat) (w : World) (e : Ending) (w' : World) : Prop :=
 ∃ (l : List UInt8) (p' : Int), e = .returned (.string (S l)) ∧ l.length ≤ N ∧ p ≤ p' ∧ p' ≤ p + dp ∧ Hid (Rdr B w' b ao len cap p') ∧ w.grownBy w' (some b)
theorem l91Kind {B : Nat} {w : World} {b : Nat} {ao : Option Addr} {len cap : Nat} {p : Int} (h : Rdr B w b ao len cap p) (h1 : p ≤ 900000) :
  Calls Tryz.prog 68 #[.pointer (some ⟨b, 0, none⟩)] w (DrawS B b ao len cap p 8 20 w) := by
 have H := Lib.hid h
 have hlt := h.lt
 clear h
 have n0 : ¬ w.heap.size = b := by omega
 go_enter Tryz.func68, Tryz.ntmps68
 go_wp2_with fail
 refine (pick_g (H.out.below (by (repeat (first | exact Below.refl _ _ | apply below_drew | apply below_draws | apply below_alloc | (refine below_trans ?_ (by assumption)) | (refine Below.trans ?_ (by assumption)))))) (by omega) _ (by omega) (by omega)).mono ?_
 rintro e w1 ⟨v, rfl, v0, v1, HR1, hz1, hc1, hf1, hg1⟩
 obtain ⟨x, hx, hx'⟩ := idxS [[110], [116], [102], [110], [116], [64, 97, 59], [64, 98, 59], [64, 99, 59]] v v0 v1
 have hx2 : ∀ h, ([.string { data := #[110] }, .string { data := #[116] }, .string { data := #[102] }, .string { data := #[110] }, .string { data := #[116] }, .string { data := #[64, 97, 59] }, .string { data := #[64, 98, 59] }, .string { data := #[64, 99, 59] }] : List Value)[v.toNat]'h = .string (S x) := hx'
 have hxl : x.length ≤ 3 := by simp at hx; rcases hx with rfl | rfl | rfl | rfl | rfl | rfl | rfl | rfl <;> simp
 clear hx hx'
 go_wp2_with fail
 clear hx2
 refine (pick_g (HR1.out.below (by (repeat (first | exact Below.refl _ _ | apply below_drew | apply below_draws | apply below_alloc | (refine below_trans ?_ (by assumption)) | (refine Below.trans ?_ (by assumption)))))) (by omega) _ (by omega) (by omega)).mono ?_
 rintro e w2 ⟨k, rfl, k0, k1, HR2, hz2, hc2, hf2, hg2⟩
 have HG2 := Lib.hid (only_trans (only_trans (only_alloc (World.grownBy.refl w _) _) hg1.out) hg2.out)
 have hs2 : w.heap.size < w2.heap.size := by simp [hz2, hz1]
 clear hg1 hg2 hc1 hf1 hc2 hf2 hz1 hz2 HR1
 go_wp2_with fail
 go_loopw [3, 4] (fun s i wr => ∃ (l : List UInt8) (j q : Int), s = .string (S l) ∧ i = .int .i64 j ∧ j ≤ 3 ∧ 0 ≤ j ∧ l.length + j ≤ 10 ∧ p ≤ q ∧ q + j ≤ p + 5 ∧ Hid (Rdr B wr b ao len cap q) ∧ Hid (w.grownBy wr (some b)) ∧ b < wr.heap.size) (fun _ i _ => (intOf i).toNat)
 case atStart => exact ⟨x, k, p + 1 + 1, rfl, rfl, by omega, by omega, by omega, by omega, by omega, HR2, HG2.out, by omega⟩
 case round =>
  obtain ⟨l, j, q, rfl, rfl, j3, j0, hl, q0, q1, HQ, HG, hb⟩ := hrel
  by_cases hj : 1 < j
  ·have n1 : ¬ wr.heap.size = b := by omega
   go_wp2_with fail
   refine (pick_g (HQ.out.below (by (repeat (first | exact Below.refl _ _ | apply below_drew | apply below_draws | apply below_alloc | (refine below_trans ?_ (by assumption)) | (refine Below.trans ?_ (by assumption)))))) (by omega) _ (by omega) (by omega)).mono ?_
   rintro e w3 ⟨v, rfl, v0, v1, HR3, hz3, hc3, hf3, hg3⟩
   obtain ⟨y, hy, hy'⟩ := idxS [[91], [63], [91]] v v0 v1
   have hy2 : ∀ h, ([.string { data := #[91] }, .string { data := #[63] }, .string { data := #[91] }] : List Value)[v.toNat]'h = .string (S y) := hy'
   have hyl : y.length ≤ 1 := by simp at hy; rcases hy with rfl | rfl | rfl <;> simp
   clear hy hy'
   have hcat := cat_run y l (by omega)
   have HG3 := Lib.hid (only_trans (only_trans HG.out (only_alloc (World.grownBy.refl wr _) _)) hg3.out)
   go_wp2_with fail
   clear hy2 hcat
   go_roundw
   case rel => exact ⟨_, j - 1, q + 1, rfl, by go_num, by omega, by omega, by simp; omega, by omega, by omega, HR3, HG3.out, by simp [hz3]; omega⟩
   case measure => simp [intOf]; omega
  ·have n1 : ¬ wr.heap.size = b := by omega
   go_wp2_with fail
   refine (pick_g (HQ.out.below (by (repeat (first | exact Below.refl _ _ | apply below_drew | apply below_draws | apply below_alloc | (refine below_trans ?_ (by assumption)) | (refine Below.trans ?_ (by assumption)))))) (by omega) _ (by omega) (by omega)).mono ?_
   rintro e w3 ⟨v, rfl, v0, v1, HR3, hz3, hc3, hf3, hg3⟩
   have n2 : ¬ w3.heap.size = b := by omega
   have HG3 := Lib.hid (only_trans HG.out hg3.out)
   by_cases hv : v = 0
   ·subst hv
    go_wp2_with fail
    refine (pick_g (HR3.out.below (by (repeat (first | exact Below.refl _ _ | apply below_drew | apply below_draws | apply below_alloc | (refine below_trans ?_ (by assumption)) | (refine Below.trans ?_ (by assumption)))))) (by omega) _ (by omega) (by omega)).mono ?_
    rintro e w4 ⟨u, rfl, u0, u1, HR4, hz4, hc4, hf4, hg4⟩
    obtain ⟨y, hy, hy'⟩ := idxS [[], [120], [64, 59], [64, 65, 59], [91], [63, 63, 63, 63, 63, 63, 63, 63, 63, 63, 63, 63, 63, 63, 110], [64, 97], [110, 110]] u u0 u1
    have hy2 : ∀ h, ([.string { data := #[] }, .string { data := #[120] }, .string { data := #[64, 59] }, .string { data := #[64, 65, 59] }, .string { data := #[91] }, .string { data := #[63, 63, 63, 63, 63, 63, 63, 63, 63, 63, 63, 63, 63, 63, 110] }, .string { data := #[64, 97] }, .string { data := #[110, 110] }] : List Value)[u.toNat]'h = .string (S y) := hy'
    have hyl : y.length ≤ 15 := by simp at hy; rcases hy with rfl | rfl | rfl | rfl | rfl | rfl | rfl | rfl <;> simp
    clear hy hy'
    have HG4 := Lib.hid (only_trans (only_trans HG3.out (only_alloc (World.grownBy.refl w3 _) _)) hg4.out)
    go_wp2_with fail
    go_ret
    exact ⟨y, q + 1 + 1, rfl, by omega, by omega, by omega, HR4, HG4.out⟩
   ·have hv' : (v == 0) = false := by simp [hv]
    clear hv
    go_wp2_with fail
    go_ret
    exact ⟨l, q + 1, rfl, by omega, by omega, by omega, HR3, HG3.out⟩
theorem only_below {a x y : World} {row : Option Nat} (h : a.grownBy x row) (k : Below x.heap.size x y) : a.grownBy y row := h.trans (grown_of_below k row)
set_option maxHeartbeats 8000000 in
theorem l91Field {B : Nat} {w : World} {b : Nat} {ao : Option Addr} {len cap : Nat} {p : Int} (so nm : Bs) (tag : Int) (hso : so = [82] ∨ so = [85] ∨ so = [69]) (hnm : nm.length ≤ 3) (t0 : 0 ≤ tag) (t1 : tag < 1000) (h : Rdr B w b ao len cap p) (h1 : p ≤ 800000) :
  Calls Tryz.prog 87 #[.pointer (some ⟨b, 0, none⟩), .string (S so), .int .i64 tag, .string (S nm)] w (DrawS B b ao len cap p 12 60 w) := by
 have H := Lib.hid h
 have hlt := h.lt
 have HD := Lib.hid (k_l6Dec tag.toNat tag w (Nat.le_refl _) t0 (by omega))
 have hdl : (dec tag).length ≤ 3 := decN_len3 _ (by omega)
 generalize dec tag = dt at *
 clear h
 have n0 : ¬ w.heap.size = b := by omega
 have hcat1 := cat_run dt [58] (by simp; omega)
 have hcat2 := cat_run (dt ++ [58]) nm (by simp; omega)
 go_enter Tryz.func87, Tryz.ntmps87
 go_wp2_with fail
 refine HD.out.mono ?_
 rintro e w1 ⟨rfl, hb1⟩
 have HR1 := Lib.hid (H.out.below hb1)
 have HG1 := Lib.hid (grown_of_below hb1 (some b))
 have hlt1 : b < w1.heap.size := by have := hb1.size; omega
 obtain ⟨s1, hs1⟩ : ∃ s1 : Bs, dt ++ [58] ++ nm = s1 := ⟨_, rfl⟩
 have hs1l : s1.length ≤ 7 := by rw [← hs1]; simp; omega
 rw [hs1] at hcat2
 clear hb1 HD H
 rcases hso with rfl | rfl | rfl
 ·go_wp2_with fail
  refine (l91Kind HR1.out (by omega)).mono ?_
  rintro e w2 ⟨k, p2, rfl, hkl, hp1, hp2, HR2, hg2⟩
  have HG2 := Lib.hid (only_trans HG1.out hg2)
  have hlt2 := HR2.out.lt
  have hcat3 := cat_run s1 [58] (by simp; omega)
  have hcat4 := cat_run (s1 ++ [58]) k (by simp; omega)
  obtain ⟨s2, hs2⟩ : ∃ s2 : Bs, s1 ++ [58] ++ k = s2 := ⟨_, rfl⟩
  have hs2l : s2.length ≤ 28 := by rw [← hs2]; simp; omega
  rw [hs2] at hcat4
  clear hg2 hcat1 hcat2
  go_wp2_with fail
  clear hcat3 hcat4
  refine (pick_g HR2.out (by omega) _ (by omega) (by omega)).mono ?_
  rintro e w3 ⟨v, rfl, v0, v1, HR3, hz3, hc3, hf3, hg3⟩
  have HG3 := Lib.hid (only_trans HG2.out hg3.out)
  have n3 : ¬ w3.heap.size = b := by have := HR3.out.lt; omega
  by_cases hv : v = 0
  case neg =>
   have hv' : (v == 0) = false := by simp [hv]
   clear hv
   go_wp2_with fail
   go_ret
   exact ⟨s2, p2 + 1, rfl, by omega, by omega, by omega, HR3, HG3.out⟩
  subst hv
  clear hc3 hf3 hg3 hz3
  cases hk1 : (k == [110]) with
  | true =>
   obtain rfl : k = [110] := by simpa using hk1
   clear hk1
   have hcat5 := cat_run s2 [61] (by simp; omega)
   go_wp2_with fail
   refine (pick_g (HR3.out.below (by (repeat (first | exact Below.refl _ _ | apply below_drew | apply below_draws | apply below_alloc | (refine below_trans ?_ (by assumption)) | (refine Below.trans ?_ (by assumption)))))) (by omega) _ (by omega) (by omega)).mono ?_
   rintro e w4 ⟨u, rfl, u0, u1, HR4, hz4, hc4, hf4, hg4⟩
   have HG4 := Lib.hid (only_trans (only_alloc HG3.out _) hg4.out)
   have d0 : u.tdiv 2 = u / 2 := Int.tdiv_eq_ediv_of_nonneg u0
   have d1 : IntKind.i64.wrap (u / 2) = u / 2 := IntWalk.i64_in _ (by omega)
   have d2 : (u / 2).tmod 4 = u / 2 % 4 := IntWalk.rem_in _ _ (by omega)
   have d3 : IntKind.i64.wrap (u / 2 % 4) = u / 2 % 4 := IntWalk.i64_in _ (by omega)
   obtain ⟨x, hx⟩ : ∃ x, u / 2 % 4 = x := ⟨_, rfl⟩
   have x0 : 0 ≤ x := by omega
   have x1 : x < 4 := by omega
   rw [hx] at d2 d3
   obtain ⟨y, hy, hy'⟩ := idxS [[53], [55, 55], [57, 57, 57, 57, 57, 57], [48]] x x0 x1
   have hy2 : ∀ h, ([.string { data := #[53] }, .string { data := #[55, 55] }, .string { data := #[57, 57, 57, 57, 57, 57] }, .string { data := #[48] }] : List Value)[x.toNat]'h = .string (S y) := hy'
   have hyl : y.length ≤ 6 := by simp at hy; rcases hy with rfl | rfl | rfl | rfl <;> simp
   have hcat6 := cat_run (s2 ++ [61]) y (by simp; omega)
   clear hy hy' hx
   go_wp2_with fail
   go_ret
   exact ⟨_, p2 + 1 + 1, rfl, by simp; omega, by omega, by omega, HR4, HG4.out⟩
  | false =>
   have hn1 : k ≠ [110] := by simpa using hk1
   cases hk2 : (k == [116]) with
   | true =>
    obtain rfl : k = [116] := by simpa using hk2
    clear hk1 hk2 hn1
    have hcat5 := cat_run s2 [61, 39] (by simp; omega)
    go_wp2_with fail
    refine (pick_g (HR3.out.below (by (repeat (first | exact Below.refl _ _ | apply below_drew | apply below_draws | apply below_alloc | (refine below_trans ?_ (by assumption)) | (refine Below.trans ?_ (by assumption)))))) (by omega) _ (by omega) (by omega)).mono ?_
    rintro e w4 ⟨u, rfl, u0, u1, HR4, hz4, hc4, hf4, hg4⟩
    have HG4 := Lib.hid (only_trans (only_alloc HG3.out _) hg4.out)
    have d0 : u.tdiv 3 = u / 3 := Int.tdiv_eq_ediv_of_nonneg u0
    have d1 : IntKind.i64.wrap (u / 3) = u / 3 := IntWalk.i64_in _ (by omega)
    obtain ⟨x, hx⟩ : ∃ x, u / 3 = x := ⟨_, rfl⟩
    have x0 : 0 ≤ x := by omega
    have x1 : x < 3 := by omega
    rw [hx] at d0 d1
    obtain ⟨y, hy, hy'⟩ := idxS [[104, 105], [97, 32, 98], []] x x0 x1
    have hy2 : ∀ h, ([.string { data := #[104, 105] }, .string { data := #[97, 32, 98] }, .string { data := #[] }] : List Value)[x.toNat]'h = .string (S y) := hy'
    have hyl : y.length ≤ 3 := by simp at hy; rcases hy with rfl | rfl | rfl <;> simp
    have hcat6 := cat_run (s2 ++ [61, 39]) y (by simp; omega)
    have hcat7 := cat_run (s2 ++ [61, 39] ++ y) [39] (by simp; omega)
    obtain ⟨s3, hs3⟩ : ∃ s3 : Bs, s2 ++ [61, 39] ++ y = s3 := ⟨_, rfl⟩
    have hs3l : s3.length ≤ 33 := by rw [← hs3]; simp; omega
    rw [hs3] at hcat6 hcat7
    clear hy hy' hx
    go_wp2_with fail
    go_ret
    exact ⟨_, p2 + 1 + 1, rfl, by simp; omega, by omega, by omega, HR4, HG4.out⟩
   | false =>
    have hn2 : k ≠ [116] := by simpa using hk2
    cases hk3 : (k == [102]) with
    | true =>
     obtain rfl : k = [102] := by simpa using hk3
     clear hk1 hk2 hk3 hn1 hn2
     have hcat5 := cat_run s2 [61] (by simp; omega)
     go_wp2_with fail
     refine (pick_g (HR3.out.below (by (repeat (first | exact Below.refl _ _ | apply below_drew | apply below_draws | apply below_alloc | (refine below_trans ?_ (by assumption)) | (refine Below.trans ?_ (by assumption)))))) (by omega) _ (by omega) (by omega)).mono ?_
     rintro e w4 ⟨u, rfl, u0, u1, HR4, hz4, hc4, hf4, hg4⟩
     have HG4 := Lib.hid (only_trans (only_alloc HG3.out _) hg4.out)
     have d0 : u.tdiv 3 = u / 3 := Int.tdiv_eq_ediv_of_nonneg u0
     have d1 : IntKind.i64.wrap (u / 3) = u / 3 := IntWalk.i64_in _ (by omega)
     obtain ⟨x, hx⟩ : ∃ x, u / 3 = x := ⟨_, rfl⟩
     have x0 : 0 ≤ x := by omega
     have x1 : x < 3 := by omega
     rw [hx] at d0 d1
     obtain ⟨y, hy, hy'⟩ := idxS [[121, 101, 115], [121, 101, 115], [110, 111]] x x0 x1
     have hy2 : ∀ h, ([.string { data := #[121, 101, 115] }, .string { data := #[121, 101, 115] }, .string { data := #[110, 111] }] : List Value)[x.toNat]'h = .string (S y) := hy'
     have hyl : y.length ≤ 3 := by simp at hy; rcases hy with rfl | rfl | rfl <;> simp
     have hcat6 := cat_run (s2 ++ [61]) y (by simp; omega)
     clear hy hy' hx
     go_wp2_with fail
     go_ret
     exact ⟨_, p2 + 1 + 1, rfl, by simp; omega, by omega, by omega, HR4, HG4.out⟩
    | false =>
     clear hn1 hn2
     go_wp2_with fail
     go_ret
     exact ⟨s2, p2 + 1, rfl, by omega, by omega, by omega, HR3, HG3.out⟩
 ·go_wp2_with fail
  refine (l91Kind HR1.out (by omega)).mono ?_
  rintro e w2 ⟨k, p2, rfl, hkl, hp1, hp2, HR2, hg2⟩
  have HG2 := Lib.hid (only_trans HG1.out hg2)
  have hlt2 := HR2.out.lt
  have hcat3 := cat_run s1 [58] (by simp; omega)
  have hcat4 := cat_run (s1 ++ [58]) k (by simp; omega)
  obtain ⟨s2, hs2⟩ : ∃ s2 : Bs, s1 ++ [58] ++ k = s2 := ⟨_, rfl⟩
  have hs2l : s2.length ≤ 28 := by rw [← hs2]; simp; omega
  rw [hs2] at hcat4
  clear hg2 hcat1 hcat2
  go_wp2_with fail
  go_ret
  exact ⟨s2, p2, rfl, by omega, by omega, by omega, HR2, HG2.out⟩
 ·go_wp2_with fail
  go_ret
  exact ⟨s1, p, rfl, by omega, by omega, by omega, HR1.out, HG1.out⟩
def DrawT (B b : Nat) (ao : Option Addr) (len cap : Nat) (p dp : Int) (N : Nat) (w : World) (e : Ending) (w' : World) : Prop :=
 ∃ (l : List UInt8) (p' : Int), e = .returned (.string (S l)) ∧ l.length ≤ N ∧ 1 ≤ l.length ∧ p ≤ p' ∧ p' ≤ p + dp ∧ Hid (Rdr B w' b ao len cap p') ∧ w.grownBy w' (some b)
set_option maxHeartbeats 8000000 in
theorem l91Type {B : Nat} {w : World} {b : Nat} {ao : Option Addr} {len cap : Nat} {p : Int} (so nm : Bs) (hso : so = [82] ∨ so = [85] ∨ so = [69]) (hnm : nm.length ≤ 1) (h : Rdr B w b ao len cap p) (h1 : p ≤ 700000) :
  Calls Tryz.prog 63 #[.pointer (some ⟨b, 0, none⟩), .string (S so), .string (S nm)] w (DrawT B b ao len cap p 80 300 w) := by
 have H := Lib.hid h
 have hlt := h.lt
 clear h
 have hsl : so.length = 1 := by rcases hso with rfl | rfl | rfl <;> rfl
 have HSO := Lib.hid hso
 have n0 : ¬ w.heap.size = b := by omega
 have hcat1 := cat_run so nm (by omega)
 have hcat2 := cat_run (so ++ nm) [61] (by simp; omega)
 obtain ⟨s1, hs1⟩ : ∃ s1 : Bs, so ++ nm ++ [61] = s1 := ⟨_, rfl⟩
 have hs1l : s1.length ≤ 3 := by rw [← hs1]; simp; omega
 rw [hs1] at hcat2
 have HS1 := Lib.hid hs1; clear hs1
 have HLOOP : ∀ (n : Int) (p0 : Int) (wl : World), 0 ≤ n → n ≤ 4 → p ≤ p0 → p0 ≤ p + 2 → Rdr B wl b ao len cap p0 → w.grownBy wl (some b) → True := fun _ _ _ _ _ _ _ _ _ => trivial
 clear HLOOP hso
 cases h82 : (so == [82]) with
 | true =>
  obtain rfl : so = [82] := by simpa using h82
  clear h82
  go_enter Tryz.func63, Tryz.ntmps63
  go_wp2_with fail
  refine (pick_g H.out (by omega) _ (by omega) (by omega)).mono ?_
  rintro e w1 ⟨v, rfl, v0, v1, HR1, hz1, hc1, hf1, hg1⟩
  have HG1 := Lib.hid hg1.out
  clear hc1 hf1 hg1 hz1
  go_wp2_with fail
  refine (pick_g HR1.out (by omega) _ (by omega) (by omega)).mono ?_
  rintro e w2 ⟨u, rfl, u0, u1, HR2, hz2, hc2, hf2, hg2⟩
  have HG2 := Lib.hid (only_trans HG1.out hg2.out)
  clear hc2 hf2 hg2 hz2 hcat1 hcat2
  by_cases hu : u = 0
  ·subst hu
   go_wp2_with fail
   go_loopw [7, 8, 10] (fun s t i wr => ∃ (l : Bs) (tg k q : Int), s = .string (S l) ∧ t = .int .i64 tg ∧ i = .int .i64 k ∧ 0 ≤ k ∧ k ≤ 0 ∧ 0 ≤ tg ∧ tg ≤ 3 * k ∧ l.length ≤ 3 + 62 * k ∧ (p + 1 + 1) ≤ q ∧ q ≤ (p + 1 + 1) + 15 * k ∧ Hid (Rdr B wr b ao len cap q) ∧ Hid (w.grownBy wr (some b))) (fun _ _ i _ => 10 - (intOf i).toNat)
   case atStart => exact ⟨s1, 0, 0, (p + 1 + 1), (by first | rfl | (rw [← HS1.out]; simp)), rfl, rfl, by omega, by omega, by omega, by omega, by omega, by omega, by omega, HR2, HG2.out⟩
   case round =>
    obtain ⟨l, tg, k, q, rfl, rfl, rfl, k0, kn, g0, g1, hl, q0, q1, HQ, HG⟩ := hrel
    have hltr := HQ.out.lt
    by_cases hk : k < 0
    ·omega
    ·have hcat5 := cat_run l [10] (by simp; omega)
     go_wp2_with fail
     go_ret
     exact ⟨_, q, rfl, by simp; omega, by simp, by omega, by omega, HQ, HG.out⟩
  ·have hu' : (u == 0) = false := by simp [hu]
   clear hu
   go_wp2_with fail
   go_loopw [7, 8, 10] (fun s t i wr => ∃ (l : Bs) (tg k q : Int), s = .string (S l) ∧ t = .int .i64 tg ∧ i = .int .i64 k ∧ 0 ≤ k ∧ k ≤ (1 + v) ∧ 0 ≤ tg ∧ tg ≤ 3 * k ∧ l.length ≤ 3 + 62 * k ∧ (p + 1 + 1) ≤ q ∧ q ≤ (p + 1 + 1) + 15 * k ∧ Hid (Rdr B wr b ao len cap q) ∧ Hid (w.grownBy wr (some b))) (fun _ _ i _ => 10 - (intOf i).toNat)
   case atStart => exact ⟨s1, 0, 0, (p + 1 + 1), (by first | rfl | (rw [← HS1.out]; simp)), rfl, rfl, by omega, by omega, by omega, by omega, by omega, by omega, by omega, HR2, HG2.out⟩
   case round =>
    obtain ⟨l, tg, k, q, rfl, rfl, rfl, k0, kn, g0, g1, hl, q0, q1, HQ, HG⟩ := hrel
    have hltr := HQ.out.lt
    by_cases hk : k < (1 + v)
    ·go_wp2_with fail
     refine (pick_g HQ.out (by omega) _ (by omega) (by omega)).mono ?_
     rintro e w3 ⟨x, rfl, x0, x1, HR3, hz3, hc3, hf3, hg3⟩
     have HG3 := Lib.hid (only_trans HG.out hg3.out)
     clear hc3 hf3 hg3 hz3
     go_wp2_with fail
     refine (pick_g HR3.out (by omega) _ (by omega) (by omega)).mono ?_
     rintro e w4 ⟨y, rfl, y0, y1, HR4, hz4, hc4, hf4, hg4⟩
     have HG4 := Lib.hid (only_trans HG3.out hg4.out)
     clear hc4 hf4 hg4 hz4
     have m0 : 0 ≤ x * y := Int.mul_nonneg x0 y0
     have m1 : x * y ≤ 2 * 1 := Int.mul_le_mul (by omega) (by omega) y0 (by omega)
     have e1 : IntKind.i64.wrap (x * y) = x * y := IntWalk.i64_in _ (by omega)
     have e2 : IntKind.i64.wrap (tg + 1) = tg + 1 := IntWalk.i64_in _ (by omega)
     obtain ⟨z, hz⟩ : ∃ z, x * y = z := ⟨_, rfl⟩
     rw [hz] at m0 m1 e1
     have e3 : IntKind.i64.wrap (tg + 1 + z) = tg + 1 + z := IntWalk.i64_in _ (by omega)
     obtain ⟨tn, htn⟩ : ∃ tn, tg + 1 + z = tn := ⟨_, rfl⟩
     rw [htn] at e3
     have hlt4 := HR4.out.lt
     have a1 : IntKind.i64.wrap (112 + k) = 112 + k := IntWalk.i64_in _ (by omega)
     have a2 : IntKind.u8.wrap (112 + k) = 112 + k := IntWalk.u8_in _ (by omega)
     have HB := Lib.hid (show tn ≤ 3 * (k + 1) ∧ 0 ≤ tn ∧ tn < 1000 by omega)
     have HL5 := Lib.hid (fun (w5 : World) (h5 : Below w4.heap.size w4 w5) => l91Field [82] [B8 (112 + k)] tn (.inl rfl) (by simp) HB.out.2.1 HB.out.2.2 (HR4.out.below h5) (by omega))
     by_cases hk0 : 0 < k
     ·have hcat3 := cat_run l [44] (by simp; omega)
      have hc := conv1
      have hc1 := cellIs_some
      have hc2 := cellB_some
      go_wp2_with fail
      clear hc hc1 hc2
      refine (HL5.out _ (by (repeat (first | exact Below.refl _ _ | apply below_drew | apply below_draws | apply below_alloc | (refine below_trans ?_ (by assumption)) | (refine Below.trans ?_ (by assumption)))))).mono ?_
      rintro e w6 ⟨f, p6, rfl, hfl, hp6, hp7, HR6, hg6⟩
      have HG6 := Lib.hid (only_trans (only_alloc HG4.out _) hg6)
      have hcat4 := cat_run (l ++ [44]) f (by simp; omega)
      clear hg6
      go_wp2_with fail
      clear hcat3 hcat4
      go_roundw
      case rel => exact ⟨_, tn, k + 1, p6, rfl, rfl, by go_num, by omega, by omega, HB.out.2.1, HB.out.1, by simp; omega, by omega, by omega, HR6, HG6.out⟩
      case measure => first | (simp [intOf]; done) | (simp [intOf]; omega)
     ·have hc := conv1
      have hc1 := cellIs_some
      have hc2 := cellB_some
      go_wp2_with fail
      clear hc hc1 hc2
      refine (HL5.out _ (by (repeat (first | exact Below.refl _ _ | apply below_drew | apply below_draws | apply below_alloc | (refine below_trans ?_ (by assumption)) | (refine Below.trans ?_ (by assumption)))))).mono ?_
      rintro e w6 ⟨f, p6, rfl, hfl, hp6, hp7, HR6, hg6⟩
      have HG6 := Lib.hid (only_trans (only_alloc HG4.out _) hg6)
      have hcat4 := cat_run l f (by omega)
      clear hg6
      go_wp2_with fail
      clear hcat4
      go_roundw
      case rel => exact ⟨_, tn, k + 1, p6, rfl, rfl, by go_num, by omega, by omega, HB.out.2.1, HB.out.1, by simp; omega, by omega, by omega, HR6, HG6.out⟩
      case measure => first | (simp [intOf]; done) | (simp [intOf]; omega)
    ·have hcat5 := cat_run l [10] (by simp; omega)
     go_wp2_with fail
     go_ret
     exact ⟨_, q, rfl, by simp; omega, by simp, by omega, by omega, HQ, HG.out⟩
 | false =>
  go_enter Tryz.func63, Tryz.ntmps63
  go_wp2_with fail
  refine (pick_g H.out (by omega) _ (by omega) (by omega)).mono ?_
  rintro e w1 ⟨v, rfl, v0, v1, HR1, hz1, hc1, hf1, hg1⟩
  have HG1 := Lib.hid hg1.out
  clear hc1 hf1 hg1 hz1 hcat1 hcat2
  go_wp2_with fail
  go_loopw [7, 8, 10] (fun s t i wr => ∃ (l : Bs) (tg k q : Int), s = .string (S l) ∧ t = .int .i64 tg ∧ i = .int .i64 k ∧ 0 ≤ k ∧ k ≤ (1 + v) ∧ 0 ≤ tg ∧ tg ≤ 3 * k ∧ l.length ≤ 3 + 62 * k ∧ (p + 1) ≤ q ∧ q ≤ (p + 1) + 15 * k ∧ Hid (Rdr B wr b ao len cap q) ∧ Hid (w.grownBy wr (some b))) (fun _ _ i _ => 10 - (intOf i).toNat)
  case atStart => exact ⟨s1, 0, 0, (p + 1), (by first | rfl | (rw [← HS1.out]; simp)), rfl, rfl, by omega, by omega, by omega, by omega, by omega, by omega, by omega, HR1, HG1.out⟩
  case round =>
   obtain ⟨l, tg, k, q, rfl, rfl, rfl, k0, kn, g0, g1, hl, q0, q1, HQ, HG⟩ := hrel
   have hltr := HQ.out.lt
   by_cases hk : k < (1 + v)
   ·go_wp2_with fail
    refine (pick_g HQ.out (by omega) _ (by omega) (by omega)).mono ?_
    rintro e w3 ⟨x, rfl, x0, x1, HR3, hz3, hc3, hf3, hg3⟩
    have HG3 := Lib.hid (only_trans HG.out hg3.out)
    clear hc3 hf3 hg3 hz3
    go_wp2_with fail
    refine (pick_g HR3.out (by omega) _ (by omega) (by omega)).mono ?_
    rintro e w4 ⟨y, rfl, y0, y1, HR4, hz4, hc4, hf4, hg4⟩
    have HG4 := Lib.hid (only_trans HG3.out hg4.out)
    clear hc4 hf4 hg4 hz4
    have m0 : 0 ≤ x * y := Int.mul_nonneg x0 y0
    have m1 : x * y ≤ 2 * 1 := Int.mul_le_mul (by omega) (by omega) y0 (by omega)
    have e1 : IntKind.i64.wrap (x * y) = x * y := IntWalk.i64_in _ (by omega)
    have e2 : IntKind.i64.wrap (tg + 1) = tg + 1 := IntWalk.i64_in _ (by omega)
    obtain ⟨z, hz⟩ : ∃ z, x * y = z := ⟨_, rfl⟩
    rw [hz] at m0 m1 e1
    have e3 : IntKind.i64.wrap (tg + 1 + z) = tg + 1 + z := IntWalk.i64_in _ (by omega)
    obtain ⟨tn, htn⟩ : ∃ tn, tg + 1 + z = tn := ⟨_, rfl⟩
    rw [htn] at e3
    have hlt4 := HR4.out.lt
    have a1 : IntKind.i64.wrap (112 + k) = 112 + k := IntWalk.i64_in _ (by omega)
    have a2 : IntKind.u8.wrap (112 + k) = 112 + k := IntWalk.u8_in _ (by omega)
    have HB := Lib.hid (show tn ≤ 3 * (k + 1) ∧ 0 ≤ tn ∧ tn < 1000 by omega)
    have HL5 := Lib.hid (fun (w5 : World) (h5 : Below w4.heap.size w4 w5) => l91Field so [B8 (112 + k)] tn HSO.out (by simp) HB.out.2.1 HB.out.2.2 (HR4.out.below h5) (by omega))
    by_cases hk0 : 0 < k
    ·have hcat3 := cat_run l [44] (by simp; omega)
     have hc := conv1
     have hc1 := cellIs_some
     have hc2 := cellB_some
     go_wp2_with fail
     clear hc hc1 hc2
     refine (HL5.out _ (by (repeat (first | exact Below.refl _ _ | apply below_drew | apply below_draws | apply below_alloc | (refine below_trans ?_ (by assumption)) | (refine Below.trans ?_ (by assumption)))))).mono ?_
     rintro e w6 ⟨f, p6, rfl, hfl, hp6, hp7, HR6, hg6⟩
     have HG6 := Lib.hid (only_trans (only_alloc HG4.out _) hg6)
     have hcat4 := cat_run (l ++ [44]) f (by simp; omega)
     clear hg6
     go_wp2_with fail
     clear hcat3 hcat4
     go_roundw
     case rel => exact ⟨_, tn, k + 1, p6, rfl, rfl, by go_num, by omega, by omega, HB.out.2.1, HB.out.1, by simp; omega, by omega, by omega, HR6, HG6.out⟩
     case measure => first | (simp [intOf]; done) | (simp [intOf]; omega)
    ·have hc := conv1
     have hc1 := cellIs_some
     have hc2 := cellB_some
     go_wp2_with fail
     clear hc hc1 hc2
     refine (HL5.out _ (by (repeat (first | exact Below.refl _ _ | apply below_drew | apply below_draws | apply below_alloc | (refine below_trans ?_ (by assumption)) | (refine Below.trans ?_ (by assumption)))))).mono ?_
     rintro e w6 ⟨f, p6, rfl, hfl, hp6, hp7, HR6, hg6⟩
     have HG6 := Lib.hid (only_trans (only_alloc HG4.out _) hg6)
     have hcat4 := cat_run l f (by omega)
     clear hg6
     go_wp2_with fail
     clear hcat4
     go_roundw
     case rel => exact ⟨_, tn, k + 1, p6, rfl, rfl, by go_num, by omega, by omega, HB.out.2.1, HB.out.1, by simp; omega, by omega, by omega, HR6, HG6.out⟩
     case measure => first | (simp [intOf]; done) | (simp [intOf]; omega)
   ·have hcat5 := cat_run l [10] (by simp; omega)
    go_wp2_with fail
    go_ret
    exact ⟨_, q, rfl, by simp; omega, by simp, by omega, by omega, HQ, HG.out⟩
end Go.Proofs.YtcjooeklehggaaaGreatDoor
