/- The reader of drawn codes: what it is, what a pick does. -/
import Derived.Test.YtgaiagpfnfnnaaaBase
namespace Go.Proofs.Ytgaiagpfnfnnaaa
open Go.ChangeShapes Go.WideShapes Go.ChangeAt Go.RowKit M

theorem xor_i64 (a b : Int) (h1 : 0 ≤ a) (h2 : a < 1073741824) (h3 : 0 ≤ b) (h4 : b < 1073741824) : 0 ≤ bits .xor .i64 a b := by
  obtain ⟨A, rfl⟩ := Int.eq_ofNat_of_zero_le h1
  obtain ⟨B, rfl⟩ := Int.eq_ofNat_of_zero_le h3
  have hx : A ^^^ B < 2 ^ 30 := Nat.xor_lt_two_pow (by omega) (by omega)
  show 0 ≤ IntKind.i64.wrap ((BitVec.ofInt 64 (A : Int) ^^^ BitVec.ofInt 64 (B : Int)).toNat : Int)
  rw [BitVec.toNat_xor, ofInt_u64 A (by omega), ofInt_u64 B (by omega), IntWalk.i64_in _ (by omega)]
  omega

/-- What a pick leaves: a number below n, the place moved on. -/
def PickPost (n p : Int) (b : Nat) (w : World) (e : Ending) (w' : World) : Prop :=
  ∃ (v : Int) (q : Nat), e = .returned (.int .i64 v) ∧ 0 ≤ v ∧ v < n ∧ w' = (w.setCell ⟨b, 1, none⟩ (.int .i64 (p + 1))).drewN q

theorem pick_mix (n p : Int) (b : Nat) (len cap : Nat) (w : World) (blk off : Nat)
    (hb : w.cell? ⟨b, 0, none⟩ = some (.slice (some ⟨blk, off, none⟩) len cap)) (hp : w.cell? ⟨b, 1, none⟩ = some (.int .i64 p)) (hf : w.frozen? ⟨b, 1, none⟩ = false)
    (hne : blk ≠ b) (h0 : 0 ≤ p) (h1 : p ≤ 1000000) (hn : 1 ≤ n) (hn2 : n ≤ 1000000) (hlen : 0 < len) (hlen2 : len ≤ 2000) (hpl : (len : Int) ≤ p)
    (x y : Int) (hx : w.cell? ⟨blk, off + (p % len).toNat, none⟩ = some (.int .u8 x)) (hy : w.cell? ⟨blk, off + ((p * 7 + 3) % len).toNat, none⟩ = some (.int .u8 y))
    (x0 : 0 ≤ x) (x1 : x < 256) (y0 : 0 ≤ y) (y1 : y < 256) :
    Calls Try.prog 39 #[.pointer (some ⟨b, 0, none⟩), .int .i64 n] w (PickPost n p b w) := by
  have hl0 : ((len : Int) == 0) = false := by simp; omega
  have r1 : 0 ≤ p % len := Int.emod_nonneg _ (by omega)
  have r2 : p % len < len := Int.emod_lt_of_pos _ (by omega)
  have r3 : 0 ≤ (p * 7 + 3) % len := Int.emod_nonneg _ (by omega)
  have r4 : (p * 7 + 3) % len < len := Int.emod_lt_of_pos _ (by omega)
  have q1 : 0 ≤ p / len := Int.ediv_nonneg (by omega) (by omega)
  have q2 : p / len ≤ p := Int.ediv_le_self _ (by omega)
  have e1 : p.tmod len = p % len := IntWalk.rem_in _ _ h0
  have e2 : IntKind.i64.wrap (p * 7) = p * 7 := IntWalk.i64_in _ (by omega)
  have e3 : IntKind.i64.wrap (p * 7 + 3) = p * 7 + 3 := IntWalk.i64_in _ (by omega)
  have e4 : (p * 7 + 3).tmod len = (p * 7 + 3) % len := IntWalk.rem_in _ _ (by omega)
  have e5 : IntKind.i64.wrap (x * 131) = x * 131 := IntWalk.i64_in _ (by omega)
  have e6 : IntKind.i64.wrap (y * 1117) = y * 1117 := IntWalk.i64_in _ (by omega)
  have e7 : IntKind.i64.wrap (x * 131 + y * 1117) = x * 131 + y * 1117 := IntWalk.i64_in _ (by omega)
  have e8 : IntKind.i64.wrap (p * 29) = p * 29 := IntWalk.i64_in _ (by omega)
  have e9 : IntKind.i64.wrap (x * 131 + y * 1117 + p * 29) = x * 131 + y * 1117 + p * 29 := IntWalk.i64_in _ (by omega)
  have e10 : p.tdiv len = p / len := Int.tdiv_eq_ediv_of_nonneg h0
  have e11 : IntKind.i64.wrap (p / len) = p / len := IntWalk.i64_in _ (by omega)
  have e12 : IntKind.i64.wrap (p / len * 53) = p / len * 53 := IntWalk.i64_in _ (by omega)
  have e13 : IntKind.i64.wrap (x * 131 + y * 1117 + p * 29 + p / len * 53) = x * 131 + y * 1117 + p * 29 + p / len * 53 := IntWalk.i64_in _ (by omega)
  have e14 : IntKind.i64.wrap x = x := IntWalk.i64_in _ (by omega)
  have e15 : IntKind.i64.wrap y = y := IntWalk.i64_in _ (by omega)
  go_enter Try.func39, Try.ntmps39
  go_wp2_with fail
  go_quiet (fail)
  clear e1 e2 e3 e4 e5 e6 e7 e8 e9 e10 e11 e12 e13 e14 e15
  obtain ⟨X, hX⟩ : ∃ X, x * 131 + y * 1117 + p * 29 + p / len * 53 = X := ⟨_, rfl⟩
  have X0 : 0 ≤ X := by omega
  have X1 : X ≤ 100000000 := by omega
  rw [hX]
  clear hX
  have B0 := xor_i64 X (X / 64) X0 (by omega) (by omega) (by omega)
  go_wp2
  go_ret
  refine ⟨_, nq, rfl, ?_, ?_, rfl⟩
  · exact Int.emod_nonneg _ (by omega)
  · exact Int.emod_lt_of_pos _ (by omega)

theorem pick_here (n p : Int) (b : Nat) (len cap : Nat) (w : World) (blk off : Nat)
    (hb : w.cell? ⟨b, 0, none⟩ = some (.slice (some ⟨blk, off, none⟩) len cap)) (hp : w.cell? ⟨b, 1, none⟩ = some (.int .i64 p)) (hf : w.frozen? ⟨b, 1, none⟩ = false)
    (hne : blk ≠ b) (h0 : 0 ≤ p) (h1 : p ≤ 1000000) (hn : 1 ≤ n) (hn2 : n ≤ 1000000) (hlen : 0 < len) (hlen2 : len ≤ 2000) (hpl : p < (len : Int))
    (x : Int) (hx : w.cell? ⟨blk, off + p.toNat, none⟩ = some (.int .u8 x)) (x0 : 0 ≤ x) (x1 : x < 256) :
    Calls Try.prog 39 #[.pointer (some ⟨b, 0, none⟩), .int .i64 n] w (PickPost n p b w) := by
  have hl0 : ((len : Int) == 0) = false := by simp; omega
  have r1 := Int.emod_nonneg x (b := n) (by omega)
  have r2 := Int.emod_lt_of_pos x (b := n) (by omega)
  go_enter Try.func39, Try.ntmps39
  go_wp2
  go_ret
  exact ⟨_, 0, rfl, r1, r2, rfl⟩

theorem pick_none (n p : Int) (b : Nat) (ao : Option Addr) (cap : Nat) (w : World)
    (hb : w.cell? ⟨b, 0, none⟩ = some (.slice ao 0 cap)) (hp : w.cell? ⟨b, 1, none⟩ = some (.int .i64 p)) (hf : w.frozen? ⟨b, 1, none⟩ = false)
    (h0 : 0 ≤ p) (h1 : p ≤ 1000000) (hn : 1 ≤ n) (hn2 : n ≤ 1000000) :
    Calls Try.prog 39 #[.pointer (some ⟨b, 0, none⟩), .int .i64 n] w (PickPost n p b w) := by
  go_enter Try.func39, Try.ntmps39
  go_wp2
  go_ret
  exact ⟨0, 0, rfl, by omega, by omega, rfl⟩

/-- The bytes of a code that came in: they lie below block B. -/
def Bts (w : World) (ao : Option Addr) (len : Nat) (B : Nat) : Prop :=
  len = 0 ∨ ∃ blk off, ao = some ⟨blk, off, none⟩ ∧ blk < B ∧ ∀ i, i < len → ∃ x : Int, w.cell? ⟨blk, off + i, none⟩ = some (.int .u8 x) ∧ 0 ≤ x ∧ x < 256

/-- A reader at block b, of a code below block B, at place p. -/
structure Rdr (B : Nat) (w : World) (b : Nat) (ao : Option Addr) (len cap : Nat) (p : Int) : Prop where
  c0 : w.cell? ⟨b, 0, none⟩ = some (.slice ao len cap)
  c1 : w.cell? ⟨b, 1, none⟩ = some (.int .i64 p)
  f1 : w.frozen? ⟨b, 1, none⟩ = false
  base : B ≤ b
  lt : b < w.heap.size
  bts : Bts w ao len B
  short : len ≤ 2000
  p0 : 0 ≤ p

theorem pick_any {B : Nat} {w : World} {b : Nat} {ao : Option Addr} {len cap : Nat} {p : Int} (h : Rdr B w b ao len cap p) (h1 : p ≤ 1000000) (n : Int) (hn : 1 ≤ n) (hn2 : n ≤ 1000000) :
    Calls Try.prog 39 #[.pointer (some ⟨b, 0, none⟩), .int .i64 n] w (PickPost n p b w) := by
  obtain ⟨c0, c1, f1, base, lt, bts, short, p0⟩ := h
  rcases bts with rfl | ⟨blk, off, rfl, hlt, hc⟩
  · exact pick_none n p b ao cap w c0 c1 f1 p0 h1 hn hn2
  · by_cases hl : len = 0
    · subst hl; exact pick_none n p b _ cap w c0 c1 f1 p0 h1 hn hn2
    · by_cases hp : p < len
      · obtain ⟨x, hx, x0, x1⟩ := hc p.toNat (by omega)
        exact pick_here n p b len cap w blk off c0 c1 f1 (by omega) p0 h1 hn hn2 (by omega) short hp x hx x0 x1
      · have r1 : 0 ≤ p % len := Int.emod_nonneg _ (by omega)
        have r2 : p % len < len := Int.emod_lt_of_pos _ (by omega)
        have r3 : 0 ≤ (p * 7 + 3) % len := Int.emod_nonneg _ (by omega)
        have r4 : (p * 7 + 3) % len < len := Int.emod_lt_of_pos _ (by omega)
        obtain ⟨x, hx, x0, x1⟩ := hc (p % len).toNat (by omega)
        obtain ⟨y, hy, y0, y1⟩ := hc ((p * 7 + 3) % len).toNat (by omega)
        exact pick_mix n p b len cap w blk off c0 c1 f1 (by omega) p0 h1 hn hn2 (by omega) short (by omega) x y hx hy x0 x1 y0 y1

theorem Bts.below {w w' : World} {ao : Option Addr} {len B : Nat} (h : Bts w ao len B) (hb : Below B w w') : Bts w' ao len B := by
  rcases h with h | ⟨blk, off, rfl, hlt, hc⟩
  · exact .inl h
  · refine .inr ⟨blk, off, rfl, hlt, fun i hi => ?_⟩
    obtain ⟨x, hx, x0, x1⟩ := hc i hi
    exact ⟨x, by rw [← hx]; exact hb.cell (p := ⟨blk, off + i, none⟩) hlt, x0, x1⟩

theorem Rdr.below {B : Nat} {w w' : World} {b : Nat} {ao : Option Addr} {len cap : Nat} {p : Int} (h : Rdr B w b ao len cap p) (hb : Below w.heap.size w w') : Rdr B w' b ao len cap p :=
  ⟨by rw [← h.c0]; exact hb.cell (p := ⟨b, 0, none⟩) h.lt, by rw [← h.c1]; exact hb.cell (p := ⟨b, 1, none⟩) h.lt, by rw [← h.f1]; exact hb.frozen (p := ⟨b, 1, none⟩) h.lt, h.base, Nat.lt_of_lt_of_le h.lt hb.size,
   h.bts.below (hb.mono (Nat.le_of_lt (Nat.lt_of_le_of_lt h.base h.lt))), h.short, h.p0⟩

theorem Rdr.pick {B : Nat} {w : World} {b : Nat} {ao : Option Addr} {len cap : Nat} {p : Int} (h : Rdr B w b ao len cap p) (q : Nat) : Rdr B ((w.setCell ⟨b, 1, none⟩ (.int .i64 (p + 1))).drewN q) b ao len cap (p + 1) := by
  have hb : Below B w ((w.setCell ⟨b, 1, none⟩ (.int .i64 (p + 1))).drewN q) := below_drewN ((Below.refl _ _).setCell h.base _) q
  have c0 := h.c0
  have c1 := h.c1
  have f1 := h.f1
  refine ⟨?_, ?_, ?_, h.base, ?_, h.bts.below hb, h.short, by have := h.p0; omega⟩
  · simp [go_sem, c0]
  · simp [go_sem, c1]
  · simp [go_sem, f1]
  · have := h.lt; simpa using this

/-- What was there before the reader's block is as it was. -/
theorem pick_below {w0 w : World} {b : Nat} (h : Below w0.heap.size w0 w) (hb : w0.heap.size ≤ b) (v : Value) (q : Nat) : Below w0.heap.size w0 ((w.setCell ⟨b, 1, none⟩ v).drewN q) := below_drewN (h.setCell hb v) q

/-- A pick, the world behind it a variable. -/
theorem pick_abs {B : Nat} {w : World} {b : Nat} {ao : Option Addr} {len cap : Nat} {p : Int} (h : Rdr B w b ao len cap p) (h1 : p ≤ 1000000) (n : Int) (hn : 1 ≤ n) (hn2 : n ≤ 1000000) :
    Calls Try.prog 39 #[.pointer (some ⟨b, 0, none⟩), .int .i64 n] w fun e w' => ∃ v : Int, e = .returned (.int .i64 v) ∧ 0 ≤ v ∧ v < n ∧ Hid (Rdr B w' b ao len cap (p + 1)) ∧ w'.heap.size = w.heap.size ∧
      (∀ k o, k ≠ b → w'.cell? ⟨k, o, none⟩ = w.cell? ⟨k, o, none⟩) ∧ (∀ k o, k ≠ b → w'.frozen? ⟨k, o, none⟩ = w.frozen? ⟨k, o, none⟩) ∧ Below B w w' := by
  refine (pick_any h h1 n hn hn2).mono ?_
  rintro e w' ⟨v, q, rfl, v0, v1, rfl⟩
  refine ⟨v, rfl, v0, v1, h.pick q, by simp, fun k o hk => by simp [go_sem], fun k o _ => by simp [go_sem], below_drewN ((Below.refl _ _).setCell h.base _) q⟩

theorem l6open_none (cap : Nat) (w : World) (ao : Option Addr) :
    Calls Try.prog 32 #[.slice ao 0 cap] w fun e w' => e = .returned (.pointer (some ⟨w.heap.size, 0, none⟩)) ∧ w' = w.alloc (.cells #[.slice ao 0 cap, .int .i64 0] 42) := by
  go_enter Try.func32, Try.ntmps32
  go_wp2
  go_ret
  exact ⟨rfl, rfl⟩
theorem l6open_short (len cap : Nat) (w : World) (blk off : Nat) (hlen : len ≤ 2000) :
    Calls Try.prog 32 #[.slice (some ⟨blk, off, none⟩) len cap] w fun e w' => e = .returned (.pointer (some ⟨w.heap.size, 0, none⟩)) ∧ w' = w.alloc (.cells #[.slice (some ⟨blk, off, none⟩) len cap, .int .i64 0] 42) := by
  go_enter Try.func32, Try.ntmps32
  go_wp2
  go_ret
  exact ⟨rfl, rfl⟩
theorem l6open_long (len cap : Nat) (w : World) (blk off : Nat) (hlen : 2000 < len) (hcap : len ≤ cap) :
    Calls Try.prog 32 #[.slice (some ⟨blk, off, none⟩) len cap] w fun e w' => e = .returned (.pointer (some ⟨w.heap.size, 0, none⟩)) ∧ w' = w.alloc (.cells #[.slice (some ⟨blk, off, none⟩) 2000 cap, .int .i64 0] 42) := by
  have h2 : 2000 ≤ cap := by omega
  go_enter Try.func32, Try.ntmps32
  go_wp2
  go_ret
  exact ⟨rfl, rfl⟩

theorem row_bts {w : World} {ao : Option Addr} {len cap : Nat} {z : List Int} (h : IsRow .u8 w ao len cap z) : len ≤ cap ∧ (len = 0 ∨ ∃ blk off, ao = some ⟨blk, off, none⟩ ∧ blk < w.heap.size ∧ ∀ i, i < len → ∃ x : Int, w.cell? ⟨blk, off + i, none⟩ = some (.int .u8 x) ∧ 0 ≤ x ∧ x < 256) := by
  rcases h with ⟨rfl, rfl, rfl, rfl⟩ | ⟨x, rfl, hl, hm, hz, hcell, hwz⟩
  · exact ⟨Nat.le_refl _, .inl rfl⟩
  · refine ⟨hl, ?_⟩
    by_cases h0 : len = 0
    · exact .inl h0
    · obtain ⟨b, off, spot⟩ := x
      have hc := hcell 0 (by omega)
      have hspot : spot = none := by simpa [Addr.add] using World.cell?_spot hc
      subst hspot
      refine .inr ⟨b, off, rfl, World.block_lt_of_cell? w _ hc, fun i hi => ⟨z.getD i 0, ?_, ?_⟩⟩
      · have := hcell i (by omega)
        rwa [Addr.add_lit] at this
      · have := range_u8 hwz i
        rw [List.getD_eq_getElem?_getD]
        omega

/-- A reader is opened: behind it there is just one block more. -/
theorem l6open_any {w : World} {ao : Option Addr} {len cap : Nat} {z : List Int} (h : IsRow .u8 w ao len cap z) :
    Calls Try.prog 32 #[.slice ao len cap] w fun e w' => ∃ len', e = .returned (.pointer (some ⟨w.heap.size, 0, none⟩)) ∧ Rdr w.heap.size (w.alloc (.cells #[.slice ao len' cap, .int .i64 0] 42)) w.heap.size ao len' cap 0 ∧ w' = w.alloc (.cells #[.slice ao len' cap, .int .i64 0] 42) := by
  have mk : ∀ len', len' ≤ 2000 → Bts w ao len' w.heap.size → Rdr w.heap.size (w.alloc (.cells #[.slice ao len' cap, .int .i64 0] 42)) w.heap.size ao len' cap 0 := fun len' hl hb =>
    ⟨by simp [go_sem], by simp [go_sem], by simp [go_sem], Nat.le_refl _, by simp, hb.below (below_alloc (Below.refl _ _) _), hl, by omega⟩
  obtain ⟨hlc, h | ⟨blk, off, rfl, hlt, hc⟩⟩ := row_bts h
  · subst h
    exact (l6open_none cap w ao).mono fun e w' ⟨he, hw⟩ => ⟨0, he, mk 0 (by omega) (.inl rfl), hw⟩
  · by_cases hs : len ≤ 2000
    · exact (l6open_short len cap w blk off hs).mono fun e w' ⟨he, hw⟩ => ⟨len, he, mk len hs (.inr ⟨blk, off, rfl, hlt, hc⟩), hw⟩
    · exact (l6open_long len cap w blk off (by omega) hlc).mono fun e w' ⟨he, hw⟩ => ⟨2000, he, mk 2000 (by omega) (.inr ⟨blk, off, rfl, hlt, fun i hi => hc i (by omega)⟩), hw⟩

/-- What stands at a picked place of a list of numbers. -/
theorem idxI (l : List Int) (v : Int) (h0 : 0 ≤ v) (h1 : v < l.length) : ∃ x, ∀ h, (l.map (Value.int .i64))[v.toNat]'h = .int .i64 x :=
  ⟨l[v.toNat]'(by omega), fun h => by rw [List.getElem_map]⟩
/-- .. of a list of texts. -/
theorem idxS (l : List (List UInt8)) (v : Int) (h0 : 0 ≤ v) (h1 : v < l.length) : ∃ x, x ∈ l ∧ ∀ h, (l.map fun s => Value.string (S s))[v.toNat]'h = .string (S x) :=
  ⟨l[v.toNat]'(by omega), List.getElem_mem _, fun h => by rw [List.getElem_map]⟩
end Go.Proofs.Ytgaiagpfnfnnaaa
