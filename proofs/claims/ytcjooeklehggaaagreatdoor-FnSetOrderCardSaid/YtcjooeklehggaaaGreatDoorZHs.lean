/- Lemmas of this seat. -/
import Derived.RangeFuncNested
import Derived.RangeFuncBound
import Derived.RangeFuncCalls
import Derived.RangeFuncLeaves
import Derived.Shelf.Abstract
import Derived.Shelf.RegionOpen
import Derived.OwnWalkIn
import Derived.TacticsInMore
import Derived.LoopNIn
import Derived.LoopIn
import Derived.RangeFuncFrom
import Derived.Test.YtcjooeklehggaaaGreatDoorZGs
set_option linter.unusedVariables false
set_option linter.unusedSimpArgs false
set_option maxRecDepth 100000
namespace Go.Proofs.YtcjooeklehggaaaGreatDoor
open Go.ChangeShapes Go.WideShapes Go.ChangeAt Go.RowKit M
attribute [local go_sem] Oper.semAt_some
theorem i_Index (l : Bs) (c : UInt8) (w : World) (hs : l.length ≤ 2000000) :
  Calls Tryz.prog 182 #[.string (S l), .string (S [c])] w fun e w' => e = .returned (.int .i64 (Lib.indexByte l c)) ∧ w = w' := by
 have HI := Lib.hid (fun w => i_Index1 l c w hs)
 generalize Lib.indexByte l c = x at *
 go_enter Tryz.func182, Tryz.ntmps182
 go_wp2_with (go_at_call 142; refine (HI.out _).mono ?_; rintro e w' ⟨rfl, rfl⟩)
 go_ret
 exact ⟨rfl, rfl⟩
def Kept3 (x y z : Nat) (W W' : World) : Prop := W'.heap[x]? = W.heap[x]? ∧ W'.heap[y]? = W.heap[y]? ∧ W'.heap[z]? = W.heap[z]?
theorem Kept3.trans {x y z : Nat} {A B C : World} (h : Kept3 x y z A B) (k : Kept3 x y z B C) : Kept3 x y z A C := ⟨k.1.trans h.1, k.2.1.trans h.2.1, k.2.2.trans h.2.2⟩
set_option maxHeartbeats 1000000 in
theorem i_split (l : Nat) (c : UInt8) (b : Bs) (hs : b.length ≤ 1000000) (Bs_ Bc Bv : Nat) (hne1 : Bs_ ≠ Bc) (hne2 : Bv ≠ Bc) (J Jx : List Bs → World → Prop)
  (hJ : ∀ pre W u, J pre W → J pre (W.setCell ⟨Bc, 0, none⟩ u)) (hJd : ∀ pre W, J pre W → J pre W.drew)
  (hY : ∀ pre x W, J pre W → pre ++ [x] <+: cutL (c.toNat : Int) b → YieldAt Fence.wide 0 Tryz.prog l #[.string (S x)] W fun e W' =>
   (e = .returned (.bool true) ∧ J (pre ++ [x]) W' ∧ Kept3 Bs_ Bc Bv W W') ∨ (e = .returned (.bool false) ∧ Jx (pre ++ [x]) W'))
  (W : World) (h1 : W.cell? ⟨Bs_, 0, none⟩ = some (.string (S [c]))) (h2 : W.cell? ⟨Bc, 0, none⟩ = some (.string (S b))) (h3 : W.cell? ⟨Bv, 0, none⟩ = some (.int .i64 0)) (h4 : W.frozen? ⟨Bc, 0, none⟩ = false) (h0 : J [] W) :
  CallsIn Fence.wide 0 Tryz.prog 187 #[.func (.yield l) #[] #[], .pointer (some ⟨Bs_, 0, none⟩), .pointer (some ⟨Bc, 0, none⟩), .pointer (some ⟨Bv, 0, none⟩)] W fun e W' => (∃ v, e = .returned v) ∧
   (J (cutL (c.toNat : Int) b) W' ∨ (∃ pre, pre <+: cutL (c.toNat : Int) b ∧ Jx pre W')) := by
 refine callsIn_of_wp Tryz.func187 rfl trivial ?_ rfl
 simp only [Tryz.ntmps187, List.size_toArray, List.length_cons, List.length_nil, Nat.reduceAdd, Nat.reduceSub, Array.replicate_succ, Array.replicate_zero, List.push_toArray, List.append_toArray, List.nil_append, List.cons_append]
 have HY := Lib.hid hY; clear hY
 have HJ := Lib.hid hJ; clear hJ hJd
 gi_wp2
 gi_loopw [7] (fun _ wr => ∃ (pre : List Bs) (r : Bs), r.length ≤ b.length ∧ Hid (cutL (c.toNat : Int) b = pre ++ cutL (c.toNat : Int) r) ∧ Hid (J pre wr) ∧ Hid (wr.cell? ⟨Bs_, 0, none⟩ = some (.string (S [c])) ∧ wr.cell? ⟨Bc, 0, none⟩ = some (.string (S r)) ∧ wr.cell? ⟨Bv, 0, none⟩ = some (.int .i64 0) ∧ wr.frozen? ⟨Bc, 0, none⟩ = false)) (fun _ wr => match wr.cell? ⟨Bc, 0, none⟩ with | some (.string s) => s.size | _ => 0)
 case atStart => exact ⟨[], b, Nat.le_refl _, rfl, h0, h1, h2, h3, h4⟩
 case round =>
  obtain ⟨pre, r, hr, hcut, hj, hcells⟩ := hrel
  obtain ⟨x1, x2, x3, x4⟩ := hcells.out
  have hrl : r.length ≤ 2000000 := by omega
  have HI := Lib.hid (fun w => i_Index r c w hrl)
  rw [indexByte_cut] at HI
  clear h1 h2 h3 h4 h0
  cases hh : cutHas (c.toNat : Int) r with
  | true =>
   rw [hh, if_pos rfl] at HI
   have hlt := cutA_lt _ r hh
   have hlb := cutB_lt _ r hh
   have HA := Lib.hid (cutA_take (c.toNat : Int) r)
   have HB := Lib.hid (cutB_drop (c.toNat : Int) r hh)
   have HC := Lib.hid (cutL_has _ r hh)
   clear hh
   obtain ⟨k, hk⟩ : ∃ k, (cutA (c.toNat : Int) r).length = k := ⟨_, rfl⟩
   rw [hk] at HI hlt HA HB
   clear hk
   obtain ⟨fn, tmps, assign, body, hy, hR⟩ := HY.out pre (r.take k) wr hj.out (by rw [hcut.out, HC.out, HA.out]; exact ⟨cutL (c.toNat : Int) (cutB (c.toNat : Int) r), by simp⟩)
   gi_wp2
   refine ⟨trivial, rfl, ?_⟩
   refine (callsIn_wide.2 (HI.out _)).mono ?_
   rintro e w' ⟨rfl, rfl⟩
   gi_wp2
   refine ⟨rfl, hR.mono ?_⟩
   rintro e W3 (⟨rfl, hJ3, hk3⟩ | ⟨rfl, hJx3⟩)
   ·have z1 := (World.cell?_of_block (a := ⟨Bs_, 0, none⟩) hk3.1).trans x1
    have z2 := (World.cell?_of_block (a := ⟨Bc, 0, none⟩) hk3.2.1).trans x2
    have z3 := (World.cell?_of_block (a := ⟨Bv, 0, none⟩) hk3.2.2).trans x3
    have z4 := (World.frozen?_of_block (a := ⟨Bc, 0, none⟩) hk3.2.1).trans x4
    have HJ3 := Lib.hid hJ3; clear hJ3 hR hy
    gi_wp2
    have w1 : (W3.setCell ⟨Bc, 0, none⟩ (.string (S (r.drop (k + 1))))).cell? ⟨Bs_, 0, none⟩ = some (.string (S [c])) := far_set (fun h => hne1 h.symm) z1
    have w2 : (W3.setCell ⟨Bc, 0, none⟩ (.string (S (r.drop (k + 1))))).cell? ⟨Bc, 0, none⟩ = some (.string (S (r.drop (k + 1)))) := World.cell?_setCell_same _ _ _ z2
    have w3 : (W3.setCell ⟨Bc, 0, none⟩ (.string (S (r.drop (k + 1))))).cell? ⟨Bv, 0, none⟩ = some (.int .i64 0) := far_set (fun h => hne2 h.symm) z3
    have w4 : (W3.setCell ⟨Bc, 0, none⟩ (.string (S (r.drop (k + 1))))).frozen? ⟨Bc, 0, none⟩ = false := by rw [World.frozen?_setCell]; exact z4
    refine ⟨⟨pre ++ [r.take k], r.drop (k + 1), by simp; omega, ?_, HJ.out _ _ _ HJ3.out, w1, w2, w3, w4⟩, ?_⟩
    ·show cutL (c.toNat : Int) b = _
     rw [hcut.out, HC.out, HA.out, HB.out]; simp
    ·rw [w2, x2]; simp [S_size]; omega
   ·have HJX := Lib.hid hJx3; clear hJx3
    gi_wp2
    refine bodyPost_ret (results_none rfl _ _ _) rfl ?_
    exact ⟨⟨_, rfl⟩, .inr ⟨pre ++ [r.take k], by rw [hcut.out, HC.out, HA.out]; exact ⟨cutL (c.toNat : Int) (cutB (c.toNat : Int) r), by simp⟩, HJX.out⟩⟩
  | false =>
   rw [hh, if_neg (by decide)] at HI
   obtain ⟨hc1, -, -⟩ := cut_hasnt _ r hh
   clear hh
   obtain ⟨fn, tmps, assign, body, hy, hR⟩ := HY.out pre r wr hj.out (by rw [hcut.out, hc1]; exact List.prefix_refl _)
   gi_wp2
   refine ⟨trivial, rfl, ?_⟩
   refine (callsIn_wide.2 (HI.out _)).mono ?_
   rintro e w' ⟨rfl, rfl⟩
   gi_wp2
   refine ⟨rfl, hR.mono ?_⟩
   rintro e W3 (⟨rfl, hJ3, hk3⟩ | ⟨rfl, hJx3⟩)
   ·have HJ3 := Lib.hid hJ3; clear hJ3 hR hy
    gi_wp2
    go_end0
    exact ⟨⟨_, rfl⟩, .inl (by rw [hcut.out, hc1]; exact HJ3.out)⟩
   ·have HJX := Lib.hid hJx3; clear hJx3
    gi_wp2
    go_end0
    exact ⟨⟨_, rfl⟩, .inr ⟨pre ++ [r], by rw [hcut.out, hc1]; exact List.prefix_refl _, HJX.out⟩⟩
attribute [local go_sem] Oper.semAt_some
def PieceOut (x y z : Nat) (I Ix : List Bs → World → Prop) (xs : List Bs) (W : World) : Exit → Act → World → Prop
 | .normal, _, W' => KeepsOthers W W' ∧ Kept3 x y z W W' ∧ I xs W'
 | .ret, _, W' => KeepsOthers W W' ∧ Ix xs W'
 | _, _, _ => False
theorem heap_set_ne {W : World} {b k : Nat} {u : Value} (h : b ≠ k) : (W.setCell ⟨b, 0, none⟩ u).heap[k]? = W.heap[k]? := Below.heap_setCell W ⟨b, 0, none⟩ u k h.symm
set_option maxHeartbeats 1000000 in
theorem wp_pieces {g : Operand} {p : Tmp} {assign body : Code} {Q : Exit → Act → World → Prop} {a : Act} {w : World} (c : UInt8) (b : Bs) (hs : b.length ≤ 1000000) (Bs_ Bc Bv : Nat) (hBs : Bs_ < w.heap.size) (hBc : Bc < w.heap.size) (hBv : Bv < w.heap.size) (hne1 : Bs_ ≠ Bc) (hne2 : Bv ≠ Bc)
  (hg : a.eval g = .func (.func 187) #[] #[.pointer (some ⟨Bs_, 0, none⟩), .pointer (some ⟨Bc, 0, none⟩), .pointer (some ⟨Bv, 0, none⟩)])
  (h1 : w.cell? ⟨Bs_, 0, none⟩ = some (.string (S [c]))) (h2 : w.cell? ⟨Bc, 0, none⟩ = some (.string (S b))) (h3 : w.cell? ⟨Bv, 0, none⟩ = some (.int .i64 0)) (h4 : w.frozen? ⟨Bc, 0, none⟩ = false)
  (I Ix : List Bs → World → Prop) (hI : OwnFrom w.heap.size I) (hIx : OwnFrom w.heap.size Ix) (hIc : ∀ pre W u, I pre W → I pre (W.setCell ⟨Bc, 0, none⟩ u)) (h0 : I [] w) (a₁ : Bs → Act)
  (hassign : ∀ (l : Nat) (x : Bs) (W : World) (K : Act → World → Prop), K (a₁ x) W → assign.wpIn (Fence.wide.inRound l) 0 Tryz.prog (Exit.then K (fun _ _ _ => False)) { tmps := a.tmps.setIfInBounds p (.string (S x)), defers := [] } W)
  (hbody : ∀ (l : Nat) (pre : List Bs) (x : Bs) (W : World), I pre W → pre ++ [x] <+: cutL (c.toNat : Int) b → body.wpIn (Fence.wide.inRound l) 0 Tryz.prog (PieceOut Bs_ Bc Bv I Ix (pre ++ [x]) W) (a₁ x) W)
  (hdone : ∀ (D : Nat) (W : World), I (cutL (c.toNat : Int) b) W → W.heap[D]? = some (.deferred (some [])) → w.heap.size ≤ D → Q .normal { a with defers := { target := .collected D, args := #[] } :: a.defers } W)
  (hstop : ∀ (D : Nat) (pre : List Bs) (W : World), pre <+: cutL (c.toNat : Int) b → Ix pre W → W.heap[D]? = some (.deferred (some [])) → w.heap.size ≤ D → Code.ret.wpIn Fence.wide 0 Tryz.prog Q { a with defers := { target := .collected D, args := #[] } :: a.defers } W) :
  (Code.rangeFunc g #[p] assign body).wpIn Fence.wide 0 Tryz.prog Q a w := by
 refine wpIn_rangeFunc ?_
 intro fn hfn
 obtain ⟨rec, hrec⟩ : ∃ rec : LoopState → Option Code → Loop, rec = fun st pe => { state := st, pending := pe, fn, tmps := a.tmps, params := #[p], assign, body, defers := w.heap.size } := ⟨_, rfl⟩
 obtain ⟨W1, hW1⟩ : ∃ W1, (w.alloc (.deferred (some []))).alloc (.loop (rec .ready none)) = W1 := ⟨_, rfl⟩
 have hB : Below w.heap.size w W1 := by rw [← hW1]; exact below_alloc (below_alloc (Below.refl _ _) _) _
 have hL1 : W1.heap[w.heap.size + 1]? = some (.loop (rec .ready none)) := by
  rw [← hW1]; have := World.alloc_heap_new (w.alloc (.deferred (some []))) (.loop (rec .ready none)); rwa [World.size_alloc] at this
 have hD1 : W1.heap[w.heap.size]? = some (.deferred (some [])) := by
  rw [← hW1]; exact (Below.heap_alloc _ _ _ (by simp)).trans (World.alloc_heap_new w _)
 have hI1 : I [] W1 := by rw [← hW1]; exact hI.alloc _ (hI.alloc _ h0)
 refine ⟨w.heap.size + 1, [{ target := .collected w.heap.size, args := #[] }], W1, { target := .fn (.func 187) #[.pointer (some ⟨Bs_, 0, none⟩), .pointer (some ⟨Bc, 0, none⟩), .pointer (some ⟨Bv, 0, none⟩)], args := #[.func (.yield (w.heap.size + 1)) #[] #[]] }, W1, 187,
  #[.func (.yield (w.heap.size + 1)) #[] #[], .pointer (some ⟨Bs_, 0, none⟩), .pointer (some ⟨Bc, 0, none⟩), .pointer (some ⟨Bv, 0, none⟩)], W1, ?_, ?_, ?_, ?_, fun h => by simp [Fence.wide] at h, ?_⟩
 ·rw [← hW1, hrec]; exact run_enterLoop_outer _ _ _ _ _
 ·simp only [resolve, hg]; simp [go_sem]
 ·intro f' _; trivial
 ·have eg := enters_of (P := Tryz.prog) (f := 187) Tryz.func187 (by kernel_rfl) rfl
  simp [invoke, go_sem, eg _ _]
 ·refine (i_split (w.heap.size + 1) c b hs Bs_ Bc Bv hne1 hne2
   (fun pre W => I pre W ∧ W.heap[w.heap.size + 1]? = some (.loop (rec .ready none)) ∧ W.heap[w.heap.size]? = some (.deferred (some [])))
   (fun pre W => Ix pre W ∧ W.heap[w.heap.size + 1]? = some (.loop (rec .done (some .ret))) ∧ W.heap[w.heap.size]? = some (.deferred (some [])))
   (fun pre W u h => ⟨hIc pre W u h.1, (heap_set_ne (by omega)).trans h.2.1, (heap_set_ne (by omega)).trans h.2.2⟩)
   (fun pre W h => ⟨hI pre W W.drew none h.1 ⟨rfl, rfl, rfl, Nat.le_refl _, fun _ _ _ => rfl⟩ (fun r e => by cases e), h.2⟩)
   ?_ W1 ((hB.cell (p := ⟨Bs_, 0, none⟩) (by show Bs_ < _; omega)).trans h1) ((hB.cell (p := ⟨Bc, 0, none⟩) (by show Bc < _; omega)).trans h2) ((hB.cell (p := ⟨Bv, 0, none⟩) (by show Bv < _; omega)).trans h3) ((hB.frozen (p := ⟨Bc, 0, none⟩) (by show Bc < _; omega)).trans h4) ⟨hI1, hL1, hD1⟩).mono ?_
  ·rintro pre x W ⟨hi, hl, hd⟩ hpre
   have hlt : w.heap.size + 1 < W.heap.size := (Array.getElem?_eq_some_iff.1 hl).1
   have hy := run_yield (P := Tryz.prog) (args := #[.string (S x)]) hl (by rw [hrec]; rfl)
   have hy2 := hy; rw [hrec] at hy2
   refine ⟨fn, a.tmps.setIfInBounds p (.string (S x)), assign, body, by simpa using hy2, ?_⟩
   refine roundIn_of_wpIn hfn ?_
   refine hassign _ x W _ ?_
   refine ⟨_, run_beginRound hl (by rw [hrec]), ?_⟩
   have hl2 : (W.putObj (w.heap.size + 1) (.loop { rec .ready none with state := .busy })).heap[w.heap.size + 1]? = some (.loop { rec .ready none with state := .busy }) := World.putObj_heap_same hlt
   have hd2 : (W.putObj (w.heap.size + 1) (.loop { rec .ready none with state := .busy })).heap[w.heap.size]? = some (.deferred (some [])) := (World.putObj_heap_other (by omega)).trans hd
   have hb2 : Kept3 Bs_ Bc Bv W (W.putObj (w.heap.size + 1) (.loop { rec .ready none with state := .busy })) := ⟨World.putObj_heap_other (by omega), World.putObj_heap_other (by omega), World.putObj_heap_other (by omega)⟩
   refine wpIn_mono (hbody _ pre x _ (hI.putObj _ hi (by omega) hl rfl) hpre) ?_
   have fin : ∀ (jump : Option Code) (W3 : World), KeepsOthers (W.putObj (w.heap.size + 1) (.loop { rec .ready none with state := .busy })) W3 →
     ∃ W4, (Instr.endRound (w.heap.size + 1) jump).run Tryz.prog W3 = .ok (.bool jump.isNone) W4 ∧ W4 = W3.putObj (w.heap.size + 1) (.loop (rec (if jump.isNone then .ready else .done) jump)) ∧ W3.heap[w.heap.size + 1]? = some (.loop { rec .ready none with state := .busy }) ∧
      W4.heap[w.heap.size + 1]? = some (.loop (rec (if jump.isNone then .ready else .done) jump)) ∧ W4.heap[w.heap.size]? = some (.deferred (some [])) := fun jump W3 hk3 => by
    have hl3 := hk3.same _ _ hl2 rfl
    have he := run_endRound (P := Tryz.prog) jump hl3
    refine ⟨_, he, ?_, hl3, ?_, (World.putObj_heap_other (by omega)).trans (hk3.same _ _ hd2 rfl)⟩
    ·rw [hrec]
    ·rw [World.putObj_heap_same (Array.getElem?_eq_some_iff.1 hl3).1, hrec]
   rintro e a3 W3 hp
   cases e with
   | normal =>
    obtain ⟨hk3, hb3, hi3⟩ := hp
    obtain ⟨W4, hr, rfl, hl3, hl4, hd4⟩ := fin none W3 hk3
    exact ⟨_, _, hr, .inl ⟨rfl, ⟨hI.putObj _ hi3 (by omega) hl3 rfl, hl4, hd4⟩, (hb2.trans hb3).trans ⟨World.putObj_heap_other (by omega), World.putObj_heap_other (by omega), World.putObj_heap_other (by omega)⟩⟩⟩
   | ret =>
    obtain ⟨hk3, hi3⟩ := hp
    obtain ⟨W4, hr, rfl, hl3, hl4, hd4⟩ := fin (some .ret) W3 hk3
    exact ⟨_, _, hr, .inr ⟨rfl, hIx.putObj _ hi3 (by omega) hl3 rfl, hl4, hd4⟩⟩
   | exit id => exact hp.elim
   | goto t => exact hp.elim
   | panic ch => exact hp.elim
   | outgrown => exact hp.elim
  ·rintro e W2 ⟨⟨v, rfl⟩, (⟨hi, hl, hd⟩ | ⟨pre, hpre, hi, hl, hd⟩)⟩
   ·have he := run_endLoop (P := Tryz.prog) hl (by rw [hrec]; simp)
    refine ⟨none, _, by rw [hrec] at he; exact he, hdone _ _ (hI.putObj _ hi (by omega) hl rfl) ((World.putObj_heap_other (by omega)).trans hd) (Nat.le_refl _)⟩
   ·have he := run_endLoop (P := Tryz.prog) hl (by rw [hrec]; simp)
    refine ⟨some .ret, _, by rw [hrec] at he; exact he, hstop _ pre _ hpre (hIx.putObj _ hi (by omega) hl rfl) ((World.putObj_heap_other (by omega)).trans hd) (Nat.le_refl _)⟩
attribute [local go_sem] Oper.semAt_some
theorem i_splitSeq (b : Bs) (c : UInt8) (w : World) :
  Calls Tryz.prog 168 #[.string (S b), .string (S [c]), .int .i64 0] w fun e w' =>
   e = .returned (.func (.func 187) #[] #[.pointer (some ⟨w.heap.size + 1, 0, none⟩), .pointer (some ⟨w.heap.size, 0, none⟩), .pointer (some ⟨w.heap.size + 1 + 1, 0, none⟩)]) ∧
   w' = ((w.alloc (.cells #[.string (S b)] 9)).alloc (.cells #[.string (S [c])] 9)).alloc (.cells #[.int .i64 0] 3) := by
 go_enter Tryz.func168, Tryz.ntmps168
 go_wp2_with fail
 go_ret
 exact ⟨rfl, rfl⟩
theorem i_SplitSeq (b : Bs) (c : UInt8) (w : World) :
  Calls Tryz.prog 143 #[.string (S b), .string (S [c])] w fun e w' =>
   e = .returned (.func (.func 187) #[] #[.pointer (some ⟨w.heap.size + 1, 0, none⟩), .pointer (some ⟨w.heap.size, 0, none⟩), .pointer (some ⟨w.heap.size + 1 + 1, 0, none⟩)]) ∧
   w' = ((w.alloc (.cells #[.string (S b)] 9)).alloc (.cells #[.string (S [c])] 9)).alloc (.cells #[.int .i64 0] 3) := by
 have HC := Lib.hid (fun w => i_splitSeq b c w)
 go_enter Tryz.func143, Tryz.ntmps143
 go_wp2_with fail
 refine (HC.out _).mono ?_
 rintro e w' ⟨rfl, rfl⟩
 go_wp2_with fail
 go_ret
 exact ⟨rfl, rfl⟩
theorem app_pf_in {F : Fence} {n : Nat} {w : World} {ops : Array Oper} {rest : List Oper} {o : Oper} {a : Act} {Q : Exit → Act → World → Prop} (hgd : o.guard = none) (s x : Operand)
  (ho : o.op = .call { callee := .builtin .append, args := #[s, x], argTypes := #[113, 113] })
  (B : Nat) (v : Value) (fs : List PF) (hs : a.eval s = v) (hown : PFlds w B v fs) (b : Nat) (f : Fl) (q : Option Addr) (hx : a.eval x = .slice (some ⟨b, 0, none⟩) 1 1) (hc : Blk w b 55 #[.int .i64 f.tag, .string (S f.name), .string (S f.kind), .string (S f.stand), .pointer q])
  (hn : fs.length ≤ 3000000) (hB : B ≤ w.heap.size)
  (h : ∀ v' w', PFlds w' B v' (fs ++ [(f, q)]) → w.grownBy w' v.ownBlock → wpListIn F n Tryz.prog ops Q rest (a.put o.dst v') w') : wpListIn F n Tryz.prog ops Q (o :: rest) a w := by
 obtain ⟨i, hi0, hz0, hz1, hz2⟩ := info_parts info_fieldDef
 refine wpListIn_append_own w hgd s x 113 ho B 55 i _ 5 64 Tryz.underlying113 hi0 hz0 hz1 hz2 rfl (by omega) v fs.length (fs.flatMap pfCells) hs hown ⟨b, 0, none⟩ 1 1 (pfCells (f, q)) hx rfl ?_ ?_ (by unfold maxLen; omega) (by omega) hB (fun v' w' h1 h2 _ => h v' w' ?_ h2)
 ·intro j u hj
  match j, hj with
  | 0, hj => simp [pfCells] at hj; subst hj; exact hc.cell 0
  | 1, hj => simp [pfCells] at hj; subst hj; exact hc.cell 1
  | 2, hj => simp [pfCells] at hj; subst hj; exact hc.cell 2
  | 3, hj => simp [pfCells] at hj; subst hj; exact hc.cell 3
  | 4, hj => simp [pfCells] at hj; subst hj; exact hc.cell 4
 ·intro u hu
  simp [pfCells] at hu
  rcases hu with rfl | rfl | rfl | rfl | rfl <;> rfl
 ·unfold PFlds; rw [List.length_append, List.flatMap_append]; simpa using h1
def un (x : List Fl) : List PF := x.map fun f => (f, none)
theorem un_fst (x : List Fl) : (un x).map (·.1) = x := by unfold un; induction x <;> simp_all
theorem un_app (x : List Fl) (f : Fl) : un (x ++ [f]) = un x ++ [(f, none)] := by simp [un]
theorem un_len (x : List Fl) : (un x).length = x.length := by simp [un]
def RetPFs (w : World) (o : Option (List Fl)) (e : Ending) (w' : World) : Prop := ∃ (v : Value) (x : List Fl), e = .returned (.tuple #[v, .bool o.isSome]) ∧ PFlds w' w.heap.size v (un x) ∧ (∀ y, o = some y → x = y) ∧ Below w.heap.size w w'
theorem blk_at {w : World} {k : Nat} {t : TypeId} {cs : Array Value} (h : k = w.heap.size) : Blk (w.alloc (.cells cs t)) k t cs := h ▸ Blk.new w t cs
theorem Blk.own {W W' : World} {row : Option Nat} {g : Nat} {t : TypeId} {cs : Array Value} (h : Blk W g t cs) (hg : W.grownBy W' row) (hr : ∀ r, row = some r → ∃ o : Obj, W.heap[r]? = some o ∧ o.isCells = false) : Blk W' g t cs :=
 (grownBy_keeps_cells hg hr h rfl).trans h
theorem PFlds.own {W W' : World} {row : Option Nat} {B : Nat} {v : Value} {fs : List PF} (h : PFlds W B v fs) (hg : W.grownBy W' row) (hr : ∀ r, row = some r → r < B ∨ ∃ o : Obj, W.heap[r]? = some o ∧ o.isCells = false) : PFlds W' B v fs := by
 obtain ⟨ao, cap, rfl, hc, hf⟩ := h.form
 refine h.kept hg ?_
 rcases hf with ⟨rfl, -⟩ | ⟨g, rfl, hB, hlt⟩
 ·exact .inl rfl
 ·refine .inr ?_
  intro e
  rcases hr g e.symm with h1 | ⟨o, h1, h2⟩
  ·omega
  ·rcases h.2 with ⟨e1, -⟩ | ⟨g', cap', cur, e1, hb, hg', -⟩
   ·cases e1
   ·injection e1 with e1 _ _; injection e1 with e1; injection e1 with e1 _ _
    subst e1
    rw [hg'] at h1; injection h1 with h1; subst h1; cases h2
theorem fieldsP_app (c : Int) (pre : List Bs) (s : Bs) (fs : List Fl) : fieldsP c (pre ++ [s]) fs = match fieldsP c pre fs with
  | none => none
  | some x => match fieldP s c with
   | none => none
   | some f => if mayP x f = true then some (x ++ [f]) else none := by
 induction pre generalizing fs with
 | nil => rw [List.nil_append, fieldsP, fieldsP]; cases fieldP s c <;> simp [fieldsP]
 | cons a r ih =>
  rw [List.cons_append, fieldsP, fieldsP]
  cases fieldP a c with
  | none => rfl
  | some f =>
   simp only
   by_cases h : mayP fs f = true
   ·rw [if_pos h, if_pos h, ih]
   ·rw [if_neg h, if_neg h]
theorem fieldsP_pre (c : Int) {pre L : List Bs} (h : pre <+: L) (fs : List Fl) (hn : fieldsP c pre fs = none) : fieldsP c L fs = none := by
 obtain ⟨r, rfl⟩ := h
 induction pre generalizing fs with
 | nil => cases hn
 | cons a p ih =>
  rw [fieldsP] at hn
  rw [List.cons_append, fieldsP]
  cases hf : fieldP a c with
  | none => rfl
  | some f =>
   rw [hf] at hn
   simp only at hn ⊢
   by_cases h : mayP fs f = true
   ·rw [if_pos h] at hn ⊢; exact ih _ hn
   ·rw [if_neg h]
def RF (w : World) (c : UInt8) (pre : List Bs) (W : World) : Prop := ∃ (v : Value) (x : List Fl), fieldsP (c.toNat : Int) pre [] = some x ∧ x.length ≤ 8 ∧
 Blk W w.heap.size 9 #[.string (S [c])] ∧ Blk W (w.heap.size + 1) 113 #[.slice none 0 0] ∧ Blk W (w.heap.size + 1 + 1) 4 #[.bool false] ∧ Blk W (w.heap.size + 1 + 1 + 1) 113 #[v] ∧
 PFlds W (w.heap.size + 7) v (un x) ∧ Below w.heap.size w W ∧ w.heap.size + 7 ≤ W.heap.size
def RFx (w : World) (c : UInt8) (pre : List Bs) (W : World) : Prop := fieldsP (c.toNat : Int) pre [] = none ∧
 Blk W (w.heap.size + 1) 113 #[.slice none 0 0] ∧ Blk W (w.heap.size + 1 + 1) 4 #[.bool false] ∧ Below w.heap.size w W ∧ w.heap.size + 7 ≤ W.heap.size
theorem own_RF (w : World) (c : UInt8) : OwnFrom (w.heap.size + 7) (RF w c) := by
 rintro pre W W' row ⟨v, x, h, h8, k0, k1, k2, k3, hp, hb, hs⟩ hg hr
 have hr2 := fun r e => (hr r e).2
 exact ⟨v, x, h, h8, k0.own hg hr2, k1.own hg hr2, k2.own hg hr2, k3.own hg hr2, hp.own hg (fun r e => .inr (hr2 r e)), hb.grown hg hb.size (fun k e => by have := (hr k e).1; omega), Nat.le_trans hs hg.size⟩
theorem own_RFx (w : World) (c : UInt8) : OwnFrom (w.heap.size + 7) (RFx w c) := by
 rintro pre W W' row ⟨h, k1, k2, hb, hs⟩ hg hr
 have hr2 := fun r e => (hr r e).2
 exact ⟨h, k1.own hg hr2, k2.own hg hr2, hb.grown hg hb.size (fun k e => by have := (hr k e).1; omega), Nat.le_trans hs hg.size⟩
theorem RF.cur {w : World} {c : UInt8} {pre : List Bs} {W : World} (u : Value) (h : RF w c pre W) : RF w c pre (W.setCell ⟨w.heap.size + 1 + 1 + 1 + 1, 0, none⟩ u) := by
 obtain ⟨v, x, h, h8, k0, k1, k2, k3, hp, hb, hs⟩ := h
 have hg := grownBy_setCell' W (w.heap.size + 1 + 1 + 1 + 1) u
 refine ⟨v, x, h, h8, k0.far (by show _ ≠ w.heap.size + 1 + 1 + 1 + 1; omega) u, k1.far (by show _ ≠ w.heap.size + 1 + 1 + 1 + 1; omega) u, k2.far (by show _ ≠ w.heap.size + 1 + 1 + 1 + 1; omega) u, k3.far (by show _ ≠ w.heap.size + 1 + 1 + 1 + 1; omega) u, hp.own hg (fun r e => by injection e with e; subst e; left; omega), hb.grown hg hb.size (fun k e => by injection e with e; omega), Nat.le_trans hs hg.size⟩
theorem keeps_below {W W' : World} (h : Below W.heap.size W W') : KeepsOthers W W' := KeepsOthers.of_grownBy (grown_of_below h none) (fun j o e => by cases e)
theorem Blk.same {w : World} {g : Nat} {t : TypeId} {u : Value} (h : Blk w g t #[u]) (z : Value) : Blk (w.setCell ⟨g, 0, none⟩ z) g t #[z] := by have := h.set_ 0 z; simpa using this
theorem RFx.of {w W W1 : World} {c : UInt8} {L : List Bs} (hn : fieldsP (c.toNat : Int) L [] = none) (k1 : Blk W (w.heap.size + 1) 113 #[.slice none 0 0]) (k2 : Blk W (w.heap.size + 1 + 1) 4 #[.bool false])
  (hb : Below w.heap.size w W) (hs : w.heap.size + 7 ≤ W.heap.size) (hb1 : Below W.heap.size W W1) : KeepsOthers W ((W1.setCell ⟨w.heap.size + 1, 0, none⟩ (.slice none 0 0)).setCell ⟨w.heap.size + 1 + 1, 0, none⟩ (.bool false)) ∧
   RFx w c L ((W1.setCell ⟨w.heap.size + 1, 0, none⟩ (.slice none 0 0)).setCell ⟨w.heap.size + 1 + 1, 0, none⟩ (.bool false)) := by
 have q1 := k1.keep hb1
 have q2 := k2.keep hb1
 have hs1 := hb1.size
 refine ⟨((keeps_below hb1).trans (KeepsOthers.setCell _ _ _)).trans (KeepsOthers.setCell _ _ _), hn, ?_, ?_, ?_, ?_⟩
 ·exact (q1.same _).far (by show w.heap.size + 1 ≠ w.heap.size + 1 + 1; omega) _
 ·exact (q2.far (by show w.heap.size + 1 + 1 ≠ w.heap.size + 1; omega) _).same _
 ·exact below_set (below_set (hb.trans (hb1.mono (by omega))) (by show w.heap.size ≤ w.heap.size + 1; omega) _) (by show w.heap.size ≤ w.heap.size + 1 + 1; omega) _
 ·simp; omega
theorem PFlds.row_cells {W : World} {B : Nat} {v : Value} {fs : List PF} (h : PFlds W B v fs) (j : Nat) (o : Obj) (e : v.ownBlock = some j) (ho : W.heap[j]? = some o) : o.isCells = true := by
 rcases h.2 with ⟨rfl, -⟩ | ⟨g', cap', cur, rfl, hb, hg', -⟩
 ·cases e
 ·injection e with e; subst e; rw [hg'] at ho; injection ho with ho; subst ho; rfl
theorem Blk.row {W W' : World} {row : Option Nat} {g : Nat} {t : TypeId} {cs : Array Value} (h : Blk W g t cs) (hg : W.grownBy W' row) (hr : some g ≠ row) : Blk W' g t cs := (hg.block g h.lt hr).trans h
theorem RF.more {w W W2 w3 : World} {c : UInt8} {L : List Bs} {v v' : Value} {y : List Fl} {g : Fl} {o : Obj} (hn : fieldsP (c.toNat : Int) L [] = some (y ++ [g])) (h8 : y.length ≤ 8) (h8' : y.length ≠ 8)
  (k0 : Blk W w.heap.size 9 #[.string (S [c])]) (k1 : Blk W (w.heap.size + 1) 113 #[.slice none 0 0]) (k2 : Blk W (w.heap.size + 1 + 1) 4 #[.bool false]) (k3 : Blk W (w.heap.size + 1 + 1 + 1) 113 #[v])
  (hb : Below w.heap.size w W) (hs : w.heap.size + 7 ≤ W.heap.size) (hb2 : Below W.heap.size W W2) (hpx : PFlds (W2.alloc o) (w.heap.size + 7) v (un y)) (hob : ∀ k, k < w.heap.size + 7 → some k ≠ v.ownBlock)
  (hg : (W2.alloc o).grownBy w3 v.ownBlock) (hp3 : PFlds w3 (w.heap.size + 7) v' (un y ++ [(g, none)])) :
  KeepsOthers W (w3.setCell ⟨w.heap.size + 1 + 1 + 1, 0, none⟩ v') ∧ Kept3 (w.heap.size + 1 + 1 + 1 + 1 + 1) (w.heap.size + 1 + 1 + 1 + 1) (w.heap.size + 1 + 1 + 1 + 1 + 1 + 1) W (w3.setCell ⟨w.heap.size + 1 + 1 + 1, 0, none⟩ v') ∧
   RF w c L (w3.setCell ⟨w.heap.size + 1 + 1 + 1, 0, none⟩ v') := by
 have hs2 := hb2.size
 have hsa : (W2.alloc o).heap.size = W2.heap.size + 1 := by simp
 have hkk : ∀ k, k < w.heap.size + 7 → k ≠ w.heap.size + 1 + 1 + 1 → (w3.setCell ⟨w.heap.size + 1 + 1 + 1, 0, none⟩ v').heap[k]? = W.heap[k]? := fun k hk hne =>
  (heap_set_ne (Ne.symm hne)).trans ((hg.block k (by omega) (hob k hk)).trans ((Below.heap_alloc _ _ k (by omega)).trans (hb2.block k (by omega))))
 refine ⟨(((keeps_below hb2).trans (KeepsOthers.alloc _ _)).trans (KeepsOthers.of_grownBy hg hpx.row_cells)).trans (KeepsOthers.setCell _ _ _), ⟨hkk _ (by omega) (by omega), hkk _ (by omega) (by omega), hkk _ (by omega) (by omega)⟩, v', y ++ [g], hn, by simp; omega, ?_, ?_, ?_, ?_, ?_, ?_, ?_⟩
 ·exact (hkk _ (by omega) (by omega)).trans k0
 ·exact (hkk _ (by omega) (by omega)).trans k1
 ·exact (hkk _ (by omega) (by omega)).trans k2
 ·exact (((k3.keep hb2).alloc o).row hg (hob _ (by omega))).same _
 ·rw [un_app]
  exact hp3.own (grownBy_setCell' _ _ _) (fun r e => by injection e with e; subst e; left; omega)
 ·refine below_set ((below_alloc (hb.trans (hb2.mono (by omega))) o).grown hg (by omega) ?_) (by show w.heap.size ≤ w.heap.size + 1 + 1 + 1; omega) _
  intro k e
  rcases Nat.lt_or_ge k (w.heap.size + 7) with h | h
  ·exact absurd e.symm (hob k h)
  ·omega
 ·have := hg.size; simp; omega
theorem i_readFields_none (c : UInt8) (w : World) : Calls Tryz.prog 116 #[.string (S [c]), .string (S [])] w (RetPFs w (bodyP (c.toNat : Int) [])) := by
 go_enter Tryz.func116, Tryz.ntmps116
 go_wp2_with fail
 go_region
 go_wp2_with fail
 refine bodyPost_ret (v := .tuple #[.slice none 0 0, .bool (c == 82)]) ?_ rfl ?_
 ·simp [results, Tryz.results116, go_sem]
 refine ⟨.slice none 0 0, [], ?_, PFlds.nil_ _ _, ?_, by (repeat (first | with_reducible exact Below.refl _ _ | with_reducible apply below_drew | with_reducible apply below_draws | with_reducible apply below_alloc | with_reducible apply below_set | (with_reducible refine below_trans ?_ (by assumption)) | (with_reducible refine Below.trans ?_ (by assumption)) | exact Nat.le_refl _ | omega | (simp <;> omega)))⟩
 ·have : (bodyP (c.toNat : Int) []).isSome = (c == 82) := by
   unfold bodyP
   rw [if_pos rfl]
   by_cases h : c = 82
   ·subst h; rfl
   ·rw [if_neg (by intro e; exact h (UInt8.toNat_inj.1 (by show _ = 82; omega)))]; simp [h]
  rw [this]
 ·intro y hy
  unfold bodyP at hy
  rw [if_pos rfl] at hy
  split at hy
  ·injection hy
  ·cases hy
set_option maxHeartbeats 4000000 in
theorem i_readFields_some (b : Bs) (c : UInt8) (w : World) (hs : b.length ≤ 1000000) (hc : isSort (c.toNat : Int) = true) (h0 : b ≠ []) :
  Calls Tryz.prog 116 #[.string (S [c]), .string (S b)] w (RetPFs w (bodyP (c.toNat : Int) b)) := by
 have he : b.isEmpty = false := by cases hx : b with | nil => exact absurd hx h0 | cons _ _ => rfl
 have HB := Lib.hid (show bodyP (c.toNat : Int) b = fieldsP (c.toNat : Int) (cutL 44 b) [] by unfold bodyP; rw [if_neg h0])
 have HS := Lib.hid hs
 have HC := Lib.hid hc
 clear h0 hs hc
 refine (callsIn_wide (n := 0)).1 (callsIn_of_wp_marks Tryz.func116 rfl trivial ?_ rfl)
 simp only [Tryz.ntmps116, List.size_toArray, List.length_cons, List.length_nil, Nat.reduceAdd, Nat.reduceSub, Array.replicate_succ, Array.replicate_zero, List.push_toArray, List.append_toArray, List.nil_append, List.cons_append]
 gi_wp2
 refine ⟨trivial, rfl, ?_⟩
 refine (callsIn_wide.2 (i_SplitSeq b 44 _)).mono ?_
 rintro e w' ⟨rfl, rfl⟩
 gi_wp2
 obtain ⟨W0, hW0⟩ : ∃ W0, (((((((w.alloc (.cells #[.string (S [c])] 9)).alloc (.cells #[.slice none 0 0] 113)).alloc (.cells #[.bool false] 4)).alloc (.cells #[.slice none 0 0] 113)).alloc (.cells #[.string (S b)] 9)).alloc (.cells #[.string (S [44])] 9)).alloc (.cells #[.int .i64 0] 3)) = W0 := ⟨_, rfl⟩
 rw [hW0]
 have b0 : Blk W0 w.heap.size 9 #[.string (S [c])] := by rw [← hW0]; exact ((((((Blk.new w _ _).alloc _).alloc _).alloc _).alloc _).alloc _).alloc _
 have b1 : Blk W0 (w.heap.size + 1) 113 #[.slice none 0 0] := by rw [← hW0]; exact (((((blk_at (by simp)).alloc _).alloc _).alloc _).alloc _).alloc _
 have b2 : Blk W0 (w.heap.size + 1 + 1) 4 #[.bool false] := by rw [← hW0]; exact ((((blk_at (by simp)).alloc _).alloc _).alloc _).alloc _
 have b3 : Blk W0 (w.heap.size + 1 + 1 + 1) 113 #[.slice none 0 0] := by rw [← hW0]; exact (((blk_at (by simp)).alloc _).alloc _).alloc _
 have b4 : Blk W0 (w.heap.size + 1 + 1 + 1 + 1) 9 #[.string (S b)] := by rw [← hW0]; exact ((blk_at (by simp)).alloc _).alloc _
 have b5 : Blk W0 (w.heap.size + 1 + 1 + 1 + 1 + 1) 9 #[.string (S [44])] := by rw [← hW0]; exact (blk_at (by simp)).alloc _
 have b6 : Blk W0 (w.heap.size + 1 + 1 + 1 + 1 + 1 + 1) 3 #[.int .i64 0] := by rw [← hW0]; exact blk_at (by simp)
 have hbw : Below w.heap.size w W0 := by rw [← hW0]; (repeat (first | exact Below.refl _ _ | apply below_drew | apply below_draws | apply below_alloc | (refine below_trans ?_ (by assumption)) | (refine Below.trans ?_ (by assumption))))
 have hsz : W0.heap.size = w.heap.size + 7 := by rw [← hW0]; simp
 clear hW0
 refine wp_pieces 44 b HS.out (w.heap.size + 1 + 1 + 1 + 1 + 1) (w.heap.size + 1 + 1 + 1 + 1) (w.heap.size + 1 + 1 + 1 + 1 + 1 + 1) (by omega) (by omega) (by omega) (by omega) (by omega) rfl (b5.cell 0) (b4.cell 0) (b6.cell 0) (b4.frozen 0)
  (RF w c) (RFx w c) (hsz ▸ own_RF w c) (hsz ▸ own_RFx w c) (fun pre W u h => h.cur u) ⟨.slice none 0 0, [], rfl, by simp, b0, b1, b2, b3, PFlds.nil_ _ _, hbw, by omega⟩ (fun x => { tmps := #[.string (S [c]), .string (S b), .pointer (some ⟨w.heap.size, 0, none⟩), undef, .pointer (some ⟨w.heap.size + 1, 0, none⟩), .pointer (some ⟨w.heap.size + 1 + 1, 0, none⟩), .pointer (some ⟨w.heap.size + 1 + 1 + 1, 0, none⟩), .string (S x), undef, undef, .string (S b), .bool false, undef, undef, .string (S b), .func (.func 187) #[] #[.pointer (some ⟨w.heap.size + 1 + 1 + 1 + 1 + 1, 0, none⟩), .pointer (some ⟨w.heap.size + 1 + 1 + 1 + 1, 0, none⟩), .pointer (some ⟨w.heap.size + 1 + 1 + 1 + 1 + 1 + 1, 0, none⟩)], .string (S x), undef, undef, undef, undef, undef, undef, undef, undef, undef, undef, undef, undef, undef, undef, undef, undef, undef, undef, undef], defers := [] }) ?_ ?_ ?_ ?_
 ·intro l x W K hK
  gi_wp2
  exact hK
 ·rintro l pre x W ⟨v, y, hy, hy8, k0, k1, k2, k3, hp, hb, hs⟩ hpre
  dsimp only
  rw [show (((44 : UInt8).toNat : Int)) = 44 from rfl] at hpre
  have hxl : x.length ≤ 1000000 := Nat.le_trans (cutL_len 44 b x (hpre.subset (by simp))) HS.out
  have HF := Lib.hid (fun w => i_readField x c w hxl HC.out)
  rw [← fieldP_eq x _ HC.out] at HF
  have HA := Lib.hid (fieldsP_app (c.toNat : Int) pre x [])
  rw [hy] at HA
  simp only at HA
  have HY := Lib.hid hy; clear hy
  have c0 := k0.cell 0
  have c3 := k3.cell 0
  have f3 := k3.frozen 0
  simp at c0 c3
  clear b0 b1 b2 b3 b4 b5 b6 HB hpre
  have K0 := Lib.hid k0; have K1 := Lib.hid k1; have K2 := Lib.hid k2; have K3 := Lib.hid k3; have HP := Lib.hid hp; have HW := Lib.hid hb
  clear k0 k1 k2 k3 hp hb hbw
  have q1 := K1.out.cell 0
  have g1 := K1.out.frozen 0
  have q2 := K2.out.cell 0
  have g2 := K2.out.frozen 0
  simp at q1 q2
  cases ho : fieldP x (c.toNat : Int) with
  | none =>
   rw [ho] at HF HA
   simp only at HA
   clear ho
   gi_wp2
   refine ⟨trivial, rfl, ?_⟩
   refine (CallsIn.inRound l (callsIn_wide.2 (HF.out _))).mono ?_
   rintro e W1 ⟨g, rfl, -, hb1⟩
   have y1 := cell_later hb1 q1
   have y2 := cell_later hb1 q2
   have z1 := later_free hb1 (by omega) g1
   have z2 := later_free hb1 (by omega) g2
   have l1 : w.heap.size + 1 < W1.heap.size := by have := hb1.size; omega
   have l2 : w.heap.size + 1 + 1 < W1.heap.size := by have := hb1.size; omega
   clear q1 q2 g1 g2 c0 c3 f3
   have HB1 := Lib.hid hb1; clear hb1
   unfold pfv
   gi_wp2
   refine ⟨trivial, ?_⟩
   gi_wp2
   obtain ⟨r1, r2⟩ := RFx.of HA.out K1.out K2.out HW.out hs HB1.out
   exact ⟨r1.trans (KeepsOthers.alloc _ _), (own_RFx w c).alloc _ r2⟩
  | some g =>
   rw [ho] at HF HA
   simp only at HA
   clear ho
   have HM := Lib.hid (fun w' (h : PFlds w' (w.heap.size + 7) v (un y)) => i_mayFollow v (un y) g (w.heap.size + 7) w' h (by rw [un_len]; omega))
   rw [un_fst] at HM
   gi_wp2
   refine ⟨trivial, rfl, ?_⟩
   refine (CallsIn.inRound l (callsIn_wide.2 (HF.out _))).mono ?_
   rintro e W1 ⟨g', rfl, hg', hb1⟩
   obtain rfl := hg' g rfl
   have y1 := cell_later hb1 q1
   have y2 := cell_later hb1 q2
   have y3 := cell_later hb1 c3
   have z1 := later_free hb1 (by omega) g1
   have z2 := later_free hb1 (by omega) g2
   have z3 := later_free hb1 (by omega) f3
   have l1 : w.heap.size + 1 < W1.heap.size := by have := hb1.size; omega
   have l2 : w.heap.size + 1 + 1 < W1.heap.size := by have := hb1.size; omega
   have l3 : w.heap.size + 1 + 1 + 1 < W1.heap.size := by have := hb1.size; omega
   clear q1 q2 g1 g2 c0 c3 f3
   have HB1 := Lib.hid hb1; clear hb1
   unfold pfv at HM ⊢
   gi_wp2
   refine ⟨trivial, rfl, ?_⟩
   refine (CallsIn.inRound l (callsIn_wide.2 (HM.out _ ((HP.out.below HB1.out).below (below_alloc (Below.refl _ _) _))))).mono ?_
   rintro e W2 ⟨rfl, hb2⟩
   have hB := (Blk.new W1 55 #[.int .i64 g'.tag, .string (S g'.name), .string (S g'.kind), .string (S g'.stand), .pointer none]).keep hb2
   have hb12 : Below W1.heap.size W1 W2 := (below_alloc (Below.refl _ _) _).trans (hb2.mono (by simp))
   have u1 := cell_later hb12 y1
   have u2 := cell_later hb12 y2
   have u3 := cell_later hb12 y3
   have v1 := later_free hb12 l1 z1
   have v2 := later_free hb12 l2 z2
   have v3 := later_free hb12 l3 z3
   have m1 : W1.heap.size < W2.heap.size := hB.lt
   clear y1 y2 y3 z1 z2 z3 hb2
   have HB2 := Lib.hid (HB1.out.trans (hb12.mono HB1.out.size)); clear hb12
   cases hm : mayP y g' with
   | false =>
    rw [hm, if_neg (by decide)] at HA
    clear hm HM hB
    gi_wp2
    exact RFx.of HA.out K1.out K2.out HW.out hs HB2.out
   | true =>
    rw [hm, if_pos rfl] at HA
    have hlen : y.length ≠ 8 := by intro e; rw [mayP_8 e] at hm; cases hm
    clear hm HM
    have e0 := hB.cell 0
    have e1 := hB.cell 1
    have e2 := hB.cell 2
    have e3 := hB.cell 3
    have e4 := hB.cell 4
    simp at e0 e1 e2 e3 e4
    obtain ⟨ao, cap, rfl, hcap, hao⟩ := HP.out.form
    have HAO := Lib.hid hao; clear hao
    have hob : ∀ k, k < w.heap.size + 7 → some k ≠ (Value.slice ao (un y).length cap).ownBlock := by
     intro k hk e
     rcases HAO.out with ⟨h, -⟩ | ⟨g, h, h2, -⟩
     ·rw [h] at e; cases e
     ·rw [h] at e; injection e with e; have e2 : k = g := e; omega
    have HO := Lib.hid hob; clear hob
    have HX := Lib.hid ((HP.out.below HB2.out).below (below_alloc (Below.refl _ _) (.cells #[.int .i64 g'.tag, .string (S g'.name), .string (S g'.kind), .string (S g'.stand), .pointer none] 55)))
    have HBW := Lib.hid (Blk.new W2 55 #[.int .i64 g'.tag, .string (S g'.name), .string (S g'.kind), .string (S g'.stand), .pointer none])
    have hul : (un y).length ≤ 8 := by rw [un_len]; exact hy8
    have HSZ := HB2.out.size
    have A3 := Lib.hid (cell_later (below_alloc (Below.refl W2.heap.size W2) (.cells #[.int .i64 g'.tag, .string (S g'.name), .string (S g'.kind), .string (S g'.stand), .pointer none] 55)) u3)
    have A4 := Lib.hid (later_free (below_alloc (Below.refl W2.heap.size W2) (.cells #[.int .i64 g'.tag, .string (S g'.name), .string (S g'.kind), .string (S g'.stand), .pointer none] 55)) (show w.heap.size + 1 + 1 + 1 < W2.heap.size by omega) v3)
    have hl4 : w.heap.size + 1 + 1 + 1 < (W2.alloc (.cells #[.int .i64 g'.tag, .string (S g'.name), .string (S g'.kind), .string (S g'.stand), .pointer none] 55)).heap.size := by rw [World.size_alloc]; omega
    have hl5 : w.heap.size + 7 ≤ (W2.alloc (.cells #[.int .i64 g'.tag, .string (S g'.name), .string (S g'.kind), .string (S g'.stand), .pointer none] 55)).heap.size := by rw [World.size_alloc]; omega
    have HL4 := Lib.hid hl4; have HL5 := Lib.hid hl5; clear hl4 hl5
    have hul3 : (un y).length ≤ 3000000 := by omega
    gi_wp2_with (gi_at_builtin; refine app_pf_in ?hgd (.tmp 31) (.tmp 33) ?ho (w.heap.size + 7) (.slice ao (un y).length cap) (un y) ?hs HX.out W2.heap.size g' none ?hx HBW.out hul3 HL5.out ?hh; (case hgd => rfl); (case ho => rfl); (case hs => rfl); (case hx => rfl); intro v' w3 hp3 hg3; have t3 := (World.cell?_of_block (a := ⟨w.heap.size + 1 + 1 + 1, 0, none⟩) (hg3.block (w.heap.size + 1 + 1 + 1) HL4.out (HO.out (w.heap.size + 1 + 1 + 1) (by omega)))).trans A3.out; have t4 := (World.frozen?_of_block (a := ⟨w.heap.size + 1 + 1 + 1, 0, none⟩) (hg3.block (w.heap.size + 1 + 1 + 1) HL4.out (HO.out (w.heap.size + 1 + 1 + 1) (by omega)))).trans A4.out; have HG3 := Lib.hid hg3; clear hg3; obtain ⟨ao3, cap3, rfl, -, -⟩ := hp3.form; have HP3 := Lib.hid hp3; clear hp3)
    have HP4 := HP3.out
    rw [show (un y ++ [(g', (none : Option Addr))]).length = (un y).length + 1 by simp] at HP4
    exact RF.more HA.out hy8 hlen K0.out K1.out K2.out K3.out HW.out hs HB2.out HX.out HO.out HG3.out HP4
 ·rintro D W ⟨v, y, hy, hy8, k0, k1, k2, k3, hp, hb, hs⟩ hD hlt
  dsimp only
  obtain ⟨ao, cap, rfl, -, -⟩ := hp.form
  have c1 := k1.cell 0
  have f1 := k1.frozen 0
  have c2 := k2.cell 0
  have f2 := k2.frozen 0
  have c3 := k3.cell 0
  simp at c1 c2 c3
  have K1 := Lib.hid k1; have K2 := Lib.hid k2; have HP := Lib.hid hp; have HW := Lib.hid hb; have HY := Lib.hid hy; have HD := Lib.hid hD
  clear b0 b1 b2 b3 b4 b5 b6 k0 k1 k2 k3 hp hb hy hD hbw
  gi_wp2
  have q1 : Blk ((W.setCell ⟨w.heap.size + 1, 0, none⟩ (.slice ao (un y).length cap)).setCell ⟨w.heap.size + 1 + 1, 0, none⟩ (.bool true)) (w.heap.size + 1) 113 #[.slice ao (un y).length cap] := (K1.out.same _).far (by show w.heap.size + 1 ≠ w.heap.size + 1 + 1; omega) _
  have q2 : Blk ((W.setCell ⟨w.heap.size + 1, 0, none⟩ (.slice ao (un y).length cap)).setCell ⟨w.heap.size + 1 + 1, 0, none⟩ (.bool true)) (w.heap.size + 1 + 1) 4 #[.bool true] := (K2.out.far (by show w.heap.size + 1 + 1 ≠ w.heap.size + 1; omega) _).same _
  have qp : PFlds ((W.setCell ⟨w.heap.size + 1, 0, none⟩ (.slice ao (un y).length cap)).setCell ⟨w.heap.size + 1 + 1, 0, none⟩ (.bool true)) (w.heap.size + 7) (.slice ao (un y).length cap) (un y) :=
   (HP.out.own (grownBy_setCell' _ _ _) (fun r e => by injection e with e; subst e; left; omega)).own (grownBy_setCell' _ _ _) (fun r e => by injection e with e; subst e; left; omega)
  have qb : Below w.heap.size w ((W.setCell ⟨w.heap.size + 1, 0, none⟩ (.slice ao (un y).length cap)).setCell ⟨w.heap.size + 1 + 1, 0, none⟩ (.bool true)) := below_set (below_set HW.out (by show w.heap.size ≤ w.heap.size + 1; omega) _) (by show w.heap.size ≤ w.heap.size + 1 + 1; omega) _
  have hK : ((W.setCell ⟨w.heap.size + 1, 0, none⟩ (.slice ao (un y).length cap)).setCell ⟨w.heap.size + 1 + 1, 0, none⟩ (.bool true)).heap[D]? = some (.deferred (some [])) := (heap_set_ne (by omega)).trans ((heap_set_ne (by omega)).trans HD.out)
  generalize ((W.setCell ⟨w.heap.size + 1, 0, none⟩ (.slice ao (un y).length cap)).setCell ⟨w.heap.size + 1 + 1, 0, none⟩ (.bool true)) = W5 at *
  refine ⟨by simp, .inl ⟨_, _, rfl, run_takeDeferred hK, ?_⟩⟩
  have hr : ∀ r, some D = some r → ∃ o : Obj, W5.heap[r]? = some o ∧ o.isCells = false := fun r e => by injection e with e; subst e; exact ⟨_, hK, rfl⟩
  have hg := grownBy_putObj' W5 D (.deferred none)
  have t1 := (q1.own hg hr).cell 0
  have t2 := (q2.own hg hr).cell 0
  simp at t1 t2
  refine ⟨.tuple #[.slice ao (un y).length cap, .bool true], ?_, ?_⟩
  ·simp [results, Tryz.results116, go_sem, t1, t2]
  ·rw [HB.out]
   have e1 : fieldsP (c.toNat : Int) (cutL 44 b) [] = some y := HY.out
   rw [e1]
   exact ⟨_, y, rfl, (qp.own hg (fun r e => .inr (hr r e))).mono (by omega), fun z hz => by injection hz, qb.grown hg qb.size (fun k e => by injection e with e; omega)⟩
 ·rintro D pre W hpre ⟨hn, k1, k2, hb, hs⟩ hD hlt
  dsimp only
  have c1 := k1.cell 0
  have c2 := k2.cell 0
  simp at c1 c2
  have HW := Lib.hid hb; have HD := Lib.hid hD; have HN := Lib.hid hn; have HR := Lib.hid hpre; have K1 := Lib.hid k1; have K2 := Lib.hid k2
  clear b0 b1 b2 b3 b4 b5 b6 k1 k2 hb hn hD hpre hbw
  gi_wp2
  have hK := HD.out
  refine ⟨by simp, .inl ⟨_, _, rfl, run_takeDeferred hK, ?_⟩⟩
  have hr : ∀ r, some D = some r → ∃ o : Obj, W.heap[r]? = some o ∧ o.isCells = false := fun r e => by injection e with e; subst e; exact ⟨_, hK, rfl⟩
  have hg := grownBy_putObj' W D (.deferred none)
  have t1 := (K1.out.own hg hr).cell 0
  have t2 := (K2.out.own hg hr).cell 0
  simp at t1 t2
  refine ⟨.tuple #[.slice none 0 0, .bool false], ?_, ?_⟩
  ·simp [results, Tryz.results116, go_sem, t1, t2]
  ·rw [HB.out]
   have e1 : fieldsP (c.toNat : Int) (cutL 44 b) [] = none := fieldsP_pre _ HR.out _ HN.out
   rw [e1]
   exact ⟨_, [], rfl, PFlds.nil_ _ _, fun z hz => (by cases hz), HW.out.grown hg HW.out.size (fun k e => by injection e with e; omega)⟩
theorem i_readFields (b : Bs) (c : UInt8) (w : World) (hs : b.length ≤ 1000000) (hc : isSort (c.toNat : Int) = true) :
  Calls Tryz.prog 116 #[.string (S [c]), .string (S b)] w (RetPFs w (bodyP (c.toNat : Int) b)) := by
 by_cases h : b = []
 ·rw [h]; exact i_readFields_none c w
 ·exact i_readFields_some b c w hs hc h
def TypeAt (w : World) (B b : Nat) (t : Ty) : Prop := ∃ (c : UInt8) (v : Value), t.sort = (c.toNat : Int) ∧ Blk w b 115 #[.string (S [c]), .string (S t.name), v] ∧ PFlds w B v (un t.fields) ∧ B ≤ b
def RetPT (w : World) (o : Option Ty) (e : Ending) (w' : World) : Prop := Below w.heap.size w w' ∧ ((o = none ∧ e = .returned (.tuple #[.pointer none, .bool false])) ∨ ∃ t b, o = some t ∧ e = .returned (.tuple #[.pointer (some ⟨b, 0, none⟩), .bool true]) ∧ TypeAt w' w.heap.size b t)
theorem RetPT.no {w w' : World} {o : Option Ty} (h : o = none) (hb : Below w.heap.size w w') : RetPT w o (.returned (.tuple #[.pointer none, .bool false])) w' := ⟨hb, .inl ⟨h, rfl⟩⟩
theorem typeP_hasnt {s : Bs} (h : cutHas 61 s = false) : typeP s = none := by unfold typeP; rw [if_neg (by rw [h]; simp)]
theorem typeP_empty {s : Bs} (h : cutA 61 s = []) : typeP s = none := by unfold typeP; rw [if_neg (by rw [h]; simp)]
theorem typeP_cons {s : Bs} {c : UInt8} {r : Bs} (h : cutHas 61 s = true) (hA : cutA 61 s = c :: r) : typeP s = if isName r = true ∧ isSort (c.toNat : Int) = true then (match bodyP (c.toNat : Int) (cutB 61 s) with
  | none => none
  | some fs => some ⟨(c.toNat : Int), r, fs⟩) else none := by
 unfold typeP
 rw [h, hA]
 have e : at_ (c :: r) 0 = (c.toNat : Int) := rfl
 rw [e]
 by_cases h1 : isName r = true ∧ isSort (c.toNat : Int) = true
 ·rw [if_pos h1, if_pos ⟨rfl, by simp, h1.1, h1.2⟩]
  show (match bodyP (c.toNat : Int) (cutB 61 s) with | none => none | some fs => some (Ty.mk (c.toNat : Int) r fs)) = _
  cases bodyP (c.toNat : Int) (cutB 61 s) <;> rfl
 ·rw [if_neg h1, if_neg (fun h => h1 ⟨h.2.2.1, h.2.2.2⟩)]
theorem sort_bytes {c : UInt8} (h : isSort (c.toNat : Int) = false) : (c == 82) = false ∧ (c == 85) = false ∧ (c == 69) = false := by
 unfold isSort at h
 simp at h
 obtain ⟨⟨h1, h2⟩, h3⟩ := h
 refine ⟨?_, ?_, ?_⟩
 ·simp; rintro rfl; exact h1 rfl
 ·simp; rintro rfl; exact h2 rfl
 ·simp; rintro rfl; exact h3 rfl
set_option maxHeartbeats 4000000 in
theorem i_readType (s : Bs) (w : World) (hs : s.length ≤ 1000000) : Calls Tryz.prog 89 #[.string (S s)] w (RetPT w (typeP s)) := by
 have HC := Lib.hid (fun w => i_Cut s 61 w (by omega))
 rw [show ((61 : UInt8).toNat : Int) = 61 from rfl] at HC
 have hal := cutA_len 61 s
 have hbl := cutB_len 61 s
 cases hh : cutHas 61 s with
 | false =>
  have HF := Lib.hid (typeP_hasnt hh)
  rw [hh] at HC
  clear hh
  generalize cutA 61 s = a at *
  generalize cutB 61 s = b at *
  go_enter Tryz.func89, Tryz.ntmps89
  go_wp2_with fail
  refine (HC.out _).mono ?_
  rintro e w1 ⟨rfl, hb⟩
  go_wp2_with fail
  refine bodyPost_ret (v := .tuple #[.pointer none, .bool false]) (by simp [results, Tryz.results89]) rfl ?_
  exact RetPT.no HF.out hb
 | true =>
  cases hA : cutA 61 s with
  | nil =>
   have HF := Lib.hid (typeP_empty hA)
   rw [hh, hA] at HC
   clear hh hA
   generalize cutB 61 s = b at *
   go_enter Tryz.func89, Tryz.ntmps89
   go_wp2_with fail
   refine (HC.out _).mono ?_
   rintro e w1 ⟨rfl, hb⟩
   go_wp2_with fail
   refine bodyPost_ret (v := .tuple #[.pointer none, .bool false]) (by simp [results, Tryz.results89]) rfl ?_
   exact RetPT.no HF.out hb
  | cons c r =>
   have HF := Lib.hid (typeP_cons hh hA)
   rw [hh, hA] at HC
   rw [hA] at hal
   clear hh hA
   generalize cutB 61 s = b at *
   generalize typeP s = o at *
   have hrl : r.length ≤ 2000000 := by simp at hal; omega
   have HN := Lib.hid (fun w => i_isName r w hrl)
   cases hn : isName r with
   | false =>
    rw [hn] at HN HF
    have HF2 := Lib.hid (HF.out.trans (if_neg (by simp))); clear HF
    clear hn
    go_enter Tryz.func89, Tryz.ntmps89
    go_wp2_with fail
    refine (HC.out _).mono ?_
    rintro e w1 ⟨rfl, hb⟩
    go_wp2_with (go_at_call 115; refine (HN.out _).mono ?_; rintro e w' ⟨rfl, rfl⟩)
    refine bodyPost_ret (v := .tuple #[.pointer none, .bool false]) (by simp [results, Tryz.results89]) rfl ?_
    exact RetPT.no HF2.out hb
   | true =>
    rw [hn] at HN HF
    clear hn
    cases hc : isSort (c.toNat : Int) with
    | false =>
     rw [hc] at HF
     have HF2 := Lib.hid (HF.out.trans (if_neg (by simp))); clear HF
     obtain ⟨s1, s2, s3⟩ := sort_bytes hc
     clear hc
     go_enter Tryz.func89, Tryz.ntmps89
     go_wp2_with fail
     refine (HC.out _).mono ?_
     rintro e w1 ⟨rfl, hb⟩
     go_wp2_with (go_at_call 115; refine (HN.out _).mono ?_; rintro e w' ⟨rfl, rfl⟩)
     refine bodyPost_ret (v := .tuple #[.pointer none, .bool false]) (by simp [results, Tryz.results89]) rfl ?_
     exact RetPT.no HF2.out hb
    | true =>
     rw [hc] at HF
     have HF2 := Lib.hid (HF.out.trans (if_pos ⟨rfl, rfl⟩)); clear HF
     have HR := Lib.hid (fun w => i_readFields b c w (by omega) hc)
     have hcc : c = 82 ∨ c = 85 ∨ c = 69 := by
      unfold isSort at hc; simp at hc
      rcases hc with (hc | hc) | hc
      ·left; exact UInt8.toNat_inj.1 (by show _ = 82; omega)
      ·right; left; exact UInt8.toNat_inj.1 (by show _ = 85; omega)
      ·right; right; exact UInt8.toNat_inj.1 (by show _ = 69; omega)
     clear hc
     cases hb0 : bodyP (c.toNat : Int) b with
     | none =>
      rw [hb0] at HR HF2
      have HF3 := Lib.hid HF2.out; clear HF2 hb0
      rcases hcc with rfl | rfl | rfl
      all_goals
       go_enter Tryz.func89, Tryz.ntmps89
       go_wp2_with fail
       refine (HC.out _).mono ?_
       rintro e w1 ⟨rfl, hb⟩
       go_wp2_with (first | (go_at_call 115; refine (HN.out _).mono ?_; rintro e w' ⟨rfl, rfl⟩) | (go_at_call 116; refine (HR.out _).mono ?_; rintro e w2 ⟨v, x, rfl, hp, -, hb2⟩; obtain ⟨ao, cap, rfl, -, -⟩ := hp.form))
       refine bodyPost_ret (v := .tuple #[.pointer none, .bool false]) (by simp [results, Tryz.results89]) rfl ?_
       exact RetPT.no HF3.out (hb.trans (hb2.mono hb.size))
     | some fs =>
      rw [hb0] at HR HF2
      have HF3 := Lib.hid HF2.out; clear HF2 hb0
      rcases hcc with rfl | rfl | rfl
      all_goals
       go_enter Tryz.func89, Tryz.ntmps89
       go_wp2_with fail
       refine (HC.out _).mono ?_
       rintro e w1 ⟨rfl, hb⟩
       go_wp2_with (first | (go_at_call 115; refine (HN.out _).mono ?_; rintro e w' ⟨rfl, rfl⟩) | (go_at_call 116; refine (HR.out _).mono ?_; rintro e w2 ⟨v, x, rfl, hp, hx, hb2⟩; obtain rfl := hx _ rfl; clear hx; obtain ⟨ao, cap, rfl, -, -⟩ := hp.form; have HP := Lib.hid hp; clear hp))
       refine bodyPost_ret (v := .tuple #[.pointer (some ⟨w2.heap.size, 0, none⟩), .bool true]) (by simp [results, Tryz.results89]) rfl ?_
       have hbb := hb.trans (hb2.mono hb.size)
       exact ⟨below_alloc hbb _, .inr ⟨_, w2.heap.size, HF3.out, rfl, _, _, rfl, Blk.new w2 _ _, (HP.out.below (below_alloc (Below.refl _ _) _)).mono hb.size, hbb.size⟩⟩
end Go.Proofs.YtcjooeklehggaaaGreatDoor
