/- Lemmas of this seat. -/
import Derived.Deep.RegionLaw
import Derived.Test.YtcjooeklehggaaaGreatDoorZPs
import Derived.Test.YtcjooeklehggaaaGreatDoorYBs
set_option linter.unusedVariables false
set_option linter.unusedSimpArgs false
set_option maxRecDepth 100000
namespace Go.Proofs.YtcjooeklehggaaaGreatDoor
open Go.ChangeShapes Go.WideShapes Go.ChangeAt Go.RowKit M
structure PP (w : World) (B q : Nat) (k t : Bs) (gs : List Int) (l : List V) (ps : List Nat) (a : Option Addr) (c : Nat) (a' : Option Addr) (c' : Nat) : Prop where
 lt : q < B
 blk : Blk w q 133 #[.string (S k), .string (S t), .slice a gs.length c, .slice a' l.length c']
 tgs : Tgs w (fun b => B ≤ b) (.slice a gs.length c) gs
 kds : Kids w (fun b => B ≤ b) (.slice a' l.length c') ps
 mny : Many w (fun b => B ≤ b ∧ (Value.slice a gs.length c).ownBlock ≠ some b ∧ (Value.slice a' l.length c').ownBlock ≠ some b) l ps
section
variable {w w' : World} {B q : Nat} {k t : Bs} {gs : List Int} {l : List V} {ps : List Nat} {a a' : Option Addr} {c c' : Nat}
theorem PP.belowed (h : PP w B q k t gs l ps a c a' c') (hb : Below w.heap.size w w') : PP w' B q k t gs l ps a c a' c' :=
 ⟨h.lt, h.blk.keep hb, h.tgs.rowed (grown_of_below hb none) (by intro r e; cases e), h.kds.rowed (grown_of_below hb none) (by intro r e; cases e), h.mny.belowed hb⟩
theorem PP.start (w : World) (hq : q < B) (hb : Blk w q 133 #[.string (S k), .string (S t), .slice none 0 0, .slice none 0 0]) : PP w B q k t [] [] [] none 0 none 0 := ⟨hq, hb, Tgs.nil_ _ _, Kids.nil_ _ _, Many.nil_ _ _⟩
theorem PP.done {B' : Nat} (h : PP w B q k t gs l ps a c a' c') (hq : B' ≤ q) : VAt w (fun b => B' ≤ b) (.mk k t gs l) q := by
 have hlt := h.lt
 exact .make hq h.blk (h.tgs.imp (by intro b _ hb; omega)) (h.kds.imp (by intro b _ hb; omega)) (h.mny.imp (by intro b _ hb; omega))
theorem PP.cells (h : PP w B q k t gs l ps a c a' c') : q < w.heap.size ∧ w.cell? ⟨q, 2, none⟩ = some (.slice a gs.length c) ∧ w.cell? ⟨q, 3, none⟩ = some (.slice a' l.length c') ∧ w.frozen? ⟨q, 2, none⟩ = false ∧ w.frozen? ⟨q, 3, none⟩ = false ∧
  (∀ g, (Value.slice a gs.length c).ownBlock = some g → g < w.heap.size) ∧ (∀ g, (Value.slice a' l.length c').ownBlock = some g → g < w.heap.size) :=
 ⟨h.blk.lt, h.blk.cell 2, h.blk.cell 3, h.blk.frozen 2, h.blk.frozen 3, fun g hg => (World.ownsRow.lt h.tgs.1 g hg).2, fun g hg => (h.kds.1.lt g hg).2⟩
theorem set_self (w : World) (q i : Nat) (u : Value) : w.grownBy (w.setCell ⟨q, i, none⟩ u) (some q) := grown_set (grown_self _ _)
theorem PP.kid (h : PP w B q k t gs l ps a c a' c') {x : V} {p L g cap : Nat} (hx : VAt w (fun b => L ≤ b) x p) (hBL : B ≤ L) (ha : ∀ g, (Value.slice a gs.length c).ownBlock = some g → g < L) (ha' : ∀ g, (Value.slice a' l.length c').ownBlock = some g → g < L)
  (hk : Kids w' (fun b => B ≤ b ∨ w.heap.size ≤ b) (.slice (some ⟨g, 0, none⟩) (l.length + 1) cap) (ps ++ [p])) (hg : w.grownBy w' (Value.slice a' l.length c').ownBlock) (hgg : (Value.slice a' l.length c').ownBlock = some g ∨ g = w.heap.size) (hB : B ≤ w.heap.size) :
  PP (w'.setCell ⟨q, 3, none⟩ (.slice (some ⟨g, 0, none⟩) (l.length + 1) cap)) B q k t gs (l ++ [x]) (ps ++ [p]) a c (some ⟨g, 0, none⟩) cap := by
 have hlt := h.lt
 have hq : ∀ r, some q = some r → ¬ B ≤ r := by intro r e; injection e with e; omega
 have hqb : some q ≠ (Value.slice a' l.length c').ownBlock := by
  intro e
  have := h.kds.2 q e.symm
  omega
 have e1 : (l ++ [x]).length = l.length + 1 := by simp
 refine ⟨hlt, ?_, ?_, ?_, ?_⟩
 ·rw [e1]; exact (h.blk.grown hg hqb).set_ 3 _
 ·refine Tgs.rowed (w := w') ⟨World.ownsRow.kept h.tgs.1 hg (own_own h.tgs.1 h.kds.1 (by decide)), h.tgs.2⟩ (set_self _ _ _ _) hq
 ·rw [e1]
  exact (hk.imp (by intro b _ hb; omega)).rowed (set_self _ _ _ _) hq
 ·rw [e1]
  have m1 : Many w (fun b => (B ≤ b ∧ (Value.slice a gs.length c).ownBlock ≠ some b ∧ (Value.slice a' l.length c').ownBlock ≠ some b) ∧ b < w.heap.size) (l ++ [x]) (ps ++ [p]) :=
   (h.mny.imp (by intro b h1 h2; exact ⟨h2, h1⟩)).snoc (hx.imp (by
    intro b h1 h2
    exact ⟨⟨by omega, fun e => by have := ha b e; omega, fun e => by have := ha' b e; omega⟩, h1⟩))
  have m2 := m1.rowed hg (by intro r e h2; exact h2.1.2.2 e)
  refine (m2.imp ?_).rowed (set_self _ _ _ _) (by intro r e h2; exact hq r e h2.1)
  intro b _ hb
  refine ⟨hb.1.1, hb.1.2.1, ?_⟩
  intro e
  injection e with e
  have e2 : g = b := e
  subst e2
  rcases hgg with hgg | hgg
  ·exact hb.1.2.2 hgg
  ·omega
theorem PP.tag (h : PP w B q k t gs l ps a c a' c') {n : Int} {g cap : Nat}
  (hk : Tgs w' (fun b => B ≤ b ∨ w.heap.size ≤ b) (.slice (some ⟨g, 0, none⟩) (gs.length + 1) cap) (gs ++ [n])) (hg : w.grownBy w' (Value.slice a gs.length c).ownBlock) (hgg : (Value.slice a gs.length c).ownBlock = some g ∨ g = w.heap.size) (hB : B ≤ w.heap.size) :
  PP (w'.setCell ⟨q, 2, none⟩ (.slice (some ⟨g, 0, none⟩) (gs.length + 1) cap)) B q k t (gs ++ [n]) l ps (some ⟨g, 0, none⟩) cap a' c' := by
 have hlt := h.lt
 have hq : ∀ r, some q = some r → ¬ B ≤ r := by intro r e; injection e with e; omega
 have hqb : some q ≠ (Value.slice a gs.length c).ownBlock := by
  intro e
  have := h.tgs.2 q e.symm
  omega
 have e1 : (gs ++ [n]).length = gs.length + 1 := by simp
 refine ⟨hlt, ?_, ?_, ?_, ?_⟩
 ·rw [e1]; exact (h.blk.grown hg hqb).set_ 2 _
 ·rw [e1]
  exact (hk.imp (by intro b _ hb; omega)).rowed (set_self _ _ _ _) hq
 ·refine Kids.rowed (w := w') ⟨World.ownsRow.kept h.kds.1 hg (own_own h.kds.1 h.tgs.1 (by decide)), h.kds.2⟩ (set_self _ _ _ _) hq
 ·rw [e1]
  have m1 : Many w (fun b => (B ≤ b ∧ (Value.slice a gs.length c).ownBlock ≠ some b ∧ (Value.slice a' l.length c').ownBlock ≠ some b) ∧ b < w.heap.size) l ps := h.mny.imp (by intro b h1 h2; exact ⟨h2, h1⟩)
  have m2 := m1.rowed hg (by intro r e h2; exact h2.1.2.1 e)
  refine (m2.imp ?_).rowed (set_self _ _ _ _) (by intro r e h2; exact hq r e h2.1)
  intro b _ hb
  refine ⟨hb.1.1, ?_, hb.1.2.2⟩
  intro e
  injection e with e
  have e2 : g = b := e
  subst e2
  rcases hgg with hgg | hgg
  ·exact hb.1.2.1 hgg
  ·omega
theorem PP.below_kid {B' : Nat} (h : PP w B q k t gs l ps a c a' c') (hg : w.grownBy w' (Value.slice a' l.length c').ownBlock) (h1 : B' ≤ w.heap.size) (h2 : B' ≤ B) : Below B' w w' :=
 Below.grown (Below.refl _ _) hg h1 (fun r hr => by have := h.kds.2 r hr; omega)
theorem PP.below_tag {B' : Nat} (h : PP w B q k t gs l ps a c a' c') (hg : w.grownBy w' (Value.slice a gs.length c).ownBlock) (h1 : B' ≤ w.heap.size) (h2 : B' ≤ B) : Below B' w w' :=
 Below.grown (Below.refl _ _) hg h1 (fun r hr => by have := h.tgs.2 r hr; omega)
theorem PP.beside_kid {b : Nat} {e : TypeId} {cs : Array Value} (h : PP w B q k t gs l ps a c a' c') (hg : w.grownBy w' (Value.slice a' l.length c').ownBlock) (hb : Blk w b e cs) (hlt : b < B) : Blk w' b e cs :=
 hb.grown hg (fun e => by have := h.kds.2 b e.symm; omega)
theorem PP.beside_tag {b : Nat} {e : TypeId} {cs : Array Value} (h : PP w B q k t gs l ps a c a' c') (hg : w.grownBy w' (Value.slice a gs.length c).ownBlock) (hb : Blk w b e cs) (hlt : b < B) : Blk w' b e cs :=
 hb.grown hg (fun e => by have := h.tgs.2 b e.symm; omega)
end
section
variable {w w' : World} {B q : Nat} {k t : Bs} {gs : List Int} {l : List V} {ps : List Nat} {a a' : Option Addr} {c c' : Nat}
def Fr (B : Nat) (u u' : Value) (b : Nat) : Prop := B ≤ b ∧ u.ownBlock ≠ some b ∧ u'.ownBlock ≠ some b
theorem PP.tag_x (h : PP w B q k t gs l ps a c a' c') {x : V} {p : Nat} (hx : VAt w (Fr B (.slice a gs.length c) (.slice a' l.length c')) x p) {n : Int} {g cap : Nat}
  (hg : w.grownBy w' (Value.slice a gs.length c).ownBlock) (hgg : (Value.slice a gs.length c).ownBlock = some g ∨ g = w.heap.size) :
  VAt (w'.setCell ⟨q, 2, none⟩ (.slice (some ⟨g, 0, none⟩) (gs.length + 1) cap)) (Fr B (.slice (some ⟨g, 0, none⟩) (gs ++ [n]).length cap) (.slice a' l.length c')) x p := by
 have hlt := h.lt
 have hq : ∀ r, some q = some r → ¬ B ≤ r := by intro r e; injection e with e; omega
 have m1 : VAt w (fun b => Fr B (.slice a gs.length c) (.slice a' l.length c') b ∧ b < w.heap.size) x p := hx.imp (by intro b h1 h2; exact ⟨h2, h1⟩)
 have m2 := m1.rowed hg (by intro r e h2; exact h2.1.2.1 e)
 refine (m2.imp ?_).rowed (set_self _ _ _ _) (by intro r e h2; exact hq r e h2.1)
 intro b _ hb
 refine ⟨hb.1.1, ?_, hb.1.2.2⟩
 intro e
 injection e with e
 have e2 : g = b := e
 subst e2
 rcases hgg with hgg | hgg
 ·exact hb.1.2.1 hgg
 ·omega
theorem Fr.of_lt {x : V} {p L : Nat} {u u' : Value} (hx : VAt w (fun b => L ≤ b) x p) (hBL : B ≤ L) (ha : ∀ g, u.ownBlock = some g → g < L) (ha' : ∀ g, u'.ownBlock = some g → g < L) : VAt w (Fr B u u') x p :=
 hx.imp (by intro b _ h; exact ⟨by omega, fun e => by have := ha b e; omega, fun e => by have := ha' b e; omega⟩)
theorem PP.kid1 (h : PP w B q k t gs l ps a c a' c') {x : V} {p g cap : Nat} (hx : VAt w (Fr B (.slice a gs.length c) (.slice a' l.length c')) x p)
  (hk : Kids w' (fun b => B ≤ b ∨ w.heap.size ≤ b) (.slice (some ⟨g, 0, none⟩) (l.length + 1) cap) (ps ++ [p])) (hg : w.grownBy w' (Value.slice a' l.length c').ownBlock) (hgg : (Value.slice a' l.length c').ownBlock = some g ∨ g = w.heap.size) (hB : B ≤ w.heap.size) :
  PP (w'.setCell ⟨q, 3, none⟩ (.slice (some ⟨g, 0, none⟩) (l.length + 1) cap)) B q k t gs (l ++ [x]) (ps ++ [p]) a c (some ⟨g, 0, none⟩) cap := by
 have hlt := h.lt
 have hq : ∀ r, some q = some r → ¬ B ≤ r := by intro r e; injection e with e; omega
 have hqb : some q ≠ (Value.slice a' l.length c').ownBlock := by
  intro e
  have := h.kds.2 q e.symm
  omega
 have e1 : (l ++ [x]).length = l.length + 1 := by simp
 refine ⟨hlt, ?_, ?_, ?_, ?_⟩
 ·rw [e1]; exact (h.blk.grown hg hqb).set_ 3 _
 ·refine Tgs.rowed (w := w') ⟨World.ownsRow.kept h.tgs.1 hg (own_own h.tgs.1 h.kds.1 (by decide)), h.tgs.2⟩ (set_self _ _ _ _) hq
 ·rw [e1]
  exact (hk.imp (by intro b _ hb; omega)).rowed (set_self _ _ _ _) hq
 ·rw [e1]
  have m1 : Many w (fun b => Fr B (.slice a gs.length c) (.slice a' l.length c') b ∧ b < w.heap.size) (l ++ [x]) (ps ++ [p]) :=
   (h.mny.imp (by intro b h1 h2; exact ⟨h2, h1⟩)).snoc (hx.imp (by intro b h1 h2; exact ⟨h2, h1⟩))
  have m2 := m1.rowed hg (by intro r e h2; exact h2.1.2.2 e)
  refine (m2.imp ?_).rowed (set_self _ _ _ _) (by intro r e h2; exact hq r e h2.1)
  intro b _ hb
  refine ⟨hb.1.1, hb.1.2.1, ?_⟩
  intro e
  injection e with e
  have e2 : g = b := e
  subst e2
  rcases hgg with hgg | hgg
  ·exact hb.1.2.2 hgg
  ·omega
theorem PP.after_tag (h : PP w B q k t gs l ps a c a' c') (hg : w.grownBy w' (Value.slice a gs.length c).ownBlock) : w'.cell? ⟨q, 2, none⟩ = some (.slice a gs.length c) ∧ w'.frozen? ⟨q, 2, none⟩ = false ∧ q < w'.heap.size := by
 have hlt := h.lt
 have hb := h.blk.grown hg (fun e => by have := h.tgs.2 q e.symm; omega)
 exact ⟨hb.cell 2, hb.frozen 2, hb.lt⟩
theorem PP.tag' (h : PP w B q k t gs l ps a c a' c') (H : Nat) (hH : w.heap.size = H) {x : V} {p : Nat} (hx : VAt w (Fr B (.slice a gs.length c) (.slice a' l.length c')) x p) {n : Int} {g cap : Nat}
  (hk : Tgs w' (fun b => B ≤ b ∨ H ≤ b) (.slice (some ⟨g, 0, none⟩) (gs.length + 1) cap) (gs ++ [n])) (hg : w.grownBy w' (Value.slice a gs.length c).ownBlock) (hgg : (Value.slice a gs.length c).ownBlock = some g ∨ g = H) (hB : B ≤ H) :
  PP (w'.setCell ⟨q, 2, none⟩ (.slice (some ⟨g, 0, none⟩) (gs.length + 1) cap)) B q k t (gs ++ [n]) l ps (some ⟨g, 0, none⟩) cap a' c' ∧ VAt (w'.setCell ⟨q, 2, none⟩ (.slice (some ⟨g, 0, none⟩) (gs.length + 1) cap)) (Fr B (.slice (some ⟨g, 0, none⟩) (gs ++ [n]).length cap) (.slice a' l.length c')) x p := by
 subst hH
 exact ⟨h.tag hk hg hgg hB, h.tag_x hx hg hgg⟩
end
theorem step_app_tg {w : World} {ops : Array Oper} {o : Oper} {a : Act} {K : Act → World → Prop} {Q : Exit → Act → World → Prop} {E : Prop} (hgd : o.guard = none) (s x : Operand)
  (ho : o.op = .call { callee := .builtin .append, args := #[s, x], argTypes := #[130, 130] })
  (N : Nat → Prop) (v : Value) (L : List Int) (hs : a.eval s = v) (hown : Tgs w N v L) (b : Nat) (y : Int) (hx : a.eval x = .slice (some ⟨b, 0, none⟩) 1 1) (hc : w.cell? ⟨b, 0, none⟩ = some (.int .i64 y))
  (hn : L.length ≤ 3000000) (H : Nat) (hH : w.heap.size = H)
  (h : ∀ g cap w', Tgs w' (fun b => N b ∨ H ≤ b) (.slice (some ⟨g, 0, none⟩) (L.length + 1) cap) (L ++ [y]) → w.grownBy w' v.ownBlock → (v.ownBlock = some g ∨ g = H) → g < w'.heap.size → K (a.put o.dst (.slice (some ⟨g, 0, none⟩) (L.length + 1) cap)) w') :
  if Region.wanted o (yielded ops a.tmps) = true then Oper.wp Tryz.prog o a w K Q else E := by
 obtain ⟨i, hi0, hz0, hz1, hz2⟩ := info_parts info_int
 refine step_append_lies w hgd s x 130 ho 0 3 i _ 1 8 Tryz.underlying130 hi0 hz0 hz1 hz2 rfl (by omega) v L.length (L.map iv) hs hown.1 ⟨b, 0, none⟩ 1 1 [iv y] hx rfl ?_ ?_ (by omega) (by unfold maxLen; omega) (by omega) (Nat.zero_le _) H hH ?_
 ·intro j u hj
  match j, hj with
  | 0, hj => simp at hj; subst hj; simpa [Addr.add] using hc
 ·intro u hu; simp at hu; subst hu; rfl
 ·intro g cap w' h1 h2 h3 h4
  refine h g cap w' ⟨?_, ?_⟩ h2 h3 h4
  ·unfold Ints; rw [List.length_append, List.map_append]; exact h1
  ·intro g' hg'
   injection hg' with hg'
   have hg2 : g = g' := hg'
   subst hg2
   rcases h3 with h3 | h3
   ·exact .inl (hown.2 g h3)
   ·exact .inr (by omega)
theorem k_l4Digits (l : Bs) (w : World) (hs : l.length ≤ 2000000) :
  Calls Tryz.prog 111 #[.string (S l)] w fun e w' => e = .returned (.int .i64 (digsN l)) ∧ w = w' := by
 obtain ⟨n, hn⟩ : ∃ n, digsN l = n := ⟨_, rfl⟩
 rw [hn]
 have HN := Lib.hid hn; clear hn
 go_enter Tryz.func111, Tryz.ntmps111
 go_wp2_with fail
 go_loop [3] (fun i => ∃ k : Nat, k ≤ l.length ∧ i = .int .i64 k ∧ Hid (n = k + digsN (l.drop k))) (fun i => l.length - (intOf i).toNat)
 case atStart => exact ⟨0, by omega, rfl, (show n = 0 + digsN (l.drop 0) by rw [List.drop_zero, HN.out]; omega)⟩
 case round =>
  obtain ⟨k, hk, rfl, hh⟩ := hrel
  by_cases hlt : k < l.length
  ·cases hd : isDig (at_ l k) with
   | true =>
    have HR := Lib.hid (show n = (k + 1) + digsN (l.drop (k + 1)) by have h1 := hh.out; rw [digsN_in l k hlt hd] at h1; omega)
    unfold isDig at hd
    rw [Bool.and_eq_true, decide_eq_true_eq, decide_eq_true_eq] at hd
    obtain ⟨d1, d2⟩ := hd
    go_wp2_with fail
    go_round
    case rel => exact ⟨k + 1, by omega, by go_num, HR.out⟩
    case measure => simp [intOf]; omega
   | false =>
    have HR := Lib.hid (show n = k by have h1 := hh.out; rw [digsN_out l k hlt hd] at h1; omega)
    unfold isDig at hd
    rw [Bool.and_eq_false_iff, decide_eq_false_iff_not, decide_eq_false_iff_not] at hd
    by_cases d1 : 48 ≤ at_ l k
    ·have d2 : ¬ at_ l k ≤ 57 := by omega
     clear hd
     go_wp2_with fail
     go_ret
     exact ⟨ret_i (by rw [HR.out]), rfl⟩
    ·clear hd
     go_wp2_with fail
     go_ret
     exact ⟨ret_i (by rw [HR.out]), rfl⟩
  ·have HR := Lib.hid (show n = k by have h1 := hh.out; rw [digsN_end l k (by omega)] at h1; omega)
   obtain rfl : l.length = k := by omega
   go_wp2_with fail
   go_ret
   exact ⟨ret_i (by rw [HR.out]), rfl⟩
def rv (v : Value) : Value := .agg #[v]
theorem VAt.fresh {w w' : World} {k t : Bs} {N : Nat → Prop} (hN : N w.heap.size) (h : w' = w.alloc (.cells #[.string (S k), .string (S t), .slice none 0 0, .slice none 0 0] 133)) : VAt w' N (.mk k t [] []) w.heap.size := by
 subst h
 exact .make hN (Blk.new _ _ _) (Tgs.nil_ _ _) (Kids.nil_ _ _) (Many.nil_ _ _)
theorem VAt.fresh2 (w : World) (o : Obj) (k t : Bs) : VAt ((w.alloc o).alloc (.cells #[.string (S k), .string (S t), .slice none 0 0, .slice none 0 0] 133)).drew (fun b => w.heap.size ≤ b) (.mk k t [] []) (w.heap.size + 1) := by
 have h := VAt.fresh (w := w.alloc o) (k := k) (t := t) (N := fun b => w.heap.size ≤ b) (by show w.heap.size ≤ (w.alloc o).heap.size; simp) rfl
 rw [World.size_alloc] at h
 exact h.belowed (below_drew (Below.refl _ _))
theorem plainR_n (s : Bs) (o : Option Int) (h : numL (s.take (digsN s)) 999999 = o) : plainR s [110] = if o.isSome = true then some (.mk [110] (s.take (digsN s)) [] [], s.drop (digsN s)) else none := by
 unfold plainR; rw [if_pos rfl, h]
theorem plainR_t (s : Bs) (b : Bool) (h : textL (s.take (strokeN s)) = b) : plainR s [116] = if b = true then some (.mk [116] (s.take (strokeN s)) [] [], s.drop (strokeN s)) else none := by
 unfold plainR; rw [if_neg (by decide), if_pos rfl, h]
theorem plainR_f (s k : Bs) (h1 : k ≠ [110]) (h2 : k ≠ [116]) : plainR s k = if s.take 3 = [121, 101, 115] then some (.mk k [121, 101, 115] [] [], s.drop 3) else if s.take 2 = [110, 111] then some (.mk k [110, 111] [] [], s.drop 2) else none := by
 unfold plainR; rw [if_neg h1, if_neg h2]
theorem RetV.of_if {w w' : World} {o : Option (V × Bs)} {b : Bool} {p : Nat} {v : V} {r : Bs} (h : o = if b = true then some (v, r) else none) (hb : Below w.heap.size w w') (hv : VAt w' (fun b => w.heap.size ≤ b) v p) : RetV w o (.returned (.tuple #[vp p, .string (S r), .bool b])) w' := by
 cases b with
 | true => exact RetV.yes h hb hv
 | false => exact RetV.no h hb
theorem k_plain_n (v : Value) (s : Bs) (w : World) (hs : s.length ≤ 2000000) :
  Calls Tryz.prog 86 #[rv v, .string (S s), .string (S [110])] w (RetV w (plainR s [110])) := by
 obtain ⟨o, ho⟩ : ∃ o, numL (s.take (digsN s)) 999999 = o := ⟨_, rfl⟩
 have HO := Lib.hid (plainR_n s o ho)
 have hd := digsN_le s
 have HD := Lib.hid (fun w => k_l4Digits s w hs)
 obtain ⟨d, hdd⟩ : ∃ d, digsN s = d := ⟨_, rfl⟩
 rw [hdd] at ho hd HD HO
 have HN := Lib.hid (fun w => k_l3Num (s.take d) 999999 w (by simp; omega) (by omega) (by omega))
 rw [ho] at HN
 clear ho hdd
 unfold rv
 go_enter Tryz.func86, Tryz.ntmps86
 go_wp2_with (first | (go_at_call 111; refine (HD.out _).mono ?_; rintro e w' ⟨rfl, rfl⟩))
 refine (HN.out _).mono ?_
 rintro e w1 ⟨x, rfl, -, hb⟩
 go_wp2_with fail
 go_region
 all_goals
  go_wp2_with fail
  go_ret3
  exact RetV.of_if HO.out (by (repeat (first | with_reducible exact Below.refl _ _ | with_reducible apply below_drew | with_reducible apply below_draws | with_reducible apply below_alloc | with_reducible apply below_set | (with_reducible refine below_trans ?_ (by assumption)) | (with_reducible refine Below.trans ?_ (by assumption)) | exact Nat.le_refl _ | omega | (simp <;> omega)))) ((VAt.fresh (by have := hb.size; simp at this ⊢; omega) rfl).belowed (below_drew (Below.refl _ _)))
set_option maxHeartbeats 4000000 in
theorem k_plain_t (v : Value) (s : Bs) (w : World) (hs : s.length ≤ 2000000) (h0 : 0 < s.length) :
  Calls Tryz.prog 86 #[rv v, .string (S s), .string (S [116])] w (RetV w (plainR s [116])) := by
 obtain ⟨b, hbb⟩ : ∃ b, textL (s.take (strokeN s)) = b := ⟨_, rfl⟩
 have HO := Lib.hid (plainR_t s b hbb)
 obtain ⟨m, hm⟩ : ∃ m, 1 + chAt 39 (s.drop 1) = m := ⟨_, rfl⟩
 have hml : m ≤ s.length := by have := chAt_le 39 (s.drop 1); rw [List.length_drop] at this; omega
 obtain ⟨d, hd⟩ : ∃ d, strokeN s = d := ⟨_, rfl⟩
 have hdm : d = min (m + 1) s.length := by rw [← hd, ← hm]; rfl
 rw [hd] at hbb HO
 have hdl : d ≤ s.length := by omega
 have HN := Lib.hid (fun w => k_l3Text (s.take d) w (by simp; omega))
 rw [hbb] at HN
 have HM := Lib.hid hm
 have HDM := Lib.hid hdm
 clear hbb hd hm hdm
 unfold rv
 go_enter Tryz.func86, Tryz.ntmps86
 go_wp2_with fail
 go_loop [9] (fun i => ∃ k : Nat, k ≤ s.length ∧ 1 ≤ k ∧ i = .int .i64 k ∧ Hid (m = k + chAt 39 (s.drop k))) (fun i => s.length - (intOf i).toNat)
 case atStart => exact ⟨1, by omega, by omega, rfl, HM.out.symm⟩
 case round =>
  obtain ⟨k, hk, hk1, rfl, hh⟩ := hrel
  by_cases hlt : k < s.length
  ·by_cases hc : at_ s k = 39
   ·have hm2 : m = k := by have h1 := hh.out; rw [chAt_yes 39 s k hlt hc] at h1; omega
    have hdk : d = k + 1 := by have := HDM.out; omega
    subst hdk
    have hmin : min ((k : Int) + 1) (s.length : Int) = (k : Int) + 1 := by omega
    have a1 : (0 : Int) ≤ (k : Int) + 1 := by omega
    have a2 : (k : Int) + 1 ≤ (s.length : Int) := by omega
    clear hm2 hml HM HDM hh
    go_upto_region 12 with fail
    go_cut [6, 7, 8] (fun x y z wx => x = vp (w.heap.size + 1) ∧ y = .string (S (s.drop (k + 1))) ∧ z = .bool b ∧ wx = ((w.alloc (.cells #[v] 99)).alloc (.cells #[.string (S [116]), .string (S (s.take (k + 1))), .slice none 0 0, .slice none 0 0] 133)).drew)
    case first =>
     clear HO hc hmin
     go_region_with (go_at_call 113; refine (HN.out _).mono ?_; rintro e w' ⟨rfl, rfl⟩)
     all_goals
      go_wp2_with fail
      go_meet
      exact ⟨by first | rfl | simp, by first | rfl | simp, by first | rfl | simp, by first | rfl | simp⟩
    case rest =>
     obtain ⟨rfl, rfl, rfl, rfl⟩ := hcut
     go_wp2_with fail
     go_ret3
     exact RetV.of_if HO.out (by (repeat (first | with_reducible exact Below.refl _ _ | with_reducible apply below_drew | with_reducible apply below_draws | with_reducible apply below_alloc | with_reducible apply below_set | (with_reducible refine below_trans ?_ (by assumption)) | (with_reducible refine Below.trans ?_ (by assumption)) | exact Nat.le_refl _ | omega | (simp <;> omega)))) (VAt.fresh2 _ _ _ _)
   ·have HR := Lib.hid (show m = (k + 1) + chAt 39 (s.drop (k + 1)) by have h1 := hh.out; rw [chAt_no 39 s k hlt hc] at h1; omega)
    have hcb : (at_ s k != 39) = true := by simp [hc]
    clear hc
    go_wp2_with fail
    go_round
    case rel => exact ⟨k + 1, by omega, by omega, by go_num, HR.out⟩
    case measure => simp [intOf]; omega
  ·have hm2 : m = k := by have h1 := hh.out; rw [chAt_end 39 s k (by omega)] at h1; omega
   obtain rfl : k = d := by have := HDM.out; omega
   obtain rfl : k = s.length := by omega
   have hmin : min ((s.length : Int) + 1) (s.length : Int) = (s.length : Int) := by omega
   clear hm2 hml HM HDM hh
   go_upto_region 12 with fail
   go_cut [6, 7, 8] (fun x y z wx => x = vp (w.heap.size + 1) ∧ y = .string (S (s.drop s.length)) ∧ z = .bool b ∧ wx = ((w.alloc (.cells #[v] 99)).alloc (.cells #[.string (S [116]), .string (S (s.take s.length)), .slice none 0 0, .slice none 0 0] 133)).drew)
   case first =>
    clear HO hmin
    rw [List.take_length] at HN
    go_region_with (go_at_call 113; refine (HN.out _).mono ?_; rintro e w' ⟨rfl, rfl⟩)
    all_goals
     go_wp2_with fail
     go_meet
     exact ⟨by first | rfl | simp, by first | rfl | (simp; rfl), by first | rfl | simp, by first | rfl | simp⟩
   case rest =>
    obtain ⟨rfl, rfl, rfl, rfl⟩ := hcut
    go_wp2_with fail
    go_ret3
    exact RetV.of_if (HO.out.trans (by rw [List.take_length, List.drop_length])) (by (repeat (first | with_reducible exact Below.refl _ _ | with_reducible apply below_drew | with_reducible apply below_draws | with_reducible apply below_alloc | with_reducible apply below_set | (with_reducible refine below_trans ?_ (by assumption)) | (with_reducible refine Below.trans ?_ (by assumption)) | exact Nat.le_refl _ | omega | (simp <;> omega)))) (VAt.fresh2 _ _ _ _)
theorem VAt.freshAt {w W : World} {p : Nat} (k t : Bs) (hp : W.heap.size = p) (hw : w.heap.size ≤ p) : VAt (W.alloc (.cells #[.string (S k), .string (S t), .slice none 0 0, .slice none 0 0] 133)).drew (fun b => w.heap.size ≤ b) (.mk k t [] []) p := by
 subst hp
 exact (VAt.fresh (N := fun b => w.heap.size ≤ b) hw rfl).belowed (below_drew (Below.refl _ _))
set_option maxHeartbeats 4000000 in
theorem k_plain_f (v : Value) (s k : Bs) (w : World) (hs : s.length ≤ 2000000) (h1 : k ≠ [110]) (h2 : k ≠ [116]) :
  Calls Tryz.prog 86 #[rv v, .string (S s), .string (S k)] w (RetV w (plainR s k)) := by
 have HO := Lib.hid (plainR_f s k h1 h2)
 have b1 : (k == [110]) = false := by simp [h1]
 have b2 : (k == [116]) = false := by simp [h2]
 clear h1 h2
 unfold rv
 go_enter Tryz.func86, Tryz.ntmps86
 go_wp2_with fail
 go_loop [70] (fun i => ∃ j : Nat, j ≤ 2 ∧ i = .int .i64 j ∧ Hid ((1 ≤ j → s.take 3 ≠ [121, 101, 115]) ∧ (2 ≤ j → s.take 2 ≠ [110, 111]))) (fun i => 2 - (intOf i).toNat)
 case atStart => exact ⟨0, by omega, rfl, ⟨by omega, by omega⟩⟩
 case round =>
  obtain ⟨j, hj, rfl, hh⟩ := hrel
  rcases (show j = 0 ∨ j = 1 ∨ j = 2 by omega) with rfl | rfl | rfl
  ·by_cases hy : s.take 3 = [121, 101, 115]
   ·have hl : 3 ≤ s.length := by have := congrArg List.length hy; rw [List.length_take] at this; simp at this; omega
    have hyb : (s.take 3 == [121, 101, 115]) = true := by simp [hy]
    have HF := Lib.hid (HO.out.trans (if_pos hy))
    clear hy HO hh
    go_wp2_with fail
    go_region
    all_goals
     go_wp2_with fail
     go_ret3
     exact RetV.yes HF.out (by (repeat (first | with_reducible exact Below.refl _ _ | with_reducible apply below_drew | with_reducible apply below_draws | with_reducible apply below_alloc | with_reducible apply below_set | (with_reducible refine below_trans ?_ (by assumption)) | (with_reducible refine Below.trans ?_ (by assumption)) | exact Nat.le_refl _ | omega | (simp <;> omega)))) (VAt.freshAt _ _ (by simp) (by omega))
   ·have HR := Lib.hid (show ((1 ≤ 1 → s.take 3 ≠ [121, 101, 115]) ∧ (2 ≤ 1 → s.take 2 ≠ [110, 111])) from ⟨fun _ => hy, by omega⟩)
    by_cases hl : 3 ≤ s.length
    ·have hyb : (s.take 3 == [121, 101, 115]) = false := by simp [hy]
     clear hy HO hh
     go_wp2_with fail
     go_round
     case rel => exact ⟨1, by omega, by go_num, HR.out⟩
     case measure => simp [intOf]
    ·clear hy HO hh
     go_wp2_with fail
     go_round
     case rel => exact ⟨1, by omega, by go_num, HR.out⟩
     case measure => simp [intOf]
  ·have HO2 := Lib.hid (HO.out.trans (if_neg (hh.out.1 (by omega))))
   by_cases hy : s.take 2 = [110, 111]
   ·have hl : 2 ≤ s.length := by have := congrArg List.length hy; rw [List.length_take] at this; simp at this; omega
    have hyb : (s.take 2 == [110, 111]) = true := by simp [hy]
    have HF := Lib.hid (HO2.out.trans (if_pos hy))
    clear hy HO HO2 hh
    go_wp2_with fail
    go_region
    all_goals
     go_wp2_with fail
     go_ret3
     exact RetV.yes HF.out (by (repeat (first | with_reducible exact Below.refl _ _ | with_reducible apply below_drew | with_reducible apply below_draws | with_reducible apply below_alloc | with_reducible apply below_set | (with_reducible refine below_trans ?_ (by assumption)) | (with_reducible refine Below.trans ?_ (by assumption)) | exact Nat.le_refl _ | omega | (simp <;> omega)))) (VAt.freshAt _ _ (by simp) (by omega))
   ·have HR := Lib.hid (show ((1 ≤ 2 → s.take 3 ≠ [121, 101, 115]) ∧ (2 ≤ 2 → s.take 2 ≠ [110, 111])) from ⟨fun _ => hh.out.1 (by omega), fun _ => hy⟩)
    by_cases hl : 2 ≤ s.length
    ·have hyb : (s.take 2 == [110, 111]) = false := by simp [hy]
     clear hy HO HO2 hh
     go_wp2_with fail
     go_round
     case rel => exact ⟨2, by omega, by go_num, HR.out⟩
     case measure => simp [intOf]
    ·clear hy HO HO2 hh
     go_wp2_with fail
     go_round
     case rel => exact ⟨2, by omega, by go_num, HR.out⟩
     case measure => simp [intOf]
  ·have HF := Lib.hid (HO.out.trans ((if_neg (hh.out.1 (by omega))).trans (if_neg (hh.out.2 (by omega)))))
   clear HO hh
   go_wp2_with fail
   go_ret3
   exact RetV.no HF.out (by (repeat (first | with_reducible exact Below.refl _ _ | with_reducible apply below_drew | with_reducible apply below_draws | with_reducible apply below_alloc | with_reducible apply below_set | (with_reducible refine below_trans ?_ (by assumption)) | (with_reducible refine Below.trans ?_ (by assumption)) | exact Nat.le_refl _ | omega | (simp <;> omega))))
def RetTag (w : World) (o : Option (Fl × Bs)) (e : Ending) (w' : World) : Prop := ∃ (f : Fl) (r : Bs), e = .returned (.tuple #[fv f, .string (S r), .bool o.isSome]) ∧ (∀ x, o = some x → f = x.1 ∧ r = x.2) ∧ Below w.heap.size w w'
theorem tagR_num (s : Bs) (t : Ty) (d : Nat) (hd : digsN s = d) (h : numL (s.take d) 200 = none) : tagR s t = none := by unfold tagR; rw [hd, h]
theorem tagR_on (s : Bs) (t : Ty) (d : Nat) (hd : digsN s = d) (g : Int) (h : numL (s.take d) 200 = some g) : tagR s t = (fieldT t g).map fun f => (f, s.drop d) := by
 unfold tagR; rw [hd, h]; simp only
 show (match fieldT t g with | none => none | some f => some (f, s.drop d)) = _
 cases fieldT t g <;> rfl
theorem RetTag.no {w w' : World} {o : Option (Fl × Bs)} (f : Fl) (r : Bs) (h : o = none) (hb : Below w.heap.size w w') : RetTag w o (.returned (.tuple #[fv f, .string (S r), .bool false])) w' := ⟨f, r, by rw [h]; rfl, (by rw [h]; intro x hx; cases hx), hb⟩
theorem RetTag.yes {w w' : World} {o : Option (Fl × Bs)} (f : Fl) (r : Bs) (h : o = some (f, r)) (hb : Below w.heap.size w w') : RetTag w o (.returned (.tuple #[fv f, .string (S r), .bool true])) w' := ⟨f, r, by rw [h]; rfl, (by rw [h]; intro x hx; injection hx with hx; subst hx; exact ⟨rfl, rfl⟩), hb⟩
def ofFl (r : Bs) : Option Fl → Option (Fl × Bs) | none => none | some f => some (f, r)
theorem RetTag.of {w w' : World} {o : Option (Fl × Bs)} {y : Option Fl} (f : Fl) (r : Bs) {b : Bool} (h : o = ofFl r y) (hy : ∀ x, y = some x → f = x) (hb : y.isSome = b) (hw : Below w.heap.size w w') : RetTag w o (.returned (.tuple #[fv f, .string (S r), .bool b])) w' := by
 subst hb
 cases y with
 | none => exact RetTag.no f r h hw
 | some x => obtain rfl := hy x rfl; exact RetTag.yes f r h hw
set_option maxHeartbeats 4000000 in
theorem k_tag (v : Value) (t : Ty) (a : Option Addr) (c : Nat) (B : Nat) (s : Bs) (w : World) (hs : s.length ≤ 2000000) (hF : Flds w B (.slice a t.fields.length c) t.fields) (hl : t.fields.length ≤ 1000000) :
  Calls Tryz.prog 110 #[rv v, .string (S s), tv t (.slice a t.fields.length c)] w (RetTag w (tagR s t)) := by
 have HD := Lib.hid (fun w => k_l4Digits s w hs)
 have hdl := digsN_le s
 obtain ⟨d, hdd⟩ : ∃ d, digsN s = d := ⟨_, rfl⟩
 obtain ⟨o, ho⟩ : ∃ o, numL (s.take d) 200 = o := ⟨_, rfl⟩
 have HN := Lib.hid (fun w => k_l3Num (s.take d) 200 w (by simp; omega) (by omega) (by omega))
 have HF := Lib.hid hF
 have HKF := Lib.hid (fun g w h => k_field t a c B g w h hl)
 rw [ho] at HN
 rw [hdd] at HD hdl
 have HO := Lib.hid (And.intro hdd ho)
 clear hF ho hdd
 unfold rv tv
 unfold tv at HKF
 go_enter Tryz.func110, Tryz.ntmps110
 go_wp2_with (first | (go_at_call 111; refine (HD.out _).mono ?_; rintro e w' ⟨rfl, rfl⟩))
 refine (HN.out _).mono ?_
 rintro e w1 ⟨x, rfl, hx, hb⟩
 have KT := Lib.hid ((((Blk.new (w.alloc (.cells #[v] 99)) 61 #[.int .u8 t.sort, .string (S t.name), .slice a t.fields.length c]).alloc (.cells #[.int .i64 0, .string { data := #[] }, .string { data := #[] }, .string { data := #[] }] 65))).keep hb)
 have KR := Lib.hid ((Blk.new ((w.alloc (.cells #[v] 99)).alloc (.cells #[.int .u8 t.sort, .string (S t.name), .slice a t.fields.length c] 61)) 65 #[.int .i64 0, .string { data := #[] }, .string { data := #[] }, .string { data := #[] }]).keep hb)
 simp only [World.size_alloc] at KT KR
 have hbw : Below w.heap.size w w1 := by (repeat (first | with_reducible exact Below.refl _ _ | with_reducible apply below_drew | with_reducible apply below_draws | with_reducible apply below_alloc | with_reducible apply below_set | (with_reducible refine below_trans ?_ (by assumption)) | (with_reducible refine Below.trans ?_ (by assumption)) | exact Nat.le_refl _ | omega | (simp <;> omega)))
 have hz1 : w.heap.size + 1 + 1 < w1.heap.size := by have := hb.size; simp at this; omega
 have HFw := Lib.hid (HF.out.below hbw)
 clear hb HN HD
 have t0 := KT.out.cell 0
 have t1 := KT.out.cell 1
 have t2 := KT.out.cell 2
 simp at t0 t1 t2
 go_wp2_with fail
 refine (HKF.out x w1 HFw.out).mono ?_
 rintro e w2 ⟨f, rfl, hf, hb2⟩
 unfold fv
 have KR2 := Lib.hid (KR.out.keep hb2)
 have hbw2 := below_trans hbw hb2
 have hz2 : w.heap.size + 1 + 1 < w2.heap.size := by have := hb2.size; omega
 clear KT KR hbw hb2 HFw HF HKF t0 t1 t2 hz1
 have v0 := KR2.out.cell 0
 have v1 := KR2.out.cell 1
 have v2 := KR2.out.cell 2
 have v3 := KR2.out.cell 3
 have r0 := KR2.out.frozen 0
 have r1 := KR2.out.frozen 1
 have r2 := KR2.out.frozen 2
 have r3 := KR2.out.frozen 3
 simp at v0 v1 v2 v3
 have hne : ¬ w2.heap.size = w.heap.size + 1 + 1 := by omega
 have hne' : ¬ w.heap.size + 1 + 1 = w2.heap.size := by omega
 cases o with
 | none =>
  have HF := Lib.hid (tagR_num s t d HO.out.1 HO.out.2)
  clear hf hx HO
  go_wp2_with fail
  go_region
  all_goals
   go_wp2_with fail
   refine bodyPost_ret (v := .tuple #[fv f, .string (S (s.drop d)), .bool false]) ?_ rfl ?_
   ·simp [results, Tryz.results110, go_sem, fv, v0, v1, v2, v3, r0, r1, r2, r3, hz2, hne, hne']
   ·exact RetTag.no _ _ HF.out (by (repeat (first | with_reducible exact Below.refl _ _ | with_reducible apply below_drew | with_reducible apply below_draws | with_reducible apply below_alloc | with_reducible apply below_set | (with_reducible refine below_trans ?_ (by assumption)) | (with_reducible refine Below.trans ?_ (by assumption)) | exact Nat.le_refl _ | omega | (simp <;> omega))))
 | some g =>
  obtain rfl := hx _ rfl
  have HT := tagR_on s t d HO.out.1 x HO.out.2
  obtain ⟨y, hy⟩ : ∃ y, fieldT t x = y := ⟨_, rfl⟩
  rw [hy] at hf ⊢ HT
  have HF := Lib.hid (show tagR s t = ofFl (s.drop d) y by rw [HT]; cases y <;> rfl)
  obtain ⟨b, hbb⟩ : ∃ b, y.isSome = b := ⟨_, rfl⟩
  rw [hbb]
  have HB := Lib.hid hbb
  have Hf := Lib.hid hf
  clear hx HO HT hy hbb hf
  go_wp2_with fail
  go_region
  all_goals
   go_wp2_with fail
   refine bodyPost_ret (v := .tuple #[fv f, .string (S (s.drop d)), .bool b]) ?_ rfl ?_
   ·simp [results, Tryz.results110, go_sem, fv, v0, v1, v2, v3, r0, r1, r2, r3, hz2, hne, hne']
   ·exact RetTag.of f _ HF.out Hf.out HB.out (by (repeat (first | with_reducible exact Below.refl _ _ | with_reducible apply below_drew | with_reducible apply below_draws | with_reducible apply below_alloc | with_reducible apply below_set | (with_reducible refine below_trans ?_ (by assumption)) | (with_reducible refine Below.trans ?_ (by assumption)) | exact Nat.le_refl _ | omega | (simp <;> omega))))
end Go.Proofs.YtcjooeklehggaaaGreatDoor
