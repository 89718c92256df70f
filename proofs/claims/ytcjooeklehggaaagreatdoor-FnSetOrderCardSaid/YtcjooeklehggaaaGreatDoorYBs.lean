/- Lemmas of this seat. -/
import Derived.Deep.AppendLies
import Derived.Test.YtcjooeklehggaaaGreatDoorZBs
import Derived.Test.YtcjooeklehggaaaGreatDoorZCs
import Derived.Test.YtcjooeklehggaaaGreatDoorYAs
set_option linter.unusedVariables false
set_option linter.unusedSimpArgs false
set_option maxRecDepth 100000
namespace Go.Proofs.YtcjooeklehggaaaGreatDoor
open Go.ChangeShapes Go.WideShapes Go.ChangeAt Go.RowKit M
abbrev vp (b : Nat) : Value := .pointer (some ⟨b, 0, none⟩)
def Kids (w : World) (N : Nat → Prop) (v : Value) (L : List Nat) : Prop := w.ownsRow 0 80 1 v L.length (L.map vp) ∧ ∀ g, v.ownBlock = some g → N g
def Tgs (w : World) (N : Nat → Prop) (v : Value) (L : List Int) : Prop := Ints w 0 v L ∧ ∀ g, v.ownBlock = some g → N g
theorem info_vptr : (Tryz.prog.info? 80).map (fun i => (i.zero, i.size, i.bytes)) = some (some (.pointer none), 1, 8) := by kernel_rfl
section
variable {w w' : World} {N N' : Nat → Prop} {v : Value} {ro : Option Nat}
theorem row_kept {e : TypeId} {size n : Nat} {xs : List Value} (h : w.ownsRow 0 e size v n xs) (hN : ∀ g, v.ownBlock = some g → N g) (hg : w.grownBy w' ro) (hr : ∀ r, ro = some r → ¬ N r) : w'.ownsRow 0 e size v n xs := by
 refine h.kept hg ?_
 cases hv : v.ownBlock with
 | none => exact .inl rfl
 | some g => exact .inr (fun e => hr g e.symm (hN g hv))
theorem Kids.rowed {L : List Nat} (h : Kids w N v L) (hg : w.grownBy w' ro) (hr : ∀ r, ro = some r → ¬ N r) : Kids w' N v L := ⟨row_kept h.1 h.2 hg hr, h.2⟩
theorem Tgs.rowed {L : List Int} (h : Tgs w N v L) (hg : w.grownBy w' ro) (hr : ∀ r, ro = some r → ¬ N r) : Tgs w' N v L := ⟨row_kept h.1 h.2 hg hr, h.2⟩
theorem Kids.imp {L : List Nat} (h : Kids w N v L) (hi : ∀ b, b < w.heap.size → N b → N' b) : Kids w N' v L := ⟨h.1, fun g hg => hi g (h.1.lt g hg).2 (h.2 g hg)⟩
theorem Tgs.imp {L : List Int} (h : Tgs w N v L) (hi : ∀ b, b < w.heap.size → N b → N' b) : Tgs w N' v L := ⟨h.1, fun g hg => hi g (World.ownsRow.lt h.1 g hg).2 (h.2 g hg)⟩
theorem Kids.nil_ (w : World) (N : Nat → Prop) : Kids w N (.slice none 0 0) [] := ⟨World.ownsRow_nil w 0 _ 1, by intro g h; cases h⟩
theorem Tgs.nil_ (w : World) (N : Nat → Prop) : Tgs w N (.slice none 0 0) [] := ⟨World.ownsRow_nil w 0 _ 1, by intro g h; cases h⟩
theorem Kids.form {L : List Nat} (h : Kids w N v L) : ∃ ao cap, v = .slice ao L.length cap ∧ L.length ≤ cap ∧ (ao = none ∧ L = [] ∨ ∃ g, ao = some ⟨g, 0, none⟩ ∧ N g ∧ g < w.heap.size) := by
 rcases h.1.2 with ⟨rfl, hn⟩ | ⟨g, cap, cur, rfl, hb, hg, hnc, hm, hs, ht⟩
 ·rw [hn]; exact ⟨none, 0, rfl, Nat.le_refl _, .inl ⟨rfl, List.eq_nil_of_length_eq_zero hn⟩⟩
 ·exact ⟨_, cap, rfl, hnc, .inr ⟨g, rfl, h.2 g rfl, (Array.getElem?_eq_some_iff.1 hg).1⟩⟩
theorem Tgs.form {L : List Int} (h : Tgs w N v L) : ∃ ao cap, v = .slice ao L.length cap ∧ L.length ≤ cap ∧ (ao = none ∧ L = [] ∨ ∃ g, ao = some ⟨g, 0, none⟩ ∧ N g ∧ g < w.heap.size) := by
 rcases h.1.2 with ⟨rfl, hn⟩ | ⟨g, cap, cur, rfl, hb, hg, hnc, hm, hs, ht⟩
 ·rw [hn]; exact ⟨none, 0, rfl, Nat.le_refl _, .inl ⟨rfl, List.eq_nil_of_length_eq_zero hn⟩⟩
 ·exact ⟨_, cap, rfl, hnc, .inr ⟨g, rfl, h.2 g rfl, (Array.getElem?_eq_some_iff.1 hg).1⟩⟩
theorem Kids.same {g n cap : Nat} {L : List Nat} (h : Kids w N (.slice (some ⟨g, 0, none⟩) n cap) L) : n = L.length := by
 obtain ⟨ao, c, hv, -, -⟩ := h.form; injection hv
theorem Tgs.same {g n cap : Nat} {L : List Int} (h : Tgs w N (.slice (some ⟨g, 0, none⟩) n cap) L) : n = L.length := by
 obtain ⟨ao, c, hv, -, -⟩ := h.form; injection hv
theorem Kids.cell {g n cap : Nat} {L : List Nat} (h : Kids w N (.slice (some ⟨g, 0, none⟩) n cap) L) (k : Nat) (hk : k < L.length) : w.cell? ⟨g, k, none⟩ = some (vp L[k]) := by
 obtain rfl := h.same
 rw [World.ownsRow.cellAt h.1 k (by omega)]; simp [hk]
theorem Tgs.cell {g n cap : Nat} {L : List Int} (h : Tgs w N (.slice (some ⟨g, 0, none⟩) n cap) L) (k : Nat) (hk : k < L.length) : w.cell? ⟨g, k, none⟩ = some (.int .i64 L[k]) := by
 obtain rfl := h.same
 rw [World.ownsRow.cellAt h.1 k (by omega)]; simp [iv, hk]
end
inductive VAt (w : World) (N : Nat → Prop) : V → Nat → Prop
 | mk {k t : Bs} {gs : List Int} {l : List V} {p : Nat} {vt vk : Value} (ps : List Nat) (hp : N p) (hb : Blk w p 133 #[.string (S k), .string (S t), vt, vk]) (ht : Tgs w N vt gs) (hk : Kids w N vk ps)
   (hl : ps.length = l.length) (h : ∀ (i : Nat) (h1 : i < l.length) (h2 : i < ps.length), VAt w N l[i] ps[i]) : VAt w N (.mk k t gs l) p
def Many (w : World) (N : Nat → Prop) (l : List V) (ps : List Nat) : Prop := ps.length = l.length ∧ ∀ (i : Nat) (_ : i < l.length) (_ : i < ps.length), VAt w N l[i] ps[i]
section
variable {w w' : World} {N N' : Nat → Prop} {ro : Option Nat}
theorem VAt.rowed {v : V} {p : Nat} (h : VAt w N v p) (hg : w.grownBy w' ro) (hr : ∀ r, ro = some r → ¬ N r) : VAt w' N v p := by
 induction h with
 | mk ps hp hb ht hk hl _ ih => exact .mk ps hp (hb.grown hg (fun e => hr _ e.symm hp)) (ht.rowed hg hr) (hk.rowed hg hr) hl ih
theorem VAt.imp {v : V} {p : Nat} (h : VAt w N v p) (hi : ∀ b, b < w.heap.size → N b → N' b) : VAt w N' v p := by
 induction h with
 | mk ps hp hb ht hk hl _ ih => exact .mk ps (hi _ hb.lt hp) hb (ht.imp hi) (hk.imp hi) hl ih
theorem VAt.belowed {v : V} {p : Nat} (h : VAt w N v p) (hb : Below w.heap.size w w') : VAt w' N v p   := h.rowed (grown_of_below hb none) (by intro r e; cases e)
theorem Many.rowed {l : List V} {ps : List Nat} (h : Many w N l ps) (hg : w.grownBy w' ro) (hr : ∀ r, ro = some r → ¬ N r) : Many w' N l ps := ⟨h.1, fun i h1 h2 => (h.2 i h1 h2).rowed hg hr⟩
theorem Many.imp {l : List V} {ps : List Nat} (h : Many w N l ps) (hi : ∀ b, b < w.heap.size → N b → N' b) : Many w N' l ps := ⟨h.1, fun i h1 h2 => (h.2 i h1 h2).imp hi⟩
theorem Many.belowed {l : List V} {ps : List Nat} (h : Many w N l ps) (hb : Below w.heap.size w w') : Many w' N l ps := ⟨h.1, fun i h1 h2 => (h.2 i h1 h2).belowed hb⟩
theorem Many.nil_ (w : World) (N : Nat → Prop) : Many w N [] [] := ⟨rfl, by intro i h; simp at h⟩
theorem Many.snoc {l : List V} {ps : List Nat} (h : Many w N l ps) {x : V} {p : Nat} (hx : VAt w N x p) : Many w N (l ++ [x]) (ps ++ [p]) := by
 refine ⟨by simp [h.1], ?_⟩
 intro i h1 h2
 rcases Nat.lt_or_ge i l.length with hlt | hge
 ·rw [List.getElem_append_left hlt, List.getElem_append_left (by rw [h.1]; exact hlt)]; exact h.2 i hlt _
 ·have : i = l.length := by simp at h1; omega
  subst this
  simpa [h.1] using hx
theorem VAt.make {k t : Bs} {gs : List Int} {l : List V} {p : Nat} {vt vk : Value} {ps : List Nat} (hp : N p) (hb : Blk w p 133 #[.string (S k), .string (S t), vt, vk]) (ht : Tgs w N vt gs) (hk : Kids w N vk ps) (hl : Many w N l ps) : VAt w N (.mk k t gs l) p := .mk ps hp hb ht hk hl.1 hl.2
theorem VAt.parts {k t : Bs} {gs : List Int} {l : List V} {p : Nat} (h : VAt w N (.mk k t gs l) p) : ∃ (ps : List Nat) (at_ : Option Addr) (ct : Nat) (ak : Option Addr) (ck : Nat), N p ∧ Blk w p 133 #[.string (S k), .string (S t), .slice at_ gs.length ct, .slice ak ps.length ck] ∧
  Tgs w N (.slice at_ gs.length ct) gs ∧ Kids w N (.slice ak ps.length ck) ps ∧ Many w N l ps := by
 cases h with
 | mk ps hp hb ht hk hl hh =>
  obtain ⟨a, c, rfl, -, -⟩ := ht.form
  obtain ⟨a', c', rfl, -, -⟩ := hk.form
  exact ⟨ps, a, c, a', c', hp, hb, ht, hk, hl, hh⟩
end
def RetV (w : World) (o : Option (V × Bs)) (e : Ending) (w' : World) : Prop := ∃ (pv : Option Addr) (r : Bs), e = .returned (.tuple #[.pointer pv, .string (S r), .bool o.isSome]) ∧ Below w.heap.size w w' ∧
 ∀ x, o = some x → r = x.2 ∧ ∃ p, pv = some ⟨p, 0, none⟩ ∧ VAt w' (fun b => w.heap.size ≤ b) x.1 p
theorem RetV.no {w w' : World} {o : Option (V × Bs)} {pv : Option Addr} {r : Bs} (h : o = none) (hb : Below w.heap.size w w') : RetV w o (.returned (.tuple #[.pointer pv, .string (S r), .bool false])) w' := ⟨pv, r, by rw [h]; rfl, hb, by rw [h]; intro x hx; cases hx⟩
theorem RetV.yes {w w' : World} {o : Option (V × Bs)} {p : Nat} {v : V} {r : Bs} (h : o = some (v, r)) (hb : Below w.heap.size w w') (hv : VAt w' (fun b => w.heap.size ≤ b) v p) : RetV w o (.returned (.tuple #[vp p, .string (S r), .bool true])) w' :=
 ⟨_, r, by rw [h]; rfl, hb, by rw [h]; intro x hx; injection hx with hx; subst hx; exact ⟨rfl, p, rfl, hv⟩⟩
theorem app_kid {w : World} {ops : Array Oper} {rest : List Oper} {o : Oper} {a : Act} {Q : Exit → Act → World → Prop} (hgd : o.guard = none) (s x : Operand)
  (ho : o.op = .call { callee := .builtin .append, args := #[s, x], argTypes := #[131, 131] })
  (N : Nat → Prop) (v : Value) (L : List Nat) (hs : a.eval s = v) (hown : Kids w N v L) (b y : Nat) (hx : a.eval x = .slice (some ⟨b, 0, none⟩) 1 1) (hc : w.cell? ⟨b, 0, none⟩ = some (vp y))
  (hn : L.length ≤ 3000000) (H : Nat) (hH : w.heap.size = H)
  (h : ∀ g cap w', Kids w' (fun b => N b ∨ H ≤ b) (.slice (some ⟨g, 0, none⟩) (L.length + 1) cap) (L ++ [y]) → w.grownBy w' v.ownBlock → (v.ownBlock = some g ∨ g = H) → g < w'.heap.size → wpList Tryz.prog ops Q rest (a.put o.dst (.slice (some ⟨g, 0, none⟩) (L.length + 1) cap)) w') : wpList Tryz.prog ops Q (o :: rest) a w := by
 obtain ⟨i, hi0, hz0, hz1, hz2⟩ := info_parts info_vptr
 refine wpList_append_lies w hgd s x 131 ho 0 80 i _ 1 8 Tryz.underlying131 hi0 hz0 hz1 hz2 rfl (by omega) v L.length (L.map vp) hs hown.1 ⟨b, 0, none⟩ 1 1 [vp y] hx rfl ?_ ?_ (by omega) (by unfold maxLen; omega) (by omega) (Nat.zero_le _) H hH ?_
 ·intro j u hj
  match j, hj with
  | 0, hj => simp at hj; subst hj; simpa [Addr.add] using hc
 ·intro u hu; simp at hu; subst hu; rfl
 ·intro g cap w' h1 h2 h3 h4
  refine h g cap w' ⟨?_, ?_⟩ h2 h3 h4
  ·rw [List.length_append, List.map_append]; exact h1
  ·intro g' hg'
   injection hg' with hg'
   have hg2 : g = g' := hg'
   subst hg2
   rcases h3 with h3 | h3
   ·exact .inl (hown.2 g h3)
   ·exact .inr (by omega)
theorem app_tg {w : World} {ops : Array Oper} {rest : List Oper} {o : Oper} {a : Act} {Q : Exit → Act → World → Prop} (hgd : o.guard = none) (s x : Operand)
  (ho : o.op = .call { callee := .builtin .append, args := #[s, x], argTypes := #[130, 130] })
  (N : Nat → Prop) (v : Value) (L : List Int) (hs : a.eval s = v) (hown : Tgs w N v L) (b : Nat) (y : Int) (hx : a.eval x = .slice (some ⟨b, 0, none⟩) 1 1) (hc : w.cell? ⟨b, 0, none⟩ = some (.int .i64 y))
  (hn : L.length ≤ 3000000) (H : Nat) (hH : w.heap.size = H)
  (h : ∀ g cap w', Tgs w' (fun b => N b ∨ H ≤ b) (.slice (some ⟨g, 0, none⟩) (L.length + 1) cap) (L ++ [y]) → w.grownBy w' v.ownBlock → (v.ownBlock = some g ∨ g = H) → g < w'.heap.size → wpList Tryz.prog ops Q rest (a.put o.dst (.slice (some ⟨g, 0, none⟩) (L.length + 1) cap)) w') : wpList Tryz.prog ops Q (o :: rest) a w := by
 obtain ⟨i, hi0, hz0, hz1, hz2⟩ := info_parts info_int
 refine wpList_append_lies w hgd s x 130 ho 0 3 i _ 1 8 Tryz.underlying130 hi0 hz0 hz1 hz2 rfl (by omega) v L.length (L.map iv) hs hown.1 ⟨b, 0, none⟩ 1 1 [iv y] hx rfl ?_ ?_ (by omega) (by unfold maxLen; omega) (by omega) (Nat.zero_le _) H hH ?_
 ·intro j u hj
  match j, hj with
  | 0, hj => simp at hj; subst hj; simpa [Addr.add] using hc
 ·intro u hu; simp at hu; subst hu; rfl
 ·intro g cap w' h1 h2 h3 h4
  refine h g cap w' ⟨?_, ?_⟩ h2 h3 h4
  ·unfold Ints; rw [List.length_append, List.map_append]; exact h1
  ·intro g' hg'
   injection hg' with hg'
   have hg2 : g = g' := hg'
   subst hg2
   rcases h3 with h3 | h3
   ·exact .inl (hown.2 g h3)
   ·exact .inr (by omega)
def OutIH (l : List V) : Prop := ∀ (i : Nat) (h : i < l.length) (N : Nat → Prop) (p : Nat) (w : World), VAt w N l[i] p → Calls Tryz.prog 54 #[vp p] w fun e w' => e = .returned (.string (S (outV l[i]))) ∧ Below w.heap.size w w'
theorem VAt.cells {w : World} {N : Nat → Prop} {k t : Bs} {gs : List Int} {l : List V} {p : Nat} (h : VAt w N (.mk k t gs l) p) : ∃ (ps : List Nat) (at_ : Option Addr) (ct : Nat) (ak : Option Addr) (ck : Nat), p < w.heap.size ∧
  w.cell? ⟨p, 0, none⟩ = some (.string (S k)) ∧ w.cell? ⟨p, 1, none⟩ = some (.string (S t)) ∧ w.cell? ⟨p, 2, none⟩ = some (.slice at_ gs.length ct) ∧ w.cell? ⟨p, 3, none⟩ = some (.slice ak l.length ck) ∧
  Tgs w N (.slice at_ gs.length ct) gs ∧ Kids w N (.slice ak l.length ck) ps ∧ Many w N l ps := by
 obtain ⟨ps, a, c, a', c', hN, hb, ht, hk, hm⟩ := h.parts
 rw [hm.1] at hb hk
 exact ⟨ps, a, c, a', c', hb.lt, hb.cell 0, hb.cell 1, hb.cell 2, hb.cell 3, ht, hk, hm⟩
theorem Kids.at_ {w : World} {N : Nat → Prop} {a : Option Addr} {n c : Nat} {ps : List Nat} (h : Kids w N (.slice a n c) ps) (hn : 0 < ps.length) : ∃ g, a = some ⟨g, 0, none⟩ ∧ g < w.heap.size ∧ N g := by
 obtain ⟨ao, cap, hv, -, hh⟩ := h.form
 injection hv with hv
 rcases hh with ⟨_, h0⟩ | ⟨g, hh, h1, h2⟩
 ·rw [h0] at hn; simp at hn
 ·exact ⟨g, hv.trans hh, h2, h1⟩
theorem Tgs.at_ {w : World} {N : Nat → Prop} {a : Option Addr} {n c : Nat} {ps : List Int} (h : Tgs w N (.slice a n c) ps) (hn : 0 < ps.length) : ∃ g, a = some ⟨g, 0, none⟩ ∧ g < w.heap.size ∧ N g := by
 obtain ⟨ao, cap, hv, -, hh⟩ := h.form
 injection hv with hv
 rcases hh with ⟨_, h0⟩ | ⟨g, hh, h1, h2⟩
 ·rw [h0] at hn; simp at hn
 ·exact ⟨g, hv.trans hh, h2, h1⟩
theorem k_out_plain {k t : Bs} {gs : List Int} {l : List V} {N : Nat → Prop} {p : Nat} {w : World} (h1 : at_ k 0 ≠ 91) (h2 : at_ k 0 ≠ 63) (h3 : at_ k 0 ≠ 64) (hk : 0 < k.length) (hv : VAt w N (.mk k t gs l) p) :
  Calls Tryz.prog 54 #[vp p] w fun e w' => e = .returned (.string (S (outV (.mk k t gs l)))) ∧ Below w.heap.size w w' := by
 rw [out_plain h1 h2 h3]
 obtain ⟨ps, a, c, a', c', hp, c0, c1, -, -, -, -, -⟩ := hv.cells
 have b1 : (at_ k 0 == 91) = false := by simp [h1]
 have b2 : (at_ k 0 == 63) = false := by simp [h2]
 have b3 : (at_ k 0 == 64) = false := by simp [h3]
 clear h1 h2 h3 hv
 go_enter Tryz.func54, Tryz.ntmps54
 go_wp2_with fail
 go_ret
 exact ⟨rfl, by (repeat (first | with_reducible exact Below.refl _ _ | with_reducible apply below_drew | with_reducible apply below_draws | with_reducible apply below_alloc | with_reducible apply below_set | (with_reducible refine below_trans ?_ (by assumption)) | (with_reducible refine Below.trans ?_ (by assumption)) | exact Nat.le_refl _ | omega | (simp <;> omega)))⟩
theorem k_out_none {k t : Bs} {gs : List Int} {N : Nat → Prop} {p : Nat} {w : World} (h2 : at_ k 0 = 63) (hk : 0 < k.length) (hv : VAt w N (.mk k t gs []) p) :
  Calls Tryz.prog 54 #[vp p] w fun e w' => e = .returned (.string (S (outV (.mk k t gs [])))) ∧ Below w.heap.size w w' := by
 rw [out_none h2]
 obtain ⟨ps, a, c, a', c', hp, c0, c1, -, c3, -, -, -⟩ := hv.cells
 simp only [List.length_nil] at c3
 clear hv
 go_enter Tryz.func54, Tryz.ntmps54
 go_wp2_with fail
 go_ret
 exact ⟨rfl, by (repeat (first | with_reducible exact Below.refl _ _ | with_reducible apply below_drew | with_reducible apply below_draws | with_reducible apply below_alloc | with_reducible apply below_set | (with_reducible refine below_trans ?_ (by assumption)) | (with_reducible refine Below.trans ?_ (by assumption)) | exact Nat.le_refl _ | omega | (simp <;> omega)))⟩
theorem k_out_some {k t : Bs} {gs : List Int} {x : V} {N : Nat → Prop} {p : Nat} {w : World} (h2 : at_ k 0 = 63) (hk : 0 < k.length) (hv : VAt w N (.mk k t gs [x]) p) (ih : OutIH [x]) (hlen : (outV x).length ≤ 1500000) :
  Calls Tryz.prog 54 #[vp p] w fun e w' => e = .returned (.string (S (outV (.mk k t gs [x])))) ∧ Below w.heap.size w w' := by
 rw [out_some h2]
 obtain ⟨ps, a, c, a', c', hp, c0, c1, -, c3, -, hK, hM⟩ := hv.cells
 have hpl : ps.length = 1 := hM.1
 obtain ⟨g, rfl, hg, -⟩ := hK.at_ (by omega)
 have x0 := hK.cell 0 (by omega)
 have hx := hM.2 0 (by simp) (by omega)
 simp only [List.length_cons, List.length_nil, List.getElem_cons_zero] at c3 hx
 obtain ⟨q, hq⟩ : ∃ q, ps[0] = q := ⟨_, rfl⟩
 rw [hq] at x0 hx
 have IH := Lib.hid (fun w (h : VAt w N x q) => ih 0 (by simp) N q w h)
 simp only [List.getElem_cons_zero] at IH
 have HX := Lib.hid hx; clear hx hM hK hv hq ih
 generalize outV x = o at *
 have t1 := cat_run [43] o (by simp; omega)
 go_enter Tryz.func54, Tryz.ntmps54
 go_wp2_with fail
 refine (IH.out _ HX.out).mono ?_
 rintro e w1 ⟨rfl, hb⟩
 go_wp2_with fail
 go_ret
 exact ⟨rfl, by (repeat (first | with_reducible exact Below.refl _ _ | with_reducible apply below_drew | with_reducible apply below_draws | with_reducible apply below_alloc | with_reducible apply below_set | (with_reducible refine below_trans ?_ (by assumption)) | (with_reducible refine Below.trans ?_ (by assumption)) | exact Nat.le_refl _ | omega | (simp <;> omega)))⟩
theorem k_out_list {k t : Bs} {gs : List Int} {l : List V} {N : Nat → Prop} {p : Nat} {w : World} (h91 : at_ k 0 = 91) (hk : 0 < k.length) (hv : VAt w N (.mk k t gs l) p) (ih : OutIH l) (hlen : (outV (.mk k t gs l)).length ≤ 1500000) (hll : l.length ≤ 1500000) :
  Calls Tryz.prog 54 #[vp p] w fun e w' => e = .returned (.string (S (outV (.mk k t gs l)))) ∧ Below w.heap.size w w' := by
 rw [out_list h91] at hlen ⊢
 have HV := Lib.hid hv
 obtain ⟨ps, a, c, a', c', hp, c0, c1, -, c3, -, -, -⟩ := hv.cells
 have IH := Lib.hid ih
 clear hv ih
 obtain ⟨n, hn⟩ : ∃ n, l.length = n := ⟨_, rfl⟩
 obtain ⟨L, hL⟩ : ∃ L, l.map outV = L := ⟨_, rfl⟩
 have hML : L.length = n := by rw [← hL]; simpa using hn
 have HG := Lib.hid (fun (i : Nat) (h : i < l.length) (h2 : i < L.length) => (by subst hL; simp : L[i] = outV l[i]))
 rw [hL] at hlen ⊢
 clear hL
 have HJ := Lib.hid (fun i h => joinC_one_le L i h)
 have HJ2 := Lib.hid (fun i h => joinC_le L i h)
 have hJl : (joinC L).length ≤ 1500000 := by simp at hlen; omega
 rw [hn] at c3 hll
 have HML := Lib.hid hML; clear hML
 have HN := Lib.hid hn; clear hn
 go_enter Tryz.func54, Tryz.ntmps54
 go_wp2_with fail
 go_loopw [3, 4] (fun s i wr => ∃ j : Nat, j ≤ n ∧ i = .int .i64 j ∧ s = .string (S (91 :: joinC (L.take j))) ∧ Below w.heap.size w wr) (fun _ i _ => n - (intOf i).toNat)
 case atStart => exact ⟨0, by omega, rfl, rfl, by (repeat (first | with_reducible exact Below.refl _ _ | with_reducible apply below_drew | with_reducible apply below_draws | with_reducible apply below_alloc | with_reducible apply below_set | (with_reducible refine below_trans ?_ (by assumption)) | (with_reducible refine Below.trans ?_ (by assumption)) | exact Nat.le_refl _ | omega | (simp <;> omega)))⟩
 case round =>
  obtain ⟨j, hj, rfl, rfl, hb⟩ := hrel
  obtain ⟨ps, a, c, a', c', hp, c0, c1, -, c3, -, hK, hM⟩ := (HV.out.belowed hb).cells
  rw [HN.out] at c3
  have hplen : ps.length = n := by rw [hM.1, HN.out]
  by_cases hjn : j < n
  ·obtain ⟨g, rfl, hg, -⟩ := hK.at_ (by omega)
   have x0 := hK.cell j (by omega)
   have hjl : j < l.length := by rw [HN.out]; exact hjn
   have hjL : j < L.length := by rw [HML.out]; exact hjn
   have hx := hM.2 j hjl (by omega)
   obtain ⟨q, hq⟩ : ∃ q, ps[j] = q := ⟨_, rfl⟩
   rw [hq] at x0 hx
   have IHj := Lib.hid (fun w (h : VAt w N l[j] q) => IH.out j hjl N q w h)
   have hgj := HG.out j hjl hjL
   rw [← hgj] at IHj
   have h1 := HJ.out j hjL
   have HX := Lib.hid hx; clear hx hM hK hq hgj
   obtain ⟨o, ho⟩ : ∃ o, L[j] = o := ⟨_, rfl⟩
   rw [ho] at IHj h1
   obtain ⟨A, hA⟩ : ∃ A, joinC (L.take j) = A := ⟨_, rfl⟩
   rw [hA] at h1 ⊢
   by_cases hj0 : j = 0
   ·subst hj0
    have HR := Lib.hid (show (91 : UInt8) :: joinC (L.take (0 + 1)) = (91 :: A) ++ o by
     rw [joinC_one L hjL, ho, ← hA]; rfl)
    have t1 := cat_run (91 :: A) o (by simp; omega)
    clear ho hA
    go_wp2_with fail
    refine (IHj.out _ HX.out).mono ?_
    rintro e w1 ⟨rfl, hb1⟩
    go_wp2_with fail
    go_roundw
    case rel => exact ⟨0 + 1, by omega, by go_num, (by rw [HR.out] <;> first | rfl | simp), by (repeat (first | with_reducible exact Below.refl _ _ | with_reducible apply below_drew | with_reducible apply below_draws | with_reducible apply below_alloc | with_reducible apply below_set | (with_reducible refine below_trans ?_ (by assumption)) | (with_reducible refine Below.trans ?_ (by assumption)) | exact Nat.le_refl _ | omega | (simp <;> omega)))⟩
    case measure => simp [intOf]; omega
   ·have HR := Lib.hid (show (91 : UInt8) :: joinC (L.take (j + 1)) = (91 :: A ++ [44]) ++ o by
     rw [joinC_more L j hjL hj0, ho, ← hA]; simp)
    have t1 := cat_run (91 :: A) [44] (by simp; omega)
    have t2 := cat_run (91 :: A ++ [44]) o (by simp; omega)
    have hj1 : 0 < j := by omega
    clear ho hA
    go_wp2_with fail
    refine (IHj.out _ HX.out).mono ?_
    rintro e w1 ⟨rfl, hb1⟩
    go_wp2_with fail
    go_roundw
    case rel => exact ⟨j + 1, by omega, by go_num, (by rw [HR.out] <;> first | rfl | simp), by (repeat (first | with_reducible exact Below.refl _ _ | with_reducible apply below_drew | with_reducible apply below_draws | with_reducible apply below_alloc | with_reducible apply below_set | (with_reducible refine below_trans ?_ (by assumption)) | (with_reducible refine Below.trans ?_ (by assumption)) | exact Nat.le_refl _ | omega | (simp <;> omega)))⟩
    case measure => simp [intOf]; omega
  ·obtain rfl : n = j := by omega
   have HR := Lib.hid (joinC_all L n (by rw [HML.out]; exact Nat.le_refl _))
   obtain ⟨A, hA⟩ : ∃ A, joinC L = A := ⟨_, rfl⟩
   rw [HR.out, hA]
   rw [hA] at hJl
   have t1 := cat_run (91 :: A) [93] (by simp; omega)
   have HA := Lib.hid hA; clear hA HR
   go_wp2_with fail
   go_ret
   exact ⟨ret_s (by rw [HA.out] <;> first | rfl | simp), by (repeat (first | with_reducible exact Below.refl _ _ | with_reducible apply below_drew | with_reducible apply below_draws | with_reducible apply below_alloc | with_reducible apply below_set | (with_reducible refine below_trans ?_ (by assumption)) | (with_reducible refine Below.trans ?_ (by assumption)) | exact Nat.le_refl _ | omega | (simp <;> omega)))⟩
def NK (w : World) (p i q r j : Nat) (a b c d : Value) (w' : World) : Prop := w'.cell? ⟨p, i, none⟩ = some a ∧ w'.cell? ⟨p, 3, none⟩ = some b ∧ w'.cell? ⟨q, j, none⟩ = some c ∧ w'.cell? ⟨r, j, none⟩ = some d ∧ Below w.heap.size w w'
theorem NK.later {w w4 w5 : World} {p i q r j : Nat} {a b c d : Value} (hb : Below w4.heap.size w4 w5) (h : NK w p i q r j a b c d w4) : NK w p i q r j a b c d w5 := by
 obtain ⟨h1, h2, h3, h4, h5⟩ := h
 exact ⟨cell_later hb h1, cell_later hb h2, cell_later hb h3, cell_later hb h4, below_trans h5 hb⟩
theorem k_named_enum {k : Bs} {g : Int} {l : List V} {N : Nat → Prop} {p : Nat} {w : World} (h64 : at_ k 0 = 64) (hv : VAt w N (.mk k [69] [g] l) p) (h0 : 0 ≤ g) (h1 : g ≤ 200) :
  Calls Tryz.prog 79 #[vp p] w fun e w' => e = .returned (.string (S (outV (.mk k [69] [g] l)))) ∧ Below w.heap.size w w' := by
 rw [out_enum h64]
 obtain ⟨ps, a, c, a', c', hp, -, c1, c2, -, hT, -, -⟩ := hv.cells
 obtain ⟨q, rfl, hq, -⟩ := hT.at_ (by simp)
 have x0 := hT.cell 0 (by simp)
 simp only [List.length_cons, List.length_nil, List.getElem_cons_zero, List.getD_cons_zero] at c2 x0 ⊢
 have HD := Lib.hid (fun w => k_l6Dec 1000 g w (by omega) (by omega) (by omega))
 have hdl := dec_len g
 generalize dec g = D at *
 have t1 := cat_run [35] D (by simp; omega)
 clear hT hv
 go_enter Tryz.func79, Tryz.ntmps79
 go_wp2_with fail
 refine (HD.out _).mono ?_
 rintro e w1 ⟨rfl, hb⟩
 go_wp2_with fail
 go_ret
 exact ⟨rfl, by (repeat (first | with_reducible exact Below.refl _ _ | with_reducible apply below_drew | with_reducible apply below_draws | with_reducible apply below_alloc | with_reducible apply below_set | (with_reducible refine below_trans ?_ (by assumption)) | (with_reducible refine Below.trans ?_ (by assumption)) | exact Nat.le_refl _ | omega | (simp <;> omega)))⟩
set_option maxHeartbeats 4000000 in
theorem k_named_union {k : Bs} {g : Int} {x : V} {N : Nat → Prop} {p : Nat} {w : World} (h64 : at_ k 0 = 64) (hv : VAt w N (.mk k [85] [g] [x]) p) (h0 : 0 ≤ g) (h1 : g ≤ 200) (ih : OutIH [x]) (hlen : (outV x).length ≤ 1500000) :
  Calls Tryz.prog 79 #[vp p] w fun e w' => e = .returned (.string (S (outV (.mk k [85] [g] [x])))) ∧ Below w.heap.size w w' := by
 rw [out_union h64]
 obtain ⟨ps, a, c, a', c', hp, -, c1, c2, c3, hT, hK, hM⟩ := hv.cells
 have hpl : ps.length = 1 := hM.1
 obtain ⟨q, rfl, hq, -⟩ := hT.at_ (by simp)
 obtain ⟨r, rfl, hr, -⟩ := hK.at_ (by omega)
 have x0 := hT.cell 0 (by simp)
 have y0 := hK.cell 0 (by omega)
 have hx := hM.2 0 (by simp) (by omega)
 simp only [List.length_cons, List.length_nil, Nat.zero_add, List.getElem_cons_zero, List.getD_cons_zero, List.map_cons, List.map_nil] at c2 c3 x0 hx ⊢
 obtain ⟨m, hm⟩ : ∃ m, ps[0] = m := ⟨_, rfl⟩
 rw [hm] at y0 hx
 have IH := Lib.hid (fun W (hbw : Below w.heap.size w W) => ih 0 (by simp) N m W (hx.belowed hbw))
 simp only [List.getElem_cons_zero] at IH
 have HD := Lib.hid (fun w => k_l6Dec 1000 g w (by omega) (by omega) (by omega))
 have hdl := dec_len g
 generalize dec g = D at *
 generalize outV x = o at *
 have l1 : ¬ (9223372036854775807 < 1 + D.length) := by omega
 have l2 : ¬ (9223372036854775807 < D.length + 1 + 1) := by omega
 have l3 : ¬ (9223372036854775807 < D.length + 1 + 1 + o.length) := by omega
 have l4 : ¬ (9223372036854775807 < D.length + (o.length + 1) + 1 + 1) := by omega
 clear hT hv hK hM hx hm ih hdl hpl h0 h1
 go_enter Tryz.func79, Tryz.ntmps79
 go_upto_region 3 with fail
 clear h64
 go_region_held3 (fun w' => w'.cell? ⟨p, 2, none⟩ = some (.slice (some ⟨q, 0, none⟩) 1 c) ∧ w'.cell? ⟨p, 3, none⟩ = some (.slice (some ⟨r, 0, none⟩) 1 c') ∧ w'.cell? ⟨q, 0, none⟩ = some (.int .i64 g) ∧ w'.cell? ⟨r, 0, none⟩ = some (vp m) ∧ Below w.heap.size w w')
  (first | (exact ⟨c2, c3, x0, y0, below_drew (Below.refl _ _)⟩) | (go_split_ands; exact NK.later hb4 (by unfold NK; repeat (first | with_reducible assumption | with_reducible refine And.intro ?_ ?_))) | (go_split_ands; repeat (first | with_reducible assumption | with_reducible refine And.intro ?_ ?_)))
  (first | (go_at_call 76; refine (HD.out _).mono ?_; rintro e w4 ⟨rfl, hb4⟩) | (go_at_call 54; go_split_ands; refine (IH.out _ (by with_reducible assumption)).mono ?_; rintro e w4 ⟨rfl, hb4⟩))
 all_goals
  go_split_ands
  go_wp2_with fail
  go_ret
  exact ⟨ret_s (by first | rfl | simp), by first | with_reducible assumption | (with_reducible refine below_trans ?_ (by assumption); with_reducible assumption)⟩
set_option maxHeartbeats 8000000 in
theorem k_named_record {k : Bs} {gs : List Int} {l : List V} {N : Nat → Prop} {p : Nat} {w : World} (h64 : at_ k 0 = 64) (hv : VAt w N (.mk k [82] gs l) p) (hgl : gs.length = l.length) (hg0 : ∀ g ∈ gs, 0 ≤ g ∧ g ≤ 200) (ih : OutIH l) (hlen : (outV (.mk k [82] gs l)).length ≤ 1500000) (hll : l.length ≤ 1500000) :
  Calls Tryz.prog 79 #[vp p] w fun e w' => e = .returned (.string (S (outV (.mk k [82] gs l)))) ∧ Below w.heap.size w w' := by
 rw [out_record h64 (by decide) (by decide)] at hlen ⊢
 have HV := Lib.hid hv
 obtain ⟨ps, a, c, a', c', hp, -, c1, c2, c3, -, -, -⟩ := hv.cells
 have IH := Lib.hid ih
 clear hv ih h64
 obtain ⟨n, hn⟩ : ∃ n, l.length = n := ⟨_, rfl⟩
 obtain ⟨L, hL⟩ : ∃ L, toldL gs (l.map outV) = L := ⟨_, rfl⟩
 have hML : L.length = n := by rw [← hL, toldL_len _ _ (by simp [hgl])]; simpa using hn
 have HG := Lib.hid (fun (i : Nat) (h : i < l.length) (h1 : i < gs.length) (h2 : i < L.length) => (by subst hL; rw [toldL_get gs (l.map outV) i h1 (by simpa using h)]; simp : L[i] = dec gs[i] ++ (61 :: outV l[i])))
 rw [hL] at hlen ⊢
 clear hL
 have HJ := Lib.hid (fun i h => joinC_one_le L i h)
 have hJl : (joinC L).length ≤ 1500000 := by simp at hlen; omega
 rw [hgl, hn] at c2
 rw [hn] at c3 hll
 have HML := Lib.hid hML; clear hML
 have HGL := Lib.hid hgl; clear hgl
 have HN := Lib.hid hn; clear hn
 have HG0 := Lib.hid hg0; clear hg0
 go_enter Tryz.func79, Tryz.ntmps79
 go_wp2_with fail
 go_loopw [3, 4] (fun s i wr => ∃ j : Nat, j ≤ n ∧ i = .int .i64 j ∧ s = .string (S (123 :: joinC (L.take j))) ∧ Below w.heap.size w wr) (fun _ i _ => n - (intOf i).toNat)
 case atStart => exact ⟨0, by omega, rfl, rfl, by (repeat (first | with_reducible exact Below.refl _ _ | with_reducible apply below_drew | with_reducible apply below_draws | with_reducible apply below_alloc | with_reducible apply below_set | (with_reducible refine below_trans ?_ (by assumption)) | (with_reducible refine Below.trans ?_ (by assumption)) | exact Nat.le_refl _ | omega | (simp <;> omega)))⟩
 case round =>
  obtain ⟨j, hj, rfl, rfl, hb⟩ := hrel
  clear c1 c2 c3 hp
  obtain ⟨ps, a, c, a', c', hp, -, c1, c2, c3, hT, hK, hM⟩ := (HV.out.belowed hb).cells
  have hgn : gs.length = n := by rw [HGL.out, HN.out]
  rw [hgn] at c2
  rw [HN.out] at c3
  have hplen : ps.length = n := by rw [hM.1, HN.out]
  by_cases hjn : j < n
  ·obtain ⟨g, rfl, hg, -⟩ := hK.at_ (by omega)
   obtain ⟨gt, rfl, hgt, -⟩ := hT.at_ (by omega)
   have x0 := hK.cell j (by omega)
   have y0 := hT.cell j (by omega)
   have hjl : j < l.length := by rw [HN.out]; exact hjn
   have hjg : j < gs.length := by omega
   have hjL : j < L.length := by rw [HML.out]; exact hjn
   have hx := hM.2 j hjl (by omega)
   obtain ⟨q, hq⟩ : ∃ q, ps[j] = q := ⟨_, rfl⟩
   rw [hq] at x0 hx
   have IHj := Lib.hid (fun W (hbw : Below wr.heap.size wr W) => IH.out j hjl N q W (hx.belowed hbw))
   have hgj := HG.out j hjl hjg hjL
   obtain ⟨o, ho⟩ : ∃ o, outV l[j] = o := ⟨_, rfl⟩
   obtain ⟨tg, htg⟩ : ∃ tg, gs[j] = tg := ⟨_, rfl⟩
   have htb := HG0.out gs[j] (List.getElem_mem hjg)
   rw [htg] at y0 htb hgj
   rw [ho] at IHj hgj
   have h1 := HJ.out j hjL
   have HD := Lib.hid (fun w => k_l6Dec 1000 tg w (by omega) (by omega) (by omega))
   obtain ⟨D, hD⟩ : ∃ D, dec tg = D := ⟨_, rfl⟩
   rw [hD] at HD hgj
   rw [hgj] at h1
   simp only [List.length_append, List.length_cons] at h1
   obtain ⟨A, hA⟩ : ∃ A, joinC (L.take j) = A := ⟨_, rfl⟩
   rw [hA] at h1 ⊢
   by_cases hj0 : j = 0
   ·subst hj0
    have HR := Lib.hid (show (123 : UInt8) :: joinC (L.take (0 + 1)) = (123 :: A) ++ (D ++ (61 :: o)) by
     rw [joinC_one L hjL, hgj, ← hA]; rfl)
    have hA6 : A.length ≤ 1500000 := by omega
    have hj0' : (0 : Int) ≤ (0 : Int) := by omega
    have hj1' : ((0 : Nat) : Int) < (n : Int) := by omega
    have l1 : ¬ (9223372036854775807 < A.length + 1 + D.length) := by omega
    have l2 : ¬ (9223372036854775807 < A.length + D.length + 1 + 1) := by omega
    have l3 : ¬ (9223372036854775807 < A.length + (D.length + 1) + 1 + o.length) := by omega
    clear ho hA htg hD hgj hx hM hK hT hq h1 htb hjl hjg hjL IH HG HG0 HV
    go_upto_region 12 with fail
    clear hJl hlen hgn hplen
    go_region_held3 (fun w' => w'.cell? ⟨p, 2, none⟩ = some (.slice (some ⟨gt, 0, none⟩) n c) ∧ w'.cell? ⟨p, 3, none⟩ = some (.slice (some ⟨g, 0, none⟩) n c') ∧ w'.cell? ⟨gt, 0, none⟩ = some (.int .i64 tg) ∧ w'.cell? ⟨g, 0, none⟩ = some (vp q) ∧ Below wr.heap.size wr w')
     (first | (exact ⟨c2, c3, y0, x0, below_drew (Below.refl _ _)⟩) | (go_split_ands; exact NK.later hb4 (by unfold NK; repeat (first | with_reducible assumption | with_reducible refine And.intro ?_ ?_))) | (go_split_ands; repeat (first | with_reducible assumption | with_reducible refine And.intro ?_ ?_)))
     (first | (go_at_call 76; refine (HD.out _).mono ?_; rintro e w4 ⟨rfl, hb4⟩) | (go_at_call 54; go_split_ands; refine (IHj.out _ (by with_reducible assumption)).mono ?_; rintro e w4 ⟨rfl, hb4⟩))
    all_goals
     go_split_ands
     go_wp2_with fail
     go_roundw
     case rel => exact ⟨0 + 1, by omega, by go_num, (by rw [HR.out] <;> first | rfl | simp), below_trans hb (by first | with_reducible assumption | (with_reducible refine below_trans ?_ (by assumption); with_reducible assumption))⟩
     case measure => simp [intOf]; omega
   ·have HR := Lib.hid (show (123 : UInt8) :: joinC (L.take (j + 1)) = (123 :: (A ++ [44])) ++ (D ++ (61 :: o)) by
     rw [joinC_more L j hjL hj0, hgj, ← hA]; simp)
    have hj1 : 0 < j := by omega
    have hA6 : A.length ≤ 1500000 := by omega
    have hj0' : (0 : Int) ≤ (j : Int) := by omega
    have hj1' : ((j : Nat) : Int) < (n : Int) := by omega
    have l0 : ¬ (9223372036854775807 < A.length + 1 + 1) := by omega
    have l1 : ¬ (9223372036854775807 < A.length + 1 + 1 + D.length) := by omega
    have l2 : ¬ (9223372036854775807 < A.length + (D.length + 1) + 1 + 1) := by omega
    have l3 : ¬ (9223372036854775807 < A.length + (D.length + 1 + 1) + 1 + o.length) := by omega
    clear ho hA htg hD hgj hx hM hK hT hq h1 htb hjl hjg hjL IH HG HG0 HV
    go_upto_region 12 with fail
    clear hJl hlen hgn hplen
    go_region_held3 (fun w' => w'.cell? ⟨p, 2, none⟩ = some (.slice (some ⟨gt, 0, none⟩) n c) ∧ w'.cell? ⟨p, 3, none⟩ = some (.slice (some ⟨g, 0, none⟩) n c') ∧ w'.cell? ⟨gt, j, none⟩ = some (.int .i64 tg) ∧ w'.cell? ⟨g, j, none⟩ = some (vp q) ∧ Below wr.heap.size wr w')
     (first | (exact ⟨c2, c3, y0, x0, below_drew (Below.refl _ _)⟩) | (go_split_ands; exact NK.later hb4 (by unfold NK; repeat (first | with_reducible assumption | with_reducible refine And.intro ?_ ?_))) | (go_split_ands; repeat (first | with_reducible assumption | with_reducible refine And.intro ?_ ?_)))
     (first | (go_at_call 76; refine (HD.out _).mono ?_; rintro e w4 ⟨rfl, hb4⟩) | (go_at_call 54; go_split_ands; refine (IHj.out _ (by with_reducible assumption)).mono ?_; rintro e w4 ⟨rfl, hb4⟩))
    all_goals
     go_split_ands
     go_wp2_with fail
     go_roundw
     case rel => exact ⟨j + 1, by omega, by go_num, (by rw [HR.out] <;> first | rfl | simp), below_trans hb (by first | with_reducible assumption | (with_reducible refine below_trans ?_ (by assumption); with_reducible assumption))⟩
     case measure => simp [intOf]; omega
  ·obtain rfl : n = j := by omega
   have HR := Lib.hid (joinC_all L n (by rw [HML.out]; exact Nat.le_refl _))
   obtain ⟨A, hA⟩ : ∃ A, joinC L = A := ⟨_, rfl⟩
   rw [HR.out, hA]
   rw [hA] at hJl
   have t1 := cat_run (123 :: A) [125] (by simp; omega)
   have HA := Lib.hid hA; clear hA HR
   go_wp2_with fail
   go_ret
   exact ⟨ret_s (by rw [HA.out] <;> first | rfl | simp), by (repeat (first | with_reducible exact Below.refl _ _ | with_reducible apply below_drew | with_reducible apply below_draws | with_reducible apply below_alloc | with_reducible apply below_set | (with_reducible refine below_trans ?_ (by assumption)) | (with_reducible refine Below.trans ?_ (by assumption)) | exact Nat.le_refl _ | omega | (simp <;> omega)))⟩
theorem k_out_named {v : V} {N : Nat → Prop} {p : Nat} {w : World} (h64 : at_ v.kind 0 = 64) (hk : 0 < v.kind.length) (hv : VAt w N v p)
  (hn : Calls Tryz.prog 79 #[vp p] w fun e w' => e = .returned (.string (S (outV v))) ∧ Below w.heap.size w w') :
  Calls Tryz.prog 54 #[vp p] w fun e w' => e = .returned (.string (S (outV v))) ∧ Below w.heap.size w w' := by
 obtain ⟨k, t, gs, l⟩ := v
 obtain ⟨ps, a, c, a', c', hp, c0, -, -, -, -, -, -⟩ := hv.cells
 have HN := Lib.hid hn
 generalize outV (.mk k t gs l) = o at *
 have h64' : at_ k 0 = 64 := h64
 have hk' : 0 < k.length := hk
 clear hv hn h64 hk
 go_enter Tryz.func54, Tryz.ntmps54
 go_wp2_with fail
 refine HN.out.mono ?_
 rintro e w1 ⟨rfl, hb⟩
 go_wp2_with fail
 go_ret
 exact ⟨rfl, hb⟩
theorem k_out {X : List Ty} (hg : ∀ t ∈ X, GoodT t) (v : V) : Tv X v → (outV v).length ≤ 1500000 → ∀ (N : Nat → Prop) (p : Nat) (w : World), VAt w N v p →
  Calls Tryz.prog 54 #[vp p] w fun e w' => e = .returned (.string (S (outV v))) ∧ Below w.heap.size w w' := by
 induction v using V.ind with
 | h k t gs l ih =>
  intro hT hlen N p w hv
  cases hT with
  | num h => exact k_out_plain (by decide) (by decide) (by decide) (by decide) hv
  | text h => exact k_out_plain (by decide) (by decide) (by decide) (by decide) hv
  | yes => exact k_out_plain (by decide) (by decide) (by decide) (by decide) hv
  | no => exact k_out_plain (by decide) (by decide) (by decide) (by decide) hv
  | list hk h hl hx hxk =>
   exact k_out_list h (kOk_len hk).2 hv (fun i hi N q w hq => ih _ (List.getElem_mem hi) (hx _ (List.getElem_mem hi)) (Nat.le_trans (list_len h i hi) hlen) N q w hq) hlen (by omega)
  | none hk h => exact k_out_none h (kOk_len hk).2 hv
  | @some _ x hk h hx hxk =>
   have hlx := Nat.le_trans (some_len h) hlen
   refine k_out_some h (kOk_len hk).2 hv ?_ hlx
   intro i hi N q w hq
   have : i = 0 := by simp at hi; exact hi
   subst this
   exact ih x (by simp) hx hlx N q w hq
  | @record _ ty _ _ hk h hr hs hl ha hf hx =>
   refine k_out_named h (kOk_len hk).2 hv (k_named_record h hv hl ?_ ?_ hlen ?_)
   ·intro g hgm
    obtain ⟨i, hi, rfl⟩ := List.getElem_of_mem hgm
    obtain ⟨f, hf1, -⟩ := hf i hi (by omega)
    have := fieldM_bd hg hr hf1
    omega
   ·exact fun i hi N q w hq => ih _ (List.getElem_mem hi) (hx _ (List.getElem_mem hi)) (Nat.le_trans (record_len h (by decide) (by decide) hl i hi) hlen) N q w hq
   ·exact Nat.le_trans (record_cnt h (by decide) (by decide) hl) hlen
  | @union _ ty g x f hk h hr hs hf hxk hx =>
   have hlx := Nat.le_trans (union_len h) hlen
   have hb := fieldM_bd hg hr hf
   refine k_out_named h (kOk_len hk).2 hv (k_named_union h hv (by omega) hb.2 ?_ hlx)
   intro i hi N q w hq
   have : i = 0 := by simp at hi; exact hi
   subst this
   exact ih x (by simp) hx hlx N q w hq
  | enum hk h hr hs hf =>
   have hb := fieldM_bd hg hr hf
   exact k_out_named h (kOk_len hk).2 hv (k_named_enum h hv (by omega) hb.2)
end Go.Proofs.YtcjooeklehggaaaGreatDoor
