/- Lemmas of this seat. -/
import Derived.Test.YtcjooeklehggaaaGreatDoorRows
import Derived.WalkKit
import Derived.ProofKit
import Derived.OpenShut
import Derived.ShutString
import Derived.ChangeOld
import Derived.Below
import Derived.Outline
import Derived.Lib.Hide
import Derived.WalkSpells
import Derived.IntWalk
import Derived.WalkLawsBesides
import Derived.Deep.RegionWith
import Derived.Deep.QuietTactic
import Derived.BigQuiet
import Derived.Deep.DeepFit
import Derived.Deep.RegionHeld3
import Derived.Deep.DeepCutAuto
import Derived.OneCell
import Derived.Handy
import Derived.Lib.IndexBytes
import Derived.WalkSmall
import Derived.Laws.BytesArg
import Derived.OwnWalk
import Derived.Deep.AppendLies
import Derived.Laws.OwnMore
import Derived.Deep.Onto
import Derived.Test.YtcjooeklehggaaaGreatDoorZAs
set_option linter.unusedVariables false
set_option linter.unusedSimpArgs false
set_option maxRecDepth 100000
namespace Go.Proofs.YtcjooeklehggaaaGreatDoor
open Go.ChangeShapes Go.WideShapes Go.ChangeAt Go.RowKit M
theorem ret_i {k : IntKind} {a b : Int} (h : a = b) : Ending.returned (.int k a) = .returned (.int k b) := by rw [h]
theorem ret_b {a b : Bool} (h : a = b) : Ending.returned (.bool a) = .returned (.bool b) := by rw [h]
theorem ret_ib {k : IntKind} {a b : Int} {c d : Bool} (h : a = b) (g : c = d) : Ending.returned (.tuple #[.int k a, .bool c]) = .returned (.tuple #[.int k b, .bool d]) := by rw [h, g]
theorem ret_s {a b : ByteArray} (h : a = b) : Ending.returned (.string a) = .returned (.string b) := by rw [h]
theorem ret_sb {a b : ByteArray} {c d : Bool} (h : a = b) (g : c = d) : Ending.returned (.tuple #[.string a, .bool c]) = .returned (.tuple #[.string b, .bool d]) := by rw [h, g]
theorem bcell {W w1 : World} (hb : Below W.heap.size W w1) : (∀ b o, b < W.heap.size → w1.cell? ⟨b, o, none⟩ = W.cell? ⟨b, o, none⟩) ∧ (∀ b o, b < W.heap.size → w1.frozen? ⟨b, o, none⟩ = W.frozen? ⟨b, o, none⟩) :=
 ⟨fun b o h => hb.cell (p := ⟨b, o, none⟩) h, fun b o h => hb.frozen (p := ⟨b, o, none⟩) h⟩
theorem below_alloc {w X : World} (h : Below w.heap.size w X) (o : Obj) : Below w.heap.size w (X.alloc o) := h.alloc h.size o
theorem below_drew {w X : World} (h : Below w.heap.size w X) : Below w.heap.size w X.drew := h.drew
theorem below_draws {w X : World} (h : Below w.heap.size w X) (n : Nat) : Below w.heap.size w (X.drewN n) := below_drewN h n
theorem below_trans {w X Y : World} (h : Below w.heap.size w X) (k : Below X.heap.size X Y) : Below w.heap.size w Y := h.trans (k.mono h.size)
theorem own : ownKnob Tryz.prog.godebug = none := by kernel_rfl
def S (l : List UInt8) : ByteArray := ⟨l.toArray⟩
theorem S_append (a b : List UInt8) : S a ++ S b = S (a ++ b) := by
 apply ByteArray.ext; simp [S, ByteArray.data_append]
theorem S_size (l : List UInt8) : (S l).size = l.length := by simp [S, ByteArray.size]
def cellIs : Option Value → Bool | some (.int .u8 _) => true | _ => false
def cellB : Option Value → UInt8 | some (.int .u8 x) => B8 x | _ => 0
theorem cellIs_some (x : Int) : cellIs (some (.int .u8 x)) = true := rfl
theorem cellB_some (x : Int) : cellB (some (.int .u8 x)) = B8 x := rfl
theorem cellIs_out {o : Option Value} (h : cellIs o = true) : ∃ x, o = some (.int .u8 x) := by
 unfold cellIs at h; split at h
 ·exact ⟨_, rfl⟩
 ·cases h
theorem conv1 (W : World) (b c : Nat) (h : cellIs (W.cell? ⟨b, 0, none⟩) = true) :
  Sem.run Tryz.prog (convert 22 9 (.slice (some ⟨b, 0, none⟩) 1 c)) W = .ok (.string (S [cellB (W.cell? ⟨b, 0, none⟩)])) W := by
 obtain ⟨x, hx⟩ := cellIs_out h
 rw [run_convert_bytes_arg (P := Tryz.prog) W 22 5 Tryz.underlying22 Tryz.underlying5 b 0 1 c [x] rfl (fun i hi => by
  obtain rfl : i = 0 := by omega
  simpa using hx) 9 Tryz.underlying9, hx]
 rfl
theorem byte_eq (s : ByteArray) (k : Nat) (h : k < s.size) : ((s[k]'h).toNat : Int) = at_ s.data.toList k := by
 have h' : k < s.data.toList.length := by simpa using h
 have : s.data.toList.getD k 0 = s[k] := by rw [List.getD_eq_getElem?_getD, List.getElem?_eq_getElem h']; rfl
 unfold at_; rw [this]
theorem cat_run (a b : List UInt8) (h : a.length + b.length ≤ 4611686018427387904) (w : World) : (Op.stringOp .add (S a) (S b)).run Tryz.prog w = .ok (.string (S (a ++ b))) w := by
 rw [run_string_add_sum, S_append]
 rw [S_size, S_size]; omega
def IsRow (k : IntKind) (w : World) (a : Option Addr) (len cap : Nat) (zs : List Int) : Prop :=
 (a = none ∧ len = 0 ∧ cap = 0 ∧ zs = []) ∨
 ∃ x, a = some x ∧ len ≤ cap ∧ cap ≤ maxLen ∧ zs.length = cap ∧ (∀ i, i < zs.length → w.cell? (x.add i) = some (.int k (zs.getD i 0))) ∧ ∀ n ∈ zs, (Lit.int k n).wf = true
theorem S_at (l : List UInt8) (k : Nat) (h : k < (S l).size) : (((S l)[k]'h).toNat : Int) = at_ l k := byte_eq (S l) k h
theorem S_ext (l : List UInt8) (a b : Nat) : (S l).extract a b = S ((l.drop a).take (b - a)) := by
 apply ByteArray.ext; apply Array.toList_inj.1
 rw [Lib.extract_data]; rfl
theorem S_from (l : List UInt8) (a : Nat) : (S l).extract a l.length = S (l.drop a) := by
 rw [S_ext, List.take_of_length_le (by simp)]
theorem S_to (l : List UInt8) (b : Nat) : (S l).extract 0 b = S (l.take b) := by
 rw [S_ext]; rfl
theorem S_from_drop (l : List UInt8) (k a : Nat) : (S (l.drop k)).extract a (l.length - k) = S (l.drop (k + a)) := by
 rw [← List.length_drop, S_from, List.drop_drop]
theorem S_bytes (l : List UInt8) : (S l).toList = l := by rw [ByteArray.toList_eq]; rfl
theorem S_lit (a l : List UInt8) : ByteArray.mk a.toArray ++ S l = S (a ++ l) := S_append a l
theorem lit_S (a l : List UInt8) : S l ++ ByteArray.mk a.toArray = S (l ++ a) := S_append l a
attribute [go_sem] S_size S_at S_ext S_bytes S_lit lit_S S_append
attribute [go_sem high] S_from S_to S_from_drop
theorem ret_sib {k : IntKind} {x y : Int} {a b : ByteArray} {c d : Bool} (h : a = b) (e : x = y) (g : c = d) : Ending.returned (.tuple #[.string a, .int k x, .bool c]) = .returned (.tuple #[.string b, .int k y, .bool d]) := by rw [e, h, g]
theorem below_set {w X : World} (h : Below w.heap.size w X) {p : Addr} (hp : w.heap.size ≤ p.block) (v : Value) : Below w.heap.size w (X.setCell p v) := h.setCell hp v
theorem at_cons (c : UInt8) (l : List UInt8) : at_ (c :: l) 0 = (c.toNat : Int) := rfl
theorem at_drop (l : List UInt8) (a k : Nat) : at_ (l.drop a) k = at_ l (a + k) := by unfold at_; simp [List.getD_eq_getElem?_getD]
abbrev sv (x : List UInt8) : Value := .string (S x)
def Strs (w : World) (B : Nat) (v : Value) (L : List (List UInt8)) : Prop := w.ownsRow B 9 1 v L.length (L.map sv)
def RetStrs (w : World) (L : List (List UInt8)) (ok : Bool) (e : Ending) (w' : World) : Prop := ∃ v, e = .returned (.tuple #[v, .bool ok]) ∧ Strs w' w.heap.size v L ∧ Below w.heap.size w w'
theorem Strs_none (w : World) : Strs (w.alloc (.cells #[] 9)) w.heap.size (.slice (some ⟨w.heap.size, 0, none⟩) 0 0) [] := World.ownsRow_lit w #[] 0 (Nat.le_refl _) (by unfold maxLen; omega) rfl
theorem Strs_one (w : World) (x : List UInt8) : Strs (w.alloc (.cells #[.string (S x)] 9)) w.heap.size (.slice (some ⟨w.heap.size, 0, none⟩) 1 1) [x] := World.ownsRow_lit w #[.string (S x)] 1 (Nat.le_refl _) (by unfold maxLen; omega) rfl
theorem info_string : (Tryz.prog.info? 9).map (fun i => (i.zero, i.size, i.bytes)) = some (some (.string ByteArray.empty), 1, 16) := by kernel_rfl
theorem grown_of_below {a w : World} (h : Below a.heap.size a w) (row : Option Nat) : a.grownBy w row := ⟨h.os, h.tape, h.output, h.size, fun i hi _ => h.block i hi⟩
theorem Strs.below {w w' : World} {B : Nat} {v : Value} {L : List (List UInt8)} (h : Strs w B v L) (hb : Below w.heap.size w w') : Strs w' B v L := by
 unfold Strs at *
 have hl := h.lt
 cases hv : v.ownBlock with
 | none => exact h.kept (grown_of_below hb none) (.inl hv)
 | some g => exact h.kept (row := none) (grown_of_below hb none) (.inr (by rw [hv]; simp))
theorem Strs.mono {w : World} {B B' : Nat} {v : Value} {L : List (List UInt8)} (h : Strs w B v L) (hb : B' ≤ B) : Strs w B' v L := World.ownsRow.mono h hb
theorem Strs.form {w : World} {B : Nat} {v : Value} {L : List (List UInt8)} (h : Strs w B v L) : ∃ ao cap, v = .slice ao L.length cap ∧ L.length ≤ cap ∧
  (ao = none ∧ L = [] ∨ ∃ g, ao = some ⟨g, 0, none⟩ ∧ B ≤ g ∧ g < w.heap.size) := by
 rcases h.2 with ⟨rfl, hn⟩ | ⟨g, cap, cur, rfl, hb, hg, hnc, hm, hs, ht⟩
 ·rw [hn]; exact ⟨none, 0, rfl, Nat.le_refl _, .inl ⟨rfl, List.eq_nil_of_length_eq_zero hn⟩⟩
 ·exact ⟨_, cap, rfl, hnc, .inr ⟨g, rfl, hb, (Array.getElem?_eq_some_iff.1 hg).1⟩⟩
theorem Strs.cell {w : World} {B g n cap : Nat} {L : List (List UInt8)} (h : Strs w B (.slice (some ⟨g, 0, none⟩) n cap) L) (k : Nat) (hk : k < L.length) : w.cell? ⟨g, k, none⟩ = some (.string (S (L.getD k []))) := by
 obtain ⟨ao, c, hv, -, -⟩ := h.form
 obtain ⟨rfl, rfl, rfl⟩ : n = L.length ∧ cap = c ∧ ao = _ := by injection hv with h1 h2 h3; exact ⟨h2, h3, h1.symm⟩
 rw [World.ownsRow.cellAt h k (by omega)]
 simp [sv, hk]
theorem app_gen {P : Program} {w : World} {ops : Array Oper} {rest : List Oper} {o : Oper} {a : Act} {Q : Exit → Act → World → Prop} (hgd : o.guard = none) (s x : Operand) (t : TypeId)
  (ho : o.op = .call { callee := .builtin .append, args := #[s, x], argTypes := #[t, t] })
  (B : Nat) (e : TypeId) (z : Value) (size bytes : Nat) (ht : P.underlying t = some (.slice e)) (hi : (P.info? e).map (fun i => (i.zero, i.size, i.bytes)) = some (some z, size, bytes))
  (hzs : z.cells.size = size) (hsz : 0 < size) (hby : bytes ≤ 10000)
  (v : Value) (n : Nat) (xs : List Value) (hs : a.eval s = v) (hown : w.ownsRow B e size v n xs)
  (ad : Addr) (m c : Nat) (news : List Value) (hx : a.eval x = .slice (some ad) m c) (hl : news.length = m * size) (hnews : ∀ j u, news[j]? = some u → w.cell? (ad.add j) = some u) (h1 : ∀ u ∈ news, u.oneCell' = true)
  (hn : n + m ≤ 4000000) (hB : B ≤ w.heap.size)
  (h : ∀ v' w', w'.ownsRow B e size v' (n + m) (xs ++ news) → Below B w w' → w.grownBy w' v.ownBlock → wpList P ops Q rest (a.put o.dst v') w') : wpList P ops Q (o :: rest) a w := by
 obtain ⟨i, hi0, hz0, hz1, hz2⟩ := info_parts hi
 refine wpList_append_own w hgd s x t ho B e i z size bytes ht hi0 hz0 hz1 hz2 hzs hsz v n xs hs hown ad m c news hx hl hnews h1 (by unfold maxLen; omega) ?_ hB (fun v' w' h2 h3 _ => h v' w' h2 (Below.grown (Below.refl _ _) h3 hB (fun k hk => (World.ownsRow.lt hown k hk).1)) h3)
 exact Nat.le_trans (Nat.mul_le_mul hn hby) (by omega)
def Blk (w : World) (g : Nat) (t : TypeId) (cs : Array Value) : Prop := w.heap[g]? = some (.cells cs t (0, 0))
section
variable {w w' : World} {g : Nat} {t : TypeId} {cs : Array Value}
theorem Blk.lt (h : Blk w g t cs) : g < w.heap.size := by
 rcases Nat.lt_or_ge g w.heap.size with hlt | hge
 ·exact hlt
 ·unfold Blk at h; rw [Array.getElem?_eq_none hge] at h; cases h
theorem Blk.cell (h : Blk w g t cs) (i : Nat) : w.cell? ⟨g, i, none⟩ = cs[i]? := cell_of_row w g i cs t (0, 0) h
theorem Blk.frozen (h : Blk w g t cs) (i : Nat) : w.frozen? ⟨g, i, none⟩ = false := by
 unfold Blk at h
 simp [World.frozen?, h]
theorem Blk.new (w : World) (t : TypeId) (cs : Array Value) : Blk (w.alloc (.cells cs t)) w.heap.size t cs := heap_alloc_new w _
theorem Blk.below {B : Nat} (h : Blk w g t cs) (hb : Below B w w') (hg : g < B) : Blk w' g t cs := (hb.block g hg).trans h
theorem Blk.keep (h : Blk w g t cs) (hb : Below w.heap.size w w') : Blk w' g t cs := h.below hb h.lt
theorem Blk.alloc (h : Blk w g t cs) (o : Obj) : Blk (w.alloc o) g t cs := (Below.heap_alloc w o g h.lt).trans h
theorem Blk.set_ (h : Blk w g t cs) (i : Nat) (u : Value) : Blk (w.setCell ⟨g, i, none⟩ u) g t (cs.setIfInBounds i u) := by
 unfold Blk at h ⊢
 simp [World.setCell, Array.getElem?_modify, h]
theorem Blk.far (h : Blk w g t cs) {p : Addr} (hp : g ≠ p.block) (u : Value) : Blk (w.setCell p u) g t cs := (Below.heap_setCell w p u g hp).trans h
end
theorem app_str {w : World} {ops : Array Oper} {rest : List Oper} {o : Oper} {a : Act} {Q : Exit → Act → World → Prop} (hgd : o.guard = none) (s x : Operand)
  (ho : o.op = .call { callee := .builtin .append, args := #[s, x], argTypes := #[42, 42] })
  (B : Nat) (v : Value) (L : List (List UInt8)) (hs : a.eval s = v) (hown : Strs w B v L) (ad : Addr) (y : List UInt8) (hx : a.eval x = .slice (some ad) 1 1) (hc : w.cell? ad = some (.string (S y)))
  (hn : L.length ≤ 3000000) (hB : B ≤ w.heap.size)
  (h : ∀ v' w', Strs w' B v' (L ++ [y]) → Below B w w' → w.grownBy w' v.ownBlock → wpList Tryz.prog ops Q rest (a.put o.dst v') w') : wpList Tryz.prog ops Q (o :: rest) a w := by
 refine app_gen hgd s x 42 ho B 9 (.string ByteArray.empty) 1 16 Tryz.underlying42 info_string rfl (by omega) (by omega) v L.length (L.map sv) hs hown ad 1 1 [sv y] hx rfl ?_ ?_ (by omega) hB (fun v' w' h1 h2 h3 => h v' w' ?_ h2 h3)
 ·intro j u hj
  match j, hj with
  | 0, hj => simp at hj; subst hj; simpa [Addr.add] using hc
 ·intro u hu; simp at hu; subst hu; rfl
 ·unfold Strs; rw [List.length_append, List.map_append]; exact h1
def cv (w : World) (b k : Nat) : Value := (w.cell? ⟨b, k, none⟩).getD undef
theorem cv_of {w : World} {b k : Nat} (h : (w.cell? ⟨b, k, none⟩).isSome = true) : w.cell? ⟨b, k, none⟩ = some (cv w b k) := by
 obtain ⟨u, hu⟩ := Option.isSome_iff_exists.1 h
 unfold cv; rw [hu]; rfl
theorem some_set {w : World} {a b : Addr} {v : Value} (h : (w.cell? b).isSome = true) : ((w.setCell a v).cell? b).isSome = true := by
 obtain ⟨u, hu⟩ := Option.isSome_iff_exists.1 h
 by_cases e : a = b
 ·subst e; rw [World.cell?_setCell_same _ _ _ hu]; rfl
 ·rw [World.cell?_setCell_other _ _ _ _ e, hu]; rfl
theorem some_of {w : World} {a : Addr} {u : Value} (h : w.cell? a = some u) : (w.cell? a).isSome = true := by rw [h]; rfl
theorem later_free {w wx : World} {b k : Nat} (hb : Below w.heap.size w wx) (hlt : b < w.heap.size) (h : w.frozen? ⟨b, k, none⟩ = false) : wx.frozen? ⟨b, k, none⟩ = false := (hb.frozen (p := ⟨b, k, none⟩) hlt).trans h
theorem size_later {w wx : World} {b : Nat} (hb : Below w.heap.size w wx) (hlt : b < w.heap.size) : b < wx.heap.size := Nat.lt_of_lt_of_le hlt hb.size
theorem far_set {w : World} {b k c j : Nat} {v u : Value} (hne : c ≠ b) (h : w.cell? ⟨b, k, none⟩ = some u) : (w.setCell ⟨c, j, none⟩ v).cell? ⟨b, k, none⟩ = some u := by
 rw [World.cell?_setCell_other _ _ _ _ (by intro e; injection e with e1 e2; exact hne e1)]; exact h
theorem below_out {B : Nat} {w0 w wx : World} (h : Below B w0 w) (hB : B ≤ w.heap.size) (hb : Below w.heap.size w wx) : Below B w0 wx := h.trans (hb.mono hB)
theorem cv_at {w : World} {b k : Nat} {u : Value} (h : w.cell? ⟨b, k, none⟩ = some u) : w.cell? ⟨b, k, none⟩ = some (cv w b k) := cv_of (some_of h)
theorem cv_set {w : World} {b k : Nat} {a : Addr} {v : Value} (h : w.cell? ⟨b, k, none⟩ = some (cv w b k)) : (w.setCell a v).cell? ⟨b, k, none⟩ = some (cv (w.setCell a v) b k) := cv_of (some_set (some_of h))
theorem cv_later {w wx : World} {b k : Nat} (hb : Below w.heap.size w wx) (h : w.cell? ⟨b, k, none⟩ = some (cv w b k)) : wx.cell? ⟨b, k, none⟩ = some (cv wx b k) := cv_at (cell_later hb h)
def SS (w : World) (F : Nat) (a b c d : Value) (w' : World) : Prop := w'.cell? ⟨F, 0, none⟩ = some a ∧ w'.cell? ⟨F, 1, none⟩ = some b ∧ w'.cell? ⟨F, 2, none⟩ = some c ∧ w'.cell? ⟨F, 3, none⟩ = some d ∧ w'.cell? ⟨w.heap.size, 0, none⟩ = some (cv w' w.heap.size 0) ∧ w'.cell? ⟨w.heap.size, 1, none⟩ = some (cv w' w.heap.size 1) ∧ w'.cell? ⟨w.heap.size, 2, none⟩ = some (cv w' w.heap.size 2) ∧ w'.cell? ⟨w.heap.size, 3, none⟩ = some (cv w' w.heap.size 3) ∧ w'.frozen? ⟨w.heap.size, 0, none⟩ = false ∧ w'.frozen? ⟨w.heap.size, 1, none⟩ = false ∧ w'.frozen? ⟨w.heap.size, 2, none⟩ = false ∧ w'.frozen? ⟨w.heap.size, 3, none⟩ = false ∧ w.heap.size < w'.heap.size ∧ F < w'.heap.size ∧ Below w.heap.size w w'
theorem SS.store {w w4 : World} {F : Nat} (hne' : ¬ w.heap.size = F) {a b c d x y z u : Value} (h : SS w F a b c d w4) : SS w F a b c d ((((w4.setCell ⟨w.heap.size, 0, none⟩ x).setCell ⟨w.heap.size, 1, none⟩ y).setCell ⟨w.heap.size, 2, none⟩ z).setCell ⟨w.heap.size, 3, none⟩ u) := by
 obtain ⟨h0, h1, h2, h3, h4, h5, h6, h7, h8, h9, h10, h11, h12, h13, h14⟩ := h
 have F4 : ∀ k v, w4.cell? ⟨F, k, none⟩ = some v → ((((w4.setCell ⟨w.heap.size, 0, none⟩ x).setCell ⟨w.heap.size, 1, none⟩ y).setCell ⟨w.heap.size, 2, none⟩ z).setCell ⟨w.heap.size, 3, none⟩ u).cell? ⟨F, k, none⟩ = some v := fun k v h => far_set hne' (far_set hne' (far_set hne' (far_set hne' h)))
 have R4 : ∀ k, w4.cell? ⟨w.heap.size, k, none⟩ = some (cv w4 w.heap.size k) → _ := fun k h => cv_set (a := ⟨w.heap.size, 3, none⟩) (v := u) (cv_set (a := ⟨w.heap.size, 2, none⟩) (v := z) (cv_set (a := ⟨w.heap.size, 1, none⟩) (v := y) (cv_set (a := ⟨w.heap.size, 0, none⟩) (v := x) h)))
 refine ⟨F4 0 a h0, F4 1 b h1, F4 2 c h2, F4 3 d h3, R4 0 h4, R4 1 h5, R4 2 h6, R4 3 h7, ?_, ?_, ?_, ?_, ?_, ?_, ?_⟩
 ·simpa using h8
 ·simpa using h9
 ·simpa using h10
 ·simpa using h11
 ·simpa using h12
 ·simpa using h13
 ·exact below_set (below_set (below_set (below_set h14 (Nat.le_refl _) _) (Nat.le_refl _) _) (Nat.le_refl _) _) (Nat.le_refl _) _
theorem SS.later {w w4 w5 : World} {F : Nat} {a b c d : Value} (hb : Below w4.heap.size w4 w5) (h : SS w F a b c d w4) : SS w F a b c d w5 := by
 obtain ⟨h0, h1, h2, h3, h4, h5, h6, h7, h8, h9, h10, h11, h12, h13, h14⟩ := h
 exact ⟨cell_later hb h0, cell_later hb h1, cell_later hb h2, cell_later hb h3, cv_later hb h4, cv_later hb h5, cv_later hb h6, cv_later hb h7, later_free hb h12 h8, later_free hb h12 h9, later_free hb h12 h10, later_free hb h12 h11, size_later hb h12, size_later hb h13, below_out h14 (Nat.le_of_lt h12) hb⟩
theorem cv_eq {w : World} {b k : Nat} {u : Value} (h : w.cell? ⟨b, k, none⟩ = some u) : cv w b k = u := by unfold cv; rw [h]; rfl
theorem near_set {w : World} {b k j : Nat} {v u : Value} (hne : j ≠ k) (h : w.cell? ⟨b, k, none⟩ = some u) : (w.setCell ⟨b, j, none⟩ v).cell? ⟨b, k, none⟩ = some u := by
 rw [World.cell?_setCell_other _ _ _ _ (by intro e; injection e with e1 e2; exact hne e2)]; exact h
theorem set4_at {w4 : World} {r : Nat} {x y z u : Value} (h0 : w4.cell? ⟨r, 0, none⟩ = some (cv w4 r 0)) (h1 : w4.cell? ⟨r, 1, none⟩ = some (cv w4 r 1)) (h2 : w4.cell? ⟨r, 2, none⟩ = some (cv w4 r 2)) (h3 : w4.cell? ⟨r, 3, none⟩ = some (cv w4 r 3)) :
  cv ((((w4.setCell ⟨r, 0, none⟩ x).setCell ⟨r, 1, none⟩ y).setCell ⟨r, 2, none⟩ z).setCell ⟨r, 3, none⟩ u) r 0 = x ∧ cv ((((w4.setCell ⟨r, 0, none⟩ x).setCell ⟨r, 1, none⟩ y).setCell ⟨r, 2, none⟩ z).setCell ⟨r, 3, none⟩ u) r 1 = y ∧
  cv ((((w4.setCell ⟨r, 0, none⟩ x).setCell ⟨r, 1, none⟩ y).setCell ⟨r, 2, none⟩ z).setCell ⟨r, 3, none⟩ u) r 2 = z ∧ cv ((((w4.setCell ⟨r, 0, none⟩ x).setCell ⟨r, 1, none⟩ y).setCell ⟨r, 2, none⟩ z).setCell ⟨r, 3, none⟩ u) r 3 = u := by
 refine ⟨cv_eq ?_, cv_eq ?_, cv_eq ?_, cv_eq ?_⟩
 ·exact near_set (by omega) (near_set (by omega) (near_set (by omega) (World.cell?_setCell_same _ _ _ h0)))
 ·exact near_set (by omega) (near_set (by omega) (World.cell?_setCell_same _ _ _ (near_set (by omega) h1)))
 ·exact near_set (by omega) (World.cell?_setCell_same _ _ _ (near_set (by omega) (near_set (by omega) h2)))
 ·exact World.cell?_setCell_same _ _ _ (near_set (by omega) (near_set (by omega) (near_set (by omega) h3)))
theorem flat_get {α : Type} {f : α → List Value} {n : Nat} (hf : ∀ a, (f a).length = n) (xs : List α) (k j : Nat) (hk : k < xs.length) (hj : j < n) : (xs.flatMap f)[k * n + j]? = (f xs[k])[j]? := by
 induction xs generalizing k with
 | nil => simp at hk
 | cons a r ih =>
  rw [List.flatMap_cons]
  cases k with
  | zero => rw [List.getElem?_append_left (by rw [hf]; omega)]; simp
  | succ k =>
   rw [List.getElem?_append_right (by rw [hf, Nat.succ_mul]; omega), hf, show (k + 1) * n + j - n = k * n + j from by rw [Nat.succ_mul]; omega]
   rw [ih k (by simpa using hk)]; simp
theorem Blk.drew {w : World} {g : Nat} {t : TypeId} {cs : Array Value} (h : Blk w g t cs) : Blk w.drew g t cs := h
def flCells (f : Fl) : List Value := [.int .i64 f.tag, sv f.name, sv f.kind, sv f.stand]
theorem flCells_len (f : Fl) : (flCells f).length = 4 := rfl
def Flds (w : World) (B : Nat) (v : Value) (fs : List Fl) : Prop := w.ownsRow B 65 4 v fs.length (fs.flatMap flCells)
theorem Flds.below {w w' : World} {B : Nat} {v : Value} {fs : List Fl} (h : Flds w B v fs) (hb : Below w.heap.size w w') : Flds w' B v fs := by
 unfold Flds at *
 cases hv : v.ownBlock with
 | none => exact h.kept (grown_of_below hb none) (.inl hv)
 | some g => exact h.kept (row := none) (grown_of_below hb none) (.inr (by rw [hv]; simp))
theorem Flds.mono {w : World} {B B' : Nat} {v : Value} {fs : List Fl} (h : Flds w B v fs) (hb : B' ≤ B) : Flds w B' v fs := World.ownsRow.mono h hb
theorem Flds.nil_ (w : World) (B : Nat) : Flds w B (.slice none 0 0) [] := World.ownsRow_nil w B _ 4
theorem Flds.form {w : World} {B : Nat} {v : Value} {fs : List Fl} (h : Flds w B v fs) : ∃ ao cap, v = .slice ao fs.length cap ∧ fs.length ≤ cap ∧
  (ao = none ∧ fs = [] ∨ ∃ g, ao = some ⟨g, 0, none⟩ ∧ B ≤ g ∧ g < w.heap.size) := by
 rcases h.2 with ⟨rfl, hn⟩ | ⟨g, cap, cur, rfl, hb, hg, hnc, hm, hs, ht⟩
 ·rw [hn]; exact ⟨none, 0, rfl, Nat.le_refl _, .inl ⟨rfl, List.eq_nil_of_length_eq_zero hn⟩⟩
 ·exact ⟨_, cap, rfl, hnc, .inr ⟨g, rfl, hb, (Array.getElem?_eq_some_iff.1 hg).1⟩⟩
theorem Flds.same {w : World} {B g n cap : Nat} {fs : List Fl} (h : Flds w B (.slice (some ⟨g, 0, none⟩) n cap) fs) : n = fs.length := by
 obtain ⟨ao, c, hv, -, -⟩ := h.form; injection hv
theorem Flds.cell {w : World} {B g n cap : Nat} {fs : List Fl} (h : Flds w B (.slice (some ⟨g, 0, none⟩) n cap) fs) (k j : Nat) (hk : k < fs.length) (hj : j < 4) : w.cell? ⟨g, k * 4 + j, none⟩ = (flCells fs[k])[j]? := by
 obtain rfl := h.same
 rw [World.ownsRow.cellAt h (k * 4 + j) (by omega), flat_get flCells_len fs k j hk hj]
def tyCells (p : Ty × Value) : List Value := [.int .u8 p.1.sort, sv p.1.name, p.2]
theorem tyCells_len (p : Ty × Value) : (tyCells p).length = 3 := rfl
def Tys (w : World) (B : Nat) (v : Value) (ps : List (Ty × Value)) : Prop := w.ownsRow B 61 3 v ps.length (ps.flatMap tyCells) ∧ ∀ p ∈ ps, Flds w B p.2 p.1.fields
theorem Tys.below {w w' : World} {B : Nat} {v : Value} {ps : List (Ty × Value)} (h : Tys w B v ps) (hb : Below w.heap.size w w') : Tys w' B v ps := by
 refine ⟨?_, fun p hp => (h.2 p hp).below hb⟩
 have h1 := h.1
 cases hv : v.ownBlock with
 | none => exact h1.kept (grown_of_below hb none) (.inl hv)
 | some g => exact h1.kept (row := none) (grown_of_below hb none) (.inr (by rw [hv]; simp))
theorem Tys.mono {w : World} {B B' : Nat} {v : Value} {ps : List (Ty × Value)} (h : Tys w B v ps) (hb : B' ≤ B) : Tys w B' v ps := ⟨World.ownsRow.mono h.1 hb, fun p hp => (h.2 p hp).mono hb⟩
theorem Tys.nil_ (w : World) (B : Nat) : Tys w B (.slice none 0 0) [] := ⟨World.ownsRow_nil w B _ 3, by simp⟩
theorem Tys.form {w : World} {B : Nat} {v : Value} {ps : List (Ty × Value)} (h : Tys w B v ps) : ∃ ao cap, v = .slice ao ps.length cap ∧ ps.length ≤ cap ∧
  (ao = none ∧ ps = [] ∨ ∃ g, ao = some ⟨g, 0, none⟩ ∧ B ≤ g ∧ g < w.heap.size) := by
 rcases h.1.2 with ⟨rfl, hn⟩ | ⟨g, cap, cur, rfl, hb, hg, hnc, hm, hs, ht⟩
 ·rw [hn]; exact ⟨none, 0, rfl, Nat.le_refl _, .inl ⟨rfl, List.eq_nil_of_length_eq_zero hn⟩⟩
 ·exact ⟨_, cap, rfl, hnc, .inr ⟨g, rfl, hb, (Array.getElem?_eq_some_iff.1 hg).1⟩⟩
theorem Tys.same {w : World} {B g n cap : Nat} {ps : List (Ty × Value)} (h : Tys w B (.slice (some ⟨g, 0, none⟩) n cap) ps) : n = ps.length := by
 obtain ⟨ao, c, hv, -, -⟩ := h.form; injection hv
theorem Tys.cell {w : World} {B g n cap : Nat} {ps : List (Ty × Value)} (h : Tys w B (.slice (some ⟨g, 0, none⟩) n cap) ps) (k j : Nat) (hk : k < ps.length) (hj : j < 3) : w.cell? ⟨g, k * 3 + j, none⟩ = (tyCells ps[k])[j]? := by
 obtain rfl := h.same
 rw [World.ownsRow.cellAt h.1 (k * 3 + j) (by omega), flat_get tyCells_len ps k j hk hj]
theorem Tys.cells3 {w : World} {B g n cap : Nat} {ps : List (Ty × Value)} (h : Tys w B (.slice (some ⟨g, 0, none⟩) n cap) ps) (k : Nat) (hk : k < ps.length) : ∃ (t : Ty) (a : Option Addr) (c : Nat), ps[k] = (t, .slice a t.fields.length c) ∧ Flds w B (.slice a t.fields.length c) t.fields ∧
  w.cell? ⟨g, k * 3, none⟩ = some (.int .u8 t.sort) ∧ w.cell? ⟨g, k * 3 + 1, none⟩ = some (.string (S t.name)) ∧ w.cell? ⟨g, k * 3 + 2, none⟩ = some (.slice a t.fields.length c) := by
 have hF := h.2 ps[k] (List.getElem_mem hk)
 obtain ⟨a, c, hv, -, -⟩ := hF.form
 refine ⟨ps[k].1, a, c, by rw [← hv], by rw [← hv]; exact hF, ?_, ?_, ?_⟩
 ·exact h.cell k 0 hk (by omega)
 ·exact h.cell k 1 hk (by omega)
 ·rw [h.cell k 2 hk (by omega), ← hv]; rfl
theorem Flds.cells4 {w : World} {B g n cap : Nat} {fs : List Fl} (h : Flds w B (.slice (some ⟨g, 0, none⟩) n cap) fs) (k : Nat) (hk : k < fs.length) :
  w.cell? ⟨g, k * 4, none⟩ = some (.int .i64 fs[k].tag) ∧ w.cell? ⟨g, k * 4 + 1, none⟩ = some (.string (S fs[k].name)) ∧ w.cell? ⟨g, k * 4 + 2, none⟩ = some (.string (S fs[k].kind)) ∧ w.cell? ⟨g, k * 4 + 3, none⟩ = some (.string (S fs[k].stand)) :=
 ⟨h.cell k 0 hk (by omega), h.cell k 1 hk (by omega), h.cell k 2 hk (by omega), h.cell k 3 hk (by omega)⟩
theorem grown_set {w X : World} {b i : Nat} {u : Value} (h : w.grownBy X (some b)) : w.grownBy (X.setCell ⟨b, i, none⟩ u) (some b) :=
 ⟨h.os, h.tape, h.output, by simpa [World.setCell] using h.size, fun j hj hne => (Below.heap_setCell X ⟨b, i, none⟩ u j (by rintro rfl; exact hne rfl)).trans (h.block j hj hne)⟩
theorem grown_self (w : World) (row : Option Nat) : w.grownBy w row := ⟨rfl, rfl, rfl, Nat.le_refl _, fun _ _ _ => rfl⟩
theorem own_grown {w w' : World} {base b size n : Nat} {e t : TypeId} {v : Value} {xs : List Value} {cs : Array Value} (h : w.ownsRow base e size v n xs) (hb : Blk w b t cs) (ht : t ≠ e) (hg : w.grownBy w' (some b)) : w'.ownsRow base e size v n xs := by
 refine h.kept hg ?_
 rcases h.2 with ⟨rfl, -⟩ | ⟨g, cap, cur, rfl, hbg, hgg, -⟩
 ·exact .inl rfl
 ·right
  intro e1
  injection e1 with e1
  have : g = b := e1
  subst this
  unfold Blk at hb
  rw [hgg] at hb
  injection hb with hb
  injection hb with _ hb
  exact ht hb.symm
theorem Flds.grown {w w' : World} {B b : Nat} {t : TypeId} {v : Value} {fs : List Fl} {cs : Array Value} (h : Flds w B v fs) (hb : Blk w b t cs) (ht : t ≠ 65) (hg : w.grownBy w' (some b)) : Flds w' B v fs := own_grown h hb ht hg
theorem Tys.far {w w' : World} {B b : Nat} {t : TypeId} {v : Value} {ps : List (Ty × Value)} {cs : Array Value} (h : Tys w B v ps) (hv : v.ownBlock ≠ some b) (hb : Blk w b t cs) (ht : t ≠ 65) (hg : w.grownBy w' (some b)) : Tys w' B v ps := ⟨h.1.kept hg (.inr hv), fun p hp => (h.2 p hp).grown hb ht hg⟩
theorem Tys.block {w : World} {B : Nat} {v : Value} {ps : List (Ty × Value)} (h : Tys w B v ps) : v.ownBlock ≠ some w.heap.size := by
 intro e
 have := h.1.lt _ e; omega
theorem Blk.grown {w w' : World} {g : Nat} {t : TypeId} {cs : Array Value} {row : Option Nat} (h : Blk w g t cs) (hb : w.grownBy w' row) (hg : some g ≠ row) : Blk w' g t cs := (hb.block g h.lt hg).trans h
theorem own_blk {w : World} {base b size n : Nat} {e t : TypeId} {v : Value} {xs : List Value} {cs : Array Value} (h : w.ownsRow base e size v n xs) (hb : Blk w b t cs) (ht : t ≠ e) : some b ≠ v.ownBlock := by
 rcases h.2 with ⟨rfl, -⟩ | ⟨g, cap, cur, rfl, hbg, hgg, -⟩
 ·intro e1; cases e1
 ·intro e1
  injection e1 with e1
  have e2 : b = g := e1
  subst e2
  unfold Blk at hb
  rw [hgg] at hb
  injection hb with hb
  injection hb with _ hb
  exact ht hb.symm
theorem own_own {w : World} {base base' size size' n n' : Nat} {e e' : TypeId} {v v' : Value} {xs xs' : List Value} (h : w.ownsRow base e size v n xs) (h' : w.ownsRow base' e' size' v' n' xs') (ht : e ≠ e') : v.ownBlock = none ∨ v.ownBlock ≠ v'.ownBlock := by
 rcases h.2 with ⟨rfl, -⟩ | ⟨g, cap, cur, rfl, hbg, hgg, -⟩
 ·exact .inl rfl
 ·right
  exact fun e1 => (own_blk h' (show Blk w g e cur from hgg) ht) e1
theorem info_field : (Tryz.prog.info? 65).map (fun i => (i.zero, i.size, i.bytes)) = some (some (.agg #[.int .i64 0, .string ByteArray.empty, .string ByteArray.empty, .string ByteArray.empty]), 4, 56) := by kernel_rfl
theorem info_type : (Tryz.prog.info? 61).map (fun i => (i.zero, i.size, i.bytes)) = some (some (.agg #[.int .u8 0, .string ByteArray.empty, .slice none 0 0]), 3, 48) := by kernel_rfl
def tv (t : Ty) (v : Value) : Value := .agg #[.int .u8 t.sort, .string (S t.name), v]
def RetT (w : World) (B : Nat) (o : Option Ty) (e : Ending) (w' : World) : Prop := ∃ (t : Ty) (v : Value), e = .returned (.tuple #[tv t v, .bool o.isSome]) ∧ (∀ x, o = some x → t = x) ∧ Flds w' B v t.fields ∧ Below w.heap.size w w'
abbrev iv (x : Int) : Value := .int .i64 x
def Ints (w : World) (B : Nat) (v : Value) (L : List Int) : Prop := w.ownsRow B 3 1 v L.length (L.map iv)
theorem info_int : (Tryz.prog.info? 3).map (fun i => (i.zero, i.size, i.bytes)) = some (some (.int .i64 0), 1, 8) := by kernel_rfl
end Go.Proofs.YtcjooeklehggaaaGreatDoor
