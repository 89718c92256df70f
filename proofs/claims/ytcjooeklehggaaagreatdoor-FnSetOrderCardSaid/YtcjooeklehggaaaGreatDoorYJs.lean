/- Lemmas of this seat. -/
import Derived.Shelf.Lays
import Derived.Shelf.Strings.SlTrimAscii
import Derived.Shelf.Strings.SplitCore
import Derived.Shelf.Strings.OnBuilder
import Derived.Shelf.Strings.Count
import Derived.Lib.IndexBytes
import Derived.Lib.SplitLaws
import Derived.Test.YtcjooeklehggaaaGreatDoorZBs
import Derived.Test.YtcjooeklehggaaaGreatDoorZGs
import Derived.Test.YtcjooeklehggaaaGreatDoorZHs
import Derived.Test.YtcjooeklehggaaaGreatDoorZOs
import Derived.Test.YtcjooeklehggaaaGreatDoorYAs
import Derived.Test.YtcjooeklehggaaaGreatDoorYBs
import Derived.Test.YtcjooeklehggaaaGreatDoorYIs
set_option linter.unusedVariables false
set_option linter.unusedSimpArgs false
set_option maxRecDepth 100000
namespace Go.Proofs.YtcjooeklehggaaaGreatDoor
open Go.ChangeShapes Go.WideShapes Go.ChangeAt Go.RowKit M
def RowN (w : World) (N : Nat → Prop) (e : TypeId) (sz : Nat) (v : Value) (n : Nat) (xs : List Value) : Prop := w.ownsRow 0 e sz v n xs ∧ ∀ g, v.ownBlock = some g → N g
section
variable {w w' : World} {N N' : Nat → Prop} {v : Value} {ro : Option Nat} {e : TypeId} {sz n : Nat} {xs : List Value}
theorem RowN.rowed (h : RowN w N e sz v n xs) (hg : w.grownBy w' ro) (hr : ∀ r, ro = some r → ¬ N r) : RowN w' N e sz v n xs := ⟨row_kept h.1 h.2 hg hr, h.2⟩
theorem RowN.imp (h : RowN w N e sz v n xs) (hi : ∀ b, b < w.heap.size → N b → N' b) : RowN w N' e sz v n xs := ⟨h.1, fun g hg => hi g (World.ownsRow.lt h.1 g hg).2 (h.2 g hg)⟩
theorem RowN.nil_ (w : World) (N : Nat → Prop) (e : TypeId) (sz : Nat) : RowN w N e sz (.slice none 0 0) 0 [] := ⟨World.ownsRow_nil w 0 _ _, by intro g h; cases h⟩
theorem RowN.form (h : RowN w N e sz v n xs) : ∃ ao cap, v = .slice ao n cap ∧ n ≤ cap ∧ xs.length = n * sz ∧ (ao = none ∧ n = 0 ∨ ∃ g, ao = some ⟨g, 0, none⟩ ∧ N g ∧ g < w.heap.size) := by
 rcases h.1.2 with ⟨rfl, hn⟩ | ⟨g, cap, cur, rfl, hb, hg, hnc, hm, hs, ht⟩
 ·rw [hn]; exact ⟨none, 0, rfl, Nat.le_refl _, by have := h.1.1; rw [hn] at this; exact this, .inl ⟨rfl, rfl⟩⟩
 ·exact ⟨_, cap, rfl, hnc, h.1.1, .inr ⟨g, rfl, h.2 g rfl, (Array.getElem?_eq_some_iff.1 hg).1⟩⟩
theorem RowN.cell {g c : Nat} (h : RowN w N e sz (.slice (some ⟨g, 0, none⟩) n c) n xs) (j : Nat) (hj : j < n * sz) : w.cell? ⟨g, j, none⟩ = xs[j]? := World.ownsRow.cellAt h.1 j hj
theorem RowN.nofreeze {g c : Nat} (h : RowN w N e sz (.slice (some ⟨g, 0, none⟩) n c) n xs) (j : Nat) : w.frozen? ⟨g, j, none⟩ = false := World.ownsRow.frozenAt h.1 j
theorem RowN.belowed (h : RowN w N e sz v n xs) (hb : Below w.heap.size w w') : RowN w' N e sz v n xs := h.rowed (grown_of_below hb none) (by intro r e; cases e)
theorem RowN.lt_ (h : RowN w N e sz v n xs) : ∀ g, v.ownBlock = some g → g < w.heap.size := fun g hg => (World.ownsRow.lt h.1 g hg).2
end
def flatFV : List Int → List Value → List Value
 | g :: gs, u :: us => .int .i64 g :: u :: flatFV gs us
 | _, _ => []
theorem flatFV_get (gs : List Int) (us : List Value) (i : Nat) (h1 : i < gs.length) (h2 : i < us.length) : (flatFV gs us)[i * 2]? = some (.int .i64 gs[i]) ∧ (flatFV gs us)[i * 2 + 1]? = some us[i] := by
 induction us generalizing gs i with
 | nil => simp at h2
 | cons u us ih => cases gs with
  | nil => simp at h1
  | cons g gs => cases i with
   | zero => exact ⟨rfl, rfl⟩
   | succ i =>
    have := ih gs i (by simpa using h1) (by simpa using h2)
    rw [show (i + 1) * 2 = i * 2 + 2 by omega]
    exact this
theorem flatFV_snoc (gs : List Int) (us : List Value) (g : Int) (u : Value) (h : gs.length = us.length) : flatFV (gs ++ [g]) (us ++ [u]) = flatFV gs us ++ [.int .i64 g, u] := by
 induction us generalizing gs with
 | nil => cases gs with | nil => rfl | cons _ _ => simp at h
 | cons y ys ih => cases gs with
  | nil => simp at h
  | cons a gs => simp only [flatFV, List.cons_append]; rw [ih gs (by simpa using h)]
inductive PAt (w : World) (N : Nat → Prop) : V → Value → Prop
 | num (n : Int) (h0 : 0 ≤ n) (h1 : n ≤ 999999) : PAt w N (.mk [110] (dec n) [] []) (.iface 122 (.int .i64 n))
 | txt (x : Bs) (h : x.length ≤ 12) : PAt w N (.mk [116] (39 :: (x ++ [39])) [] []) (.iface 123 (.string (S x)))
 | flg (b : Bool) : PAt w N (.mk [102] (flagT b) [] []) (.iface 124 (.bool b))
 | non (k : Bs) (h : at_ k 0 = 63) : PAt w N (.mk k [] [] []) (.iface 127 (.agg #[]))
 | som (k : Bs) (h : at_ k 0 = 63) {x : V} {u : Value} (hx : PAt w N x u) : PAt w N (.mk k [] [] [x]) (.iface 154 (.agg #[u]))
 | lst (k : Bs) (h : at_ k 0 = 91) {l : List V} {v : Value} (us : List Value) (hr : RowN w N 70 1 v l.length us) (hl : us.length = l.length) (hh : ∀ (i : Nat) (h1 : i < l.length) (h2 : i < us.length), PAt w N l[i] us[i]) :
   PAt w N (.mk k [] [] l) (.iface 155 v)
 | enm (k : Bs) (h : at_ k 0 = 64) (g : Int) (h0 : 0 ≤ g) (h1 : g ≤ 200) : PAt w N (.mk k [69] [g] []) (.iface 125 (.int .i64 g))
 | uni (k : Bs) (h : at_ k 0 = 64) (g : Int) (h0 : 0 ≤ g) (h1 : g ≤ 200) {x : V} {u : Value} (hx : PAt w N x u) : PAt w N (.mk k [85] [g] [x]) (.iface 157 (.agg #[.int .i64 g, u]))
 | rcd (k : Bs) (h : at_ k 0 = 64) {gs : List Int} {l : List V} {v : Value} (us : List Value) (hg : gs.length = l.length) (hgb : ∀ g ∈ gs, 0 ≤ g ∧ g ≤ 200) (hr : RowN w N 137 2 v l.length (flatFV gs us)) (hl : us.length = l.length)
   (hh : ∀ (i : Nat) (h1 : i < l.length) (h2 : i < us.length), PAt w N l[i] us[i]) : PAt w N (.mk k [82] gs l) (.iface 85 v)
def PMany (w : World) (N : Nat → Prop) (l : List V) (us : List Value) : Prop := us.length = l.length ∧ ∀ (i : Nat) (_ : i < l.length) (_ : i < us.length), PAt w N l[i] us[i]
section
variable {w w' : World} {N N' : Nat → Prop} {ro : Option Nat}
theorem PAt.rowed {x : V} {u : Value} (h : PAt w N x u) (hg : w.grownBy w' ro) (hr : ∀ r, ro = some r → ¬ N r) : PAt w' N x u := by
 induction h with
 | num n h0 h1 => exact .num n h0 h1
 | txt x h => exact .txt x h
 | flg b => exact .flg b
 | non k h => exact .non k h
 | som k h _ ih => exact .som k h ih
 | lst k h us hrow hl _ ih => exact .lst k h us (hrow.rowed hg hr) hl ih
 | enm k h g h0 h1 => exact .enm k h g h0 h1
 | uni k h g h0 h1 _ ih => exact .uni k h g h0 h1 ih
 | rcd k h us hgl hgb hrow hl _ ih => exact .rcd k h us hgl hgb (hrow.rowed hg hr) hl ih
theorem PAt.imp {x : V} {u : Value} (h : PAt w N x u) (hi : ∀ b, b < w.heap.size → N b → N' b) : PAt w N' x u := by
 induction h with
 | num n h0 h1 => exact .num n h0 h1
 | txt x h => exact .txt x h
 | flg b => exact .flg b
 | non k h => exact .non k h
 | som k h _ ih => exact .som k h ih
 | lst k h us hrow hl _ ih => exact .lst k h us (hrow.imp hi) hl ih
 | enm k h g h0 h1 => exact .enm k h g h0 h1
 | uni k h g h0 h1 _ ih => exact .uni k h g h0 h1 ih
 | rcd k h us hgl hgb hrow hl _ ih => exact .rcd k h us hgl hgb (hrow.imp hi) hl ih
theorem PAt.belowed {x : V} {u : Value} (h : PAt w N x u) (hb : Below w.heap.size w w') : PAt w' N x u := h.rowed (grown_of_below hb none) (by intro r e; cases e)
theorem PMany.rowed {l : List V} {us : List Value} (h : PMany w N l us) (hg : w.grownBy w' ro) (hr : ∀ r, ro = some r → ¬ N r) : PMany w' N l us := ⟨h.1, fun i h1 h2 => (h.2 i h1 h2).rowed hg hr⟩
theorem PMany.imp {l : List V} {us : List Value} (h : PMany w N l us) (hi : ∀ b, b < w.heap.size → N b → N' b) : PMany w N' l us := ⟨h.1, fun i h1 h2 => (h.2 i h1 h2).imp hi⟩
theorem PMany.belowed {l : List V} {us : List Value} (h : PMany w N l us) (hb : Below w.heap.size w w') : PMany w' N l us := ⟨h.1, fun i h1 h2 => (h.2 i h1 h2).belowed hb⟩
theorem PMany.nil_ (w : World) (N : Nat → Prop) : PMany w N [] [] := ⟨rfl, by intro i h; simp at h⟩
theorem PMany.snoc {l : List V} {us : List Value} (h : PMany w N l us) {x : V} {u : Value} (hx : PAt w N x u) : PMany w N (l ++ [x]) (us ++ [u]) := by
 refine ⟨by simp [h.1], ?_⟩
 intro i h1 h2
 rcases Nat.lt_or_ge i l.length with hlt | hge
 ·rw [List.getElem_append_left hlt, List.getElem_append_left (by rw [h.1]; exact hlt)]; exact h.2 i hlt _
 ·have : i = l.length := by simp at h1; omega
  subst this
  simpa [h.1] using hx
end
structure RP (w : World) (B q : Nat) (ct et : TypeId) (sz : Nat) (cs : List Value) (l : List V) (us : List Value) (a : Option Addr) (c : Nat) : Prop where
 lt : q < B
 blk : Blk w q ct #[.slice a l.length c]
 row : RowN w (fun b => B ≤ b) et sz (.slice a l.length c) l.length cs
 mny : PMany w (fun b => B ≤ b ∧ (Value.slice a l.length c).ownBlock ≠ some b) l us
section
variable {w w' : World} {B q : Nat} {ct et : TypeId} {sz : Nat} {cs : List Value} {l : List V} {us : List Value} {a : Option Addr} {c : Nat}
theorem RP.belowed (h : RP w B q ct et sz cs l us a c) (hb : Below w.heap.size w w') : RP w' B q ct et sz cs l us a c := ⟨h.lt, h.blk.keep hb, h.row.belowed hb, h.mny.belowed hb⟩
theorem RP.start (w : World) (et : TypeId) (sz : Nat) (hq : q < B) (hb : Blk w q ct #[.slice none 0 0]) : RP w B q ct et sz [] [] [] none 0 := ⟨hq, hb, RowN.nil_ _ _ _ _, PMany.nil_ _ _⟩
theorem RP.list {B' : Nat} {k : Bs} (h : RP w B q ct 70 1 us l us a c) (hk : at_ k 0 = 91) (hB : B' ≤ B) : PAt w (fun b => B' ≤ b) (.mk k [] [] l) (.iface 155 (.slice a l.length c)) :=
 .lst k hk us (h.row.imp (by intro b _ hb; omega)) h.mny.1 (h.mny.imp (by intro b _ hb; omega)).2
theorem RP.record {B' : Nat} {k : Bs} {gs : List Int} (h : RP w B q ct 137 2 (flatFV gs us) l us a c) (hk : at_ k 0 = 64) (hg : gs.length = l.length) (hgb : ∀ g ∈ gs, 0 ≤ g ∧ g ≤ 200) (hB : B' ≤ B) : PAt w (fun b => B' ≤ b) (.mk k [82] gs l) (.iface 85 (.slice a l.length c)) :=
 .rcd k hk us hg hgb (h.row.imp (by intro b _ hb; omega)) h.mny.1 (h.mny.imp (by intro b _ hb; omega)).2
theorem set_self1 (w : World) (q i : Nat) (u : Value) : w.grownBy (w.setCell ⟨q, i, none⟩ u) (some q) := grown_set (grown_self _ _)
def Fr1 (B : Nat) (v : Value) (b : Nat) : Prop := B ≤ b ∧ v.ownBlock ≠ some b
theorem RP.more (h : RP w B q ct et sz cs l us a c) {x : V} {u : Value} {g cap H : Nat} {news : List Value} (hx : PAt w (Fr1 B (.slice a l.length c)) x u) (hH : w.heap.size = H)
  (hk : w'.ownsRow 0 et sz (.slice (some ⟨g, 0, none⟩) (l.length + 1) cap) (l.length + 1) (cs ++ news)) (hg : w.grownBy w' (Value.slice a l.length c).ownBlock) (hgg : (Value.slice a l.length c).ownBlock = some g ∨ g = H) (hB : B ≤ H) :
  RP (w'.setCell ⟨q, 0, none⟩ (.slice (some ⟨g, 0, none⟩) (l.length + 1) cap)) B q ct et sz (cs ++ news) (l ++ [x]) (us ++ [u]) (some ⟨g, 0, none⟩) cap := by
 subst hH
 have hlt := h.lt
 have hq : ∀ r, some q = some r → ¬ B ≤ r := by intro r e; injection e with e; omega
 have hqb : some q ≠ (Value.slice a l.length c).ownBlock := by
  intro e
  have := h.row.2 q e.symm
  omega
 have e1 : (l ++ [x]).length = l.length + 1 := by simp
 refine ⟨hlt, ?_, ?_, ?_⟩
 ·rw [e1]; exact (h.blk.grown hg hqb).set_ 0 _
 ·rw [e1]
  refine RowN.rowed (w := w') ⟨hk, ?_⟩ (set_self1 _ _ _ _) hq
  intro b hb
  injection hb with hb
  have e2 : g = b := hb
  subst e2
  rcases hgg with hgg | hgg
  ·exact h.row.2 g hgg
  ·omega
 ·rw [e1]
  have m1 : PMany w (fun b => Fr1 B (.slice a l.length c) b ∧ b < w.heap.size) (l ++ [x]) (us ++ [u]) := (h.mny.imp (by intro b h1 h2; exact ⟨h2, h1⟩)).snoc (hx.imp (by intro b h1 h2; exact ⟨h2, h1⟩))
  have m2 := m1.rowed hg (by intro r e h2; exact h2.1.2 e)
  refine (m2.imp ?_).rowed (set_self1 _ _ _ _) (by intro r e h2; exact hq r e h2.1)
  intro b _ hb
  refine ⟨hb.1.1, ?_⟩
  intro e
  injection e with e
  have e2 : g = b := e
  subst e2
  rcases hgg with hgg | hgg
  ·exact hb.1.2 hgg
  ·omega
theorem RP.after (h : RP w B q ct et sz cs l us a c) (hg : w.grownBy w' (Value.slice a l.length c).ownBlock) : w'.cell? ⟨q, 0, none⟩ = some (.slice a l.length c) ∧ w'.frozen? ⟨q, 0, none⟩ = false ∧ q < w'.heap.size := by
 have hlt := h.lt
 have hb := h.blk.grown hg (fun e => by have := h.row.2 q e.symm; omega)
 exact ⟨hb.cell 0, hb.frozen 0, hb.lt⟩
theorem RP.beside {b : Nat} {e : TypeId} {cs' : Array Value} (h : RP w B q ct et sz cs l us a c) (hg : w.grownBy w' (Value.slice a l.length c).ownBlock) (hb : Blk w b e cs') (hlt : b < B) : Blk w' b e cs' :=
 hb.grown hg (fun e => by have := h.row.2 b e.symm; omega)
theorem RP.below {B' : Nat} (h : RP w B q ct et sz cs l us a c) (hg : w.grownBy w' (Value.slice a l.length c).ownBlock) (h1 : B' ≤ w.heap.size) (h2 : B' ≤ B) : Below B' w w' :=
 Below.grown (Below.refl _ _) hg h1 (fun r hr => by have := h.row.2 r hr; omega)
theorem Fr1.of_lt {x : V} {u : Value} {L : Nat} {v : Value} (hx : PAt w (fun b => L ≤ b) x u) (hBL : B ≤ L) (ha : ∀ g, v.ownBlock = some g → g < L) : PAt w (Fr1 B v) x u :=
 hx.imp (by intro b _ h; exact ⟨by omega, fun e => by have := ha b e; omega⟩)
end
def isV : Value → Bool
 | .iface _ _ => true
 | .nilIface => true
 | _ => false
theorem isV_cases {u : Value} (h : isV u = true) : u = .nilIface ∨ ∃ T v, u = .iface T v := by
 cases u with
 | iface T v => exact .inr ⟨T, v, rfl⟩
 | nilIface => exact .inl rfl
 | _ => cases h
theorem PAt.isv {w : World} {N : Nat → Prop} {x : V} {u : Value} (h : PAt w N x u) : isV u = true := by cases h <;> rfl
def RetP (w : World) (o : Option (V × Bs)) (e : Ending) (w' : World) : Prop := ∃ (u : Value) (r : Bs), e = .returned (.tuple #[u, .string (S r), .bool o.isSome]) ∧ isV u = true ∧ r.length ≤ 2000000 ∧ Below w.heap.size w w' ∧ ∀ x, o = some x → r = x.2 ∧ PAt w' (fun b => w.heap.size ≤ b) x.1 u
theorem RetP.no {w w' : World} {o : Option (V × Bs)} {u : Value} {r : Bs} (h : o = none) (hu : isV u = true) (hr : r.length ≤ 2000000) (hb : Below w.heap.size w w') : RetP w o (.returned (.tuple #[u, .string (S r), .bool false])) w' := ⟨u, r, by rw [h]; rfl, hu, hr, hb, by rw [h]; intro x hx; cases hx⟩
theorem RetP.yes {w w' : World} {o : Option (V × Bs)} {v : V} {u : Value} {r : Bs} (h : o = some (v, r)) (hr : r.length ≤ 2000000) (hb : Below w.heap.size w w') (hv : PAt w' (fun b => w.heap.size ≤ b) v u) : RetP w o (.returned (.tuple #[u, .string (S r), .bool true])) w' :=
 ⟨u, r, by rw [h]; rfl, hv.isv, hr, hb, by rw [h]; intro x hx; injection hx with hx; subst hx; exact ⟨rfl, hv⟩⟩
theorem info_value : (Tryz.prog.info? 70).map (fun i => (i.zero, i.size, i.bytes)) = some (some .nilIface, 1, 16) := by kernel_rfl
theorem info_fv : (Tryz.prog.info? 137).map (fun i => (i.zero, i.size, i.bytes)) = some (some (.agg #[.int .i64 0, .nilIface]), 2, 24) := by kernel_rfl
open Go.Shelf
def trimRen : Go.Shelf.Ren := ⟨fun | 119 => 205 | 137 => 204 | 151 => 196 | 152 => 203 | 161 => 150 | 197 => 188 | 217 => 164 | 224 => 166 | 225 => 165 | 227 => 177 | 228 => 195 | 231 => 176 | 233 => 178 | 235 => 179 | 260 => 199 | 266 => 185 | n => n, fun | 0 => 0 | 3 => 3 | 4 => 4 | 5 => 5 | 9 => 9 | 21 => 21 | 46 => 162 | 105 => 233 | 116 => 222 | 117 => 223 | 119 => 242 | 124 => 226 | 138 => 244 | 139 => 245 | n => n, fun | 3 => 2 | 4 => 3 | n => n⟩
theorem trimLays : Go.Proofs.Lays.n161 Tryz.prog trimRen := {
 mixed := by kernel_rfl
 f119 := Tryz.func205.trans (congrArg some (by kernel_rfl))
 f137 := Tryz.func204.trans (congrArg some (by kernel_rfl))
 f151 := Tryz.func196.trans (congrArg some (by kernel_rfl))
 f152 := Tryz.func203.trans (congrArg some (by kernel_rfl))
 f161 := Tryz.func150.trans (congrArg some (by kernel_rfl))
 f197 := Tryz.func188.trans (congrArg some (by kernel_rfl))
 f217 := Tryz.func164.trans (congrArg some (by kernel_rfl))
 f224 := Tryz.func166.trans (congrArg some (by kernel_rfl))
 f225 := Tryz.func165.trans (congrArg some (by kernel_rfl))
 f227 := Tryz.func177.trans (congrArg some (by kernel_rfl))
 f228 := Tryz.func195.trans (congrArg some (by kernel_rfl))
 f231 := Tryz.func176.trans (congrArg some (by kernel_rfl))
 f233 := Tryz.func178.trans (congrArg some (by kernel_rfl))
 f235 := Tryz.func179.trans (congrArg some (by kernel_rfl))
 f260 := Tryz.func199.trans (congrArg some (by kernel_rfl))
 f266 := Tryz.func185.trans (congrArg some (by kernel_rfl))
 t0 := Tryz.underlying0
 a0 := Tryz.isAgg0
 z0 := Tryz.sizeOf0
 v0 := Tryz.zeroValue0
 t3 := Tryz.underlying3
 a3 := Tryz.isAgg3
 z3 := Tryz.sizeOf3
 v3 := Tryz.zeroValue3
 t4 := Tryz.underlying4
 a4 := Tryz.isAgg4
 z4 := Tryz.sizeOf4
 v4 := Tryz.zeroValue4
 t5 := Tryz.underlying5
 a5 := Tryz.isAgg5
 z5 := Tryz.sizeOf5
 v5 := Tryz.zeroValue5
 t9 := Tryz.underlying9
 a9 := Tryz.isAgg9
 z9 := Tryz.sizeOf9
 v9 := Tryz.zeroValue9
 t21 := Tryz.underlying21
 a21 := Tryz.isAgg21
 z21 := Tryz.sizeOf21
 v21 := Tryz.zeroValue21
 t46 := Tryz.underlying162
 a46 := Tryz.isAgg162
 z46 := Tryz.sizeOf162
 v46 := Tryz.zeroValue162
 t105 := Tryz.underlying233
 a105 := Tryz.isAgg233
 z105 := Tryz.sizeOf233
 v105 := Tryz.zeroValue233
 t116 := Tryz.underlying222
 a116 := Tryz.isAgg222
 z116 := Tryz.sizeOf222
 t117 := Tryz.underlying223
 a117 := Tryz.isAgg223
 z117 := Tryz.sizeOf223
 v117 := Tryz.zeroValue223
 t119 := Tryz.underlying242
 a119 := Tryz.isAgg242
 z119 := Tryz.sizeOf242
 t124 := Tryz.underlying226
 a124 := Tryz.isAgg226
 z124 := Tryz.sizeOf226
 v124 := Tryz.zeroValue226
 t138 := Tryz.underlying244
 a138 := Tryz.isAgg244
 z138 := Tryz.sizeOf244
 v138 := Tryz.zeroValue244
 t139 := Tryz.underlying245
 a139 := Tryz.isAgg245
 z139 := Tryz.sizeOf245
 v139 := Tryz.zeroValue245
 g3 := by kernel_rfl
 g4 := by kernel_rfl }
def splitRen : Go.Shelf.Ren := ⟨fun | 138 => 181 | 143 => 182 | 195 => 197 | 197 => 188 | 217 => 164 | 218 => 198 | 219 => 142 | 221 => 152 | 224 => 166 | 225 => 165 | 260 => 199 | 266 => 185 | 267 => 167 | 268 => 180 | 314 => 186 | n => n, fun | 0 => 0 | 3 => 3 | 4 => 4 | 5 => 5 | 9 => 9 | 21 => 21 | 31 => 42 | 46 => 162 | 51 => 188 | 105 => 233 | 119 => 242 | 138 => 244 | 139 => 245 | 146 => 231 | n => n, fun | 1 => 0 | 3 => 2 | 4 => 3 | n => n⟩
theorem splitLays : Go.Proofs.Lays.n221 Tryz.prog splitRen := {
 mixed := by kernel_rfl
 f138 := Tryz.func181.trans (congrArg some (by kernel_rfl))
 f143 := Tryz.func182.trans (congrArg some (by kernel_rfl))
 f195 := Tryz.func197.trans (congrArg some (by kernel_rfl))
 f197 := Tryz.func188.trans (congrArg some (by kernel_rfl))
 f217 := Tryz.func164.trans (congrArg some (by kernel_rfl))
 f218 := Tryz.func198.trans (congrArg some (by kernel_rfl))
 f219 := Tryz.func142.trans (congrArg some (by kernel_rfl))
 f221 := Tryz.func152.trans (congrArg some (by kernel_rfl))
 f224 := Tryz.func166.trans (congrArg some (by kernel_rfl))
 f225 := Tryz.func165.trans (congrArg some (by kernel_rfl))
 f260 := Tryz.func199.trans (congrArg some (by kernel_rfl))
 f266 := Tryz.func185.trans (congrArg some (by kernel_rfl))
 f267 := Tryz.func167.trans (congrArg some (by kernel_rfl))
 f268 := Tryz.func180.trans (congrArg some (by kernel_rfl))
 f314 := Tryz.func186.trans (congrArg some (by kernel_rfl))
 t0 := Tryz.underlying0
 a0 := Tryz.isAgg0
 z0 := Tryz.sizeOf0
 v0 := Tryz.zeroValue0
 t3 := Tryz.underlying3
 a3 := Tryz.isAgg3
 z3 := Tryz.sizeOf3
 v3 := Tryz.zeroValue3
 t4 := Tryz.underlying4
 a4 := Tryz.isAgg4
 z4 := Tryz.sizeOf4
 v4 := Tryz.zeroValue4
 t5 := Tryz.underlying5
 a5 := Tryz.isAgg5
 z5 := Tryz.sizeOf5
 v5 := Tryz.zeroValue5
 t9 := Tryz.underlying9
 a9 := Tryz.isAgg9
 z9 := Tryz.sizeOf9
 v9 := Tryz.zeroValue9
 t21 := Tryz.underlying21
 a21 := Tryz.isAgg21
 z21 := Tryz.sizeOf21
 v21 := Tryz.zeroValue21
 t31 := Tryz.underlying42
 a31 := Tryz.isAgg42
 z31 := Tryz.sizeOf42
 v31 := Tryz.zeroValue42
 t46 := Tryz.underlying162
 a46 := Tryz.isAgg162
 z46 := Tryz.sizeOf162
 v46 := Tryz.zeroValue162
 t51 := Tryz.underlying188
 a51 := Tryz.isAgg188
 z51 := Tryz.sizeOf188
 v51 := Tryz.zeroValue188
 t105 := Tryz.underlying233
 a105 := Tryz.isAgg233
 z105 := Tryz.sizeOf233
 v105 := Tryz.zeroValue233
 t119 := Tryz.underlying242
 a119 := Tryz.isAgg242
 z119 := Tryz.sizeOf242
 t138 := Tryz.underlying244
 a138 := Tryz.isAgg244
 z138 := Tryz.sizeOf244
 v138 := Tryz.zeroValue244
 t139 := Tryz.underlying245
 a139 := Tryz.isAgg245
 z139 := Tryz.sizeOf245
 v139 := Tryz.zeroValue245
 t146 := Tryz.underlying231
 a146 := Tryz.isAgg231
 z146 := Tryz.sizeOf231
 v146 := Tryz.zeroValue231
 g1 := by kernel_rfl
 g3 := by kernel_rfl
 g4 := by kernel_rfl }
def joinRen : Go.Shelf.Ren := ⟨fun | 156 => 226 | 165 => 227 | 166 => 228 | 169 => 229 | 240 => 230 | 241 => 231 | 276 => 232 | 277 => 233 | n => n, fun | 0 => 0 | 3 => 3 | 4 => 4 | 5 => 5 | 9 => 9 | 20 => 20 | 31 => 42 | 37 => 22 | 70 => 263 | 72 => 265 | 75 => 268 | 76 => 269 | 80 => 56 | 127 => 257 | 164 => 271 | n => n, fun | n => n⟩
theorem joinLaysLaysn156 : Go.Proofs.Lays.n156 Tryz.prog joinRen := {
 mixed := by kernel_rfl
 f156 := Tryz.func226.trans (congrArg some (by kernel_rfl))
 f165 := Tryz.func227.trans (congrArg some (by kernel_rfl))
 f166 := Tryz.func228.trans (congrArg some (by kernel_rfl))
 f169 := Tryz.func229.trans (congrArg some (by kernel_rfl))
 f240 := Tryz.func230.trans (congrArg some (by kernel_rfl))
 f241 := Tryz.func231.trans (congrArg some (by kernel_rfl))
 f276 := Tryz.func232.trans (congrArg some (by kernel_rfl))
 f277 := Tryz.func233.trans (congrArg some (by kernel_rfl))
 t0 := Tryz.underlying0
 a0 := Tryz.isAgg0
 z0 := Tryz.sizeOf0
 v0 := Tryz.zeroValue0
 t3 := Tryz.underlying3
 a3 := Tryz.isAgg3
 z3 := Tryz.sizeOf3
 v3 := Tryz.zeroValue3
 t4 := Tryz.underlying4
 a4 := Tryz.isAgg4
 z4 := Tryz.sizeOf4
 v4 := Tryz.zeroValue4
 t9 := Tryz.underlying9
 a9 := Tryz.isAgg9
 z9 := Tryz.sizeOf9
 v9 := Tryz.zeroValue9
 t20 := Tryz.underlying20
 a20 := Tryz.isAgg20
 z20 := Tryz.sizeOf20
 v20 := Tryz.zeroValue20
 t31 := Tryz.underlying42
 a31 := Tryz.isAgg42
 z31 := Tryz.sizeOf42
 v31 := Tryz.zeroValue42
 t37 := Tryz.underlying22
 a37 := Tryz.isAgg22
 z37 := Tryz.sizeOf22
 v37 := Tryz.zeroValue22
 t70 := Tryz.underlying263
 a70 := Tryz.isAgg263
 z70 := Tryz.sizeOf263
 v70 := Tryz.zeroValue263
 t72 := Tryz.underlying265
 a72 := Tryz.isAgg265
 z72 := Tryz.sizeOf265
 v72 := Tryz.zeroValue265
 t75 := Tryz.underlying268
 a75 := Tryz.isAgg268
 z75 := Tryz.sizeOf268
 v75 := Tryz.zeroValue268
 t76 := Tryz.underlying269
 a76 := Tryz.isAgg269
 z76 := Tryz.sizeOf269
 v76 := Tryz.zeroValue269
 t127 := Tryz.underlying257
 a127 := Tryz.isAgg257
 z127 := Tryz.sizeOf257
 v127 := Tryz.zeroValue257
 t164 := Tryz.underlying271
 a164 := Tryz.isAgg271
 z164 := Tryz.sizeOf271
 v164 := Tryz.zeroValue271 }
theorem joinLaysBuilderExtra : Go.Proofs.Builder.Extra Tryz.prog joinRen := {
 sizeBuilder := by kernel_rfl
 liesBuilder := by kernel_rfl
 t5 := Tryz.underlying5
 a5 := Tryz.isAgg5
 z5 := Tryz.sizeOf5
 v5 := Tryz.zeroValue5
 infoByte := by kernel_rfl
 cellsByte := by kernel_rfl
 sizeByte := by kernel_rfl
 neB5 := by decide }
theorem i_TrimLeft (s : Bs) (w : World) : Calls Tryz.prog 150 #[.string (S s), .string { data := #[48, 49, 50, 51, 52, 53, 54, 55, 56, 57] }] w fun e w' => e = .returned (.string (S (s.drop (digsN s)))) ∧ Below w.heap.size w w' := by
 refine (show Calls Tryz.prog 150 #[.string (S s), .string (S digs)] w _ from Any.strings_TrimLeft_laid trimLays (by kernel_rfl) (S s) (S digs) w (by decide) ?_).mono ?_
 ·intro j b h
  have : b ∈ digs := List.mem_of_getElem? h
  revert b
  intro b _ hb
  simp [digs] at hb
  rcases hb with rfl | rfl | rfl | rfl | rfl | rfl | rfl | rfl | rfl | rfl <;> decide
 ·rintro e w' ⟨rfl, hb⟩
  refine ⟨?_, hb⟩
  rw [← digs_drop s]; rfl
theorem join_joinC (L : List Bs) : Lib.join L [44] = joinC L := by
 induction L with
 | nil => rfl
 | cons x r ih =>
  cases r with
  | nil => rw [Lib.join_one]; rfl
  | cons y r =>
   rw [Lib.join_cons, joinC, ← ih, Lib.join_cons]
   simp [Lib.joinTail]
theorem joinC_len (L : List Bs) (x : Bs) (h : x ∈ L) : x.length ≤ (joinC L).length := by
 induction L with
 | nil => cases h
 | cons a r ih =>
  cases r with
  | nil => simp at h; subst h; exact Nat.le_refl _
  | cons b r =>
   rw [joinC]
   rcases List.mem_cons.1 h with rfl | h
   ·simp
   ·have := ih h; simp; omega
theorem joinC_num (L : List Bs) : L.length ≤ (joinC L).length + 1 := by
 induction L with
 | nil => simp
 | cons a r ih =>
  cases r with
  | nil => simp
  | cons b r => rw [joinC]; simp at ih ⊢; omega
theorem i_Join (B : Nat) (v : Value) (L : List Bs) (w : World) (h : Strs w B v L) (hl : (joinC L).length ≤ 3000000) :
  Calls Tryz.prog 226 #[v, .string (S [44])] w fun e w' => e = .returned (.string (S (joinC L))) ∧ Below w.heap.size w w' := by
 obtain ⟨ao, cap, rfl, hc, hh⟩ := h.form
 have hn := joinC_num L
 rcases hh with ⟨rfl, rfl⟩ | ⟨g, rfl, hB, hg⟩
 ·refine (Any.strings_Join_none joinLaysLaysn156 joinLaysBuilderExtra none cap (S [44]) w).mono ?_
  rintro e w' ⟨rfl, rfl⟩
  exact ⟨rfl, Below.refl _ _⟩
 ·have e1 : ((L.map S).map (·.data.toList)) = L := by rw [List.map_map]; exact List.map_id'' (fun _ => rfl) L
  have := Any.strings_Join joinLaysLaysn156 joinLaysBuilderExtra g 0 cap (L.map S) (S [44]) w (by
   intro j x hj
   rw [List.getElem?_map, Option.map_eq_some_iff] at hj
   obtain ⟨y, hy, rfl⟩ := hj
   obtain ⟨hlt, -⟩ := List.getElem?_eq_some_iff.1 hy
   rw [Nat.zero_add, h.cell j hlt, List.getD_eq_getElem?_getD, hy]; rfl) hg (by simp; omega) (by simpa using hc) (by rw [e1, show (S [44]).data.toList = [44] from rfl, join_joinC]; omega)
  rw [e1, show (S [44]).data.toList = [44] from rfl, join_joinC, List.length_map] at this
  exact this
def RetCut (w : World) (s : Bs) (o : Option Int) (e : Ending) (w' : World) : Prop := e = .returned (.tuple #[.int .i64 (o.getD 0), .string (S (s.drop (digsN s))), .bool o.isSome]) ∧ Below w.heap.size w w'
theorem i_cutDecimal (s : Bs) (top : Int) (w : World) (hs : s.length ≤ 1000000) (t0 : 0 ≤ top) (t1 : top ≤ 999999) :
  Calls Tryz.prog 123 #[.string (S s), .int .i64 top] w (RetCut w s (cutDecP s top)) := by
 obtain ⟨d, hd⟩ : ∃ d, digsN s = d := ⟨_, rfl⟩
 have hdl : d ≤ s.length := by rw [← hd]; exact digsN_le s
 have HT := Lib.hid (fun w => i_TrimLeft s w)
 have HD := Lib.hid (fun w => i_readDecimal (s.take d) top w (by simp; omega) t0 t1)
 rw [hd] at HT
 rw [decP_numL _ _ t1] at HD
 have HF := Lib.hid (show cutDecP s top = numL (s.take d) top by unfold cutDecP; rw [hd])
 obtain ⟨o, ho⟩ : ∃ o, numL (s.take d) top = o := ⟨_, rfl⟩
 rw [ho] at HD HF
 unfold RetCut
 rw [HF.out, hd]
 obtain ⟨b, hb⟩ : ∃ b, s.drop d = b := ⟨_, rfl⟩
 have hbl : (b.length : Int) = (s.length : Int) - d := by rw [← hb, List.length_drop]; omega
 rw [hb] at HT ⊢
 have e1 : IntKind.i64.wrap ((s.length : Int) - (b.length : Int)) = (d : Int) := by rw [hbl, show (s.length : Int) - ((s.length : Int) - d) = d by omega]; exact IntWalk.i64_in _ (by omega)
 clear ho hb HF hbl
 go_enter Tryz.func123, Tryz.ntmps123
 go_wp2_with fail
 refine (HT.out _).mono ?_
 rintro e w1 ⟨rfl, hb1⟩
 go_wp2_with fail
 refine (HD.out _).mono ?_
 rintro e w2 ⟨rfl, rfl⟩
 go_wp2_with fail
 go_ret3
 exact ⟨rfl, hb1⟩
theorem i_readNumber (s : Bs) (w : World) (hs : s.length ≤ 1000000) :
  Calls Tryz.prog 99 #[.string (S s)] w (RetP w ((cutDecP s 999999).map fun n => (.mk [110] (dec n) [] [], s.drop (digsN s)))) := by
 have HC := Lib.hid (fun w => i_cutDecimal s 999999 w hs (by omega) (by omega))
 have hbd : ∀ n, cutDecP s 999999 = some n → 0 ≤ n ∧ n ≤ 999999 := fun n h => (numL_dec h).2
 have hrl : (s.drop (digsN s)).length ≤ 2000000 := by rw [List.length_drop]; omega
 unfold RetCut at HC
 obtain ⟨r, hr⟩ : ∃ r, s.drop (digsN s) = r := ⟨_, rfl⟩
 rw [hr] at HC hrl ⊢
 generalize cutDecP s 999999 = o at *
 clear hr
 have HB := Lib.hid hbd; clear hbd
 go_enter Tryz.func99, Tryz.ntmps99
 go_wp2_with fail
 refine (HC.out _).mono ?_
 rintro e w1 ⟨rfl, hb1⟩
 go_wp2_with fail
 go_ret3
 cases o with
 | none => exact RetP.no rfl rfl hrl hb1
 | some n => exact RetP.yes rfl hrl hb1 (.num n (HB.out n rfl).1 (HB.out n rfl).2)
def splitS (s : Bs) : List Bs := if cutHas 39 s = true then cutA 39 s :: (if cutHas 39 (cutB 39 s) = true then [cutA 39 (cutB 39 s), cutB 39 (cutB 39 s)] else [cutB 39 s]) else [s]
theorem index39 (s : Bs) : Lib.index s [39] = if cutHas 39 s = true then ((cutA 39 s).length : Int) else -1 := by rw [Lib.index_one, indexByte_cut]; rfl
theorem splitK_in (s : Bs) (k : Nat) : Lib.splitK [39] 0 (k + 1) s = if cutHas 39 s = true then cutA 39 s :: Lib.splitK [39] 0 k (cutB 39 s) else [s] := by
 cases h : cutHas 39 s with
 | true =>
  have hi : Lib.index s [39] = ((cutA 39 s).length : Int) := by rw [index39, h]; rfl
  rw [Lib.splitK, hi, if_neg (by intro e; have := beq_iff_eq.1 e; omega), if_pos rfl]
  rw [show ((cutA 39 s).length : Int).toNat = (cutA 39 s).length from rfl, Nat.add_zero, ← cutA_take, show ([39] : Bs).length = 1 from rfl, ← cutB_drop 39 s h]
 | false =>
  have hi : Lib.index s [39] = -1 := by rw [index39, h]; rfl
  rw [Lib.splitK, hi, if_pos (by decide), if_neg (by decide)]
theorem splitK_S (s : Bs) : Lib.splitK [39] 0 (min 3 (s.length + 1) - 1) s = splitS s := by
 match s with
 | [] => rfl
 | [x] =>
  rw [show min 3 ([x].length + 1) - 1 = 0 + 1 from rfl, splitK_in]
  unfold splitS
  by_cases h : cutHas 39 [x] = true
  ·rw [if_pos h, if_pos h]
   have : cutB 39 [x] = [] := by
    have := cutB_lt 39 [x] h
    exact List.eq_nil_of_length_eq_zero (by simpa using this)
   rw [this]; rfl
  ·rw [if_neg h, if_neg h]
 | x :: y :: r =>
  rw [show min 3 ((x :: y :: r).length + 1) - 1 = 1 + 1 by simp, splitK_in, show (1 : Nat) = 0 + 1 from rfl, splitK_in]
  rfl
theorem textP_split (s : Bs) : (textP s = none ∧ (splitS s).length < 3) ∨ ∃ a m r, splitS s = [a, m, r] ∧ a.length ≤ s.length ∧ m.length ≤ s.length ∧ r.length ≤ s.length ∧ textP s = if a = [] ∧ txtB m = true then some (m, r) else none := by
 unfold splitS textP
 cases h1 : cutHas 39 s with
 | false =>
  left
  refine ⟨if_neg ?_, by simp⟩
  rintro ⟨h, -⟩
  have := (at_byte (c := 39) (by decide) h)
  rw [this, cutHas, if_pos (by rfl)] at h1
  cases h1
 | true =>
  rw [if_pos rfl]
  cases h2 : cutHas 39 (cutB 39 s) with
  | false =>
   left
   refine ⟨if_neg ?_, by simp⟩
   rintro ⟨h, h', -⟩
   have e := (at_byte (c := 39) (by decide) h)
   rw [e, cutB, if_pos (by rfl)] at h2
   rw [h2] at h'; cases h'
  | true =>
   right
   rw [if_pos rfl]
   have hb := cutB_len 39 s
   refine ⟨_, _, _, rfl, cutA_len 39 s, Nat.le_trans (cutA_len _ _) hb, Nat.le_trans (cutB_len _ _) hb, ?_⟩
   by_cases h : at_ s 0 = 39
   ·have e := (at_byte (c := 39) (by decide) h)
    have ea : cutA 39 s = [] := by rw [e, cutA, if_pos (by rfl)]
    have eb : cutB 39 s = s.drop 1 := by conv => lhs; rw [e, cutB, if_pos (by rfl)]
    rw [eb] at h2 ⊢
    rw [ea, h2]
    simp [h]
   ·rw [if_neg (fun x => h x.1), if_neg]
    rintro ⟨x, -⟩
    cases s with
    | nil => cases h1
    | cons y t =>
     rw [cutA] at x
     split at x
     ·rename_i hy; exact h (by rw [at_cons0]; exact hy)
     ·cases x
theorem i_genSplit (s : Bs) (w : World) (hs : s.length ≤ 1000000) :
  Calls Tryz.prog 152 #[.string (S s), .string (S [39]), .int .i64 0, .int .i64 3] w fun e w' => ∃ v, e = .returned v ∧ Strs w' w.heap.size v (splitS s) ∧ Below w.heap.size w w' := by
 have c := Any.strings_genSplit_core splitLays (by kernel_rfl) (S s) (S [39]) 0 3 (min 3 (s.length + 1)) w (by rw [S_size]; omega) (by decide) (by omega)
  (fun x cs hx => ((i_Index x.data.toList 39 _ (by rw [S_size] at hx; have : x.size = x.data.toList.length := Lib.size_eq x; omega)).mono (by
   rintro e w' ⟨rfl, rfl⟩
   refine ⟨?_, rfl⟩
   show _ = Ending.returned (Value.int .i64 (Lib.index x.data.toList [39]))
   rw [Lib.index_one]) : Calls Tryz.prog 182 #[.string x, .string (S [39])] _ _))
  ((Any.strings_Count_one { splitLays with } (S s) 39 w).mono (by
   rintro e w' ⟨rfl, rfl⟩
   refine ⟨?_, rfl⟩
   show _ = Ending.returned (Value.int .i64 ((Lib.count s [39] : Nat) : Int))
   rw [Lib.count_one]
   rfl)) (by omega) (by omega) (by rw [if_neg (by omega), S_size]; omega)
 refine c.mono ?_
 rintro e w' ⟨rfl, rfl⟩
 refine ⟨_, rfl, ?_, below_alloc (Below.refl _ _) _⟩
 have hd : (Lib.splitB (S [39]) 0 (min 3 (s.length + 1) - 1) (S s)).map (·.data.toList) = splitS s := by rw [Lib.splitB_data]; exact splitK_S s
 obtain ⟨L, hL⟩ : ∃ L, Lib.splitB (S [39]) 0 (min 3 (s.length + 1) - 1) (S s) = L := ⟨_, rfl⟩
 have hle : L.length ≤ min 3 (s.length + 1) - 1 + 1 := by rw [← hL]; exact Lib.splitB_length_le _ _ _ _
 rw [hL] at hd ⊢
 have hle2 : L.length ≤ min 3 (s.length + 1) := by omega
 rw [← hd]
 refine ⟨by simp, .inr ⟨w.heap.size, min 3 (s.length + 1), _, by simp, Nat.le_refl _, heap_alloc_new w _, by simpa using hle2, by unfold maxLen; omega, ?_, ?_⟩⟩
 ·rw [Lib.cellsOf_size hle2]; simp
 ·unfold Lib.cellsOf
  simp only [List.toList_toArray, List.length_map, Nat.mul_one]
  rw [List.take_left' (by simp), List.map_map]
  rfl
theorem i_SplitN (s : Bs) (w : World) (hs : s.length ≤ 1000000) :
  Calls Tryz.prog 124 #[.string (S s), .string (S [39]), .int .i64 3] w fun e w' => ∃ v, e = .returned v ∧ Strs w' w.heap.size v (splitS s) ∧ Below w.heap.size w w' := by
 have HC := Lib.hid (fun w => i_genSplit s w hs)
 go_enter Tryz.func124, Tryz.ntmps124
 go_wp2_with (go_at_call 152; refine (HC.out _).mono ?_; rintro e w' ⟨v, rfl, hv, hb⟩)
 go_ret
 exact ⟨_, rfl, hv, hb⟩
inductive IsT : TypeId → FuncId → Prop
 | num : IsT 122 235
 | txt : IsT 123 236
 | flg : IsT 124 237
 | enm : IsT 125 238
 | non : IsT 127 239
 | som : IsT 154 241
 | lst : IsT 155 243
 | uni : IsT 157 244
 | rcd : IsT 85 224
theorem IsT.method {T : TypeId} {g : FuncId} (h : IsT T g) (v : Value) (w : World) : (method 375 T v "loop.example/wireforms/impl.text").run Tryz.prog w = .ok (g, v) w := by cases h <;> kernel_rfl
theorem IsT.enters {T : TypeId} {g : FuncId} (h : IsT T g) (args : Array Value) (w : World) : (callFunc g args).run Tryz.prog w = .ok (.enter g args) w := by cases h <;> kernel_rfl
theorem PAt.isT {w : World} {N : Nat → Prop} {x : V} {u : Value} (h : PAt w N x u) : ∃ T v g, u = .iface T v ∧ IsT T g := by
 cases h with
 | num => exact ⟨_, _, _, rfl, .num⟩
 | txt => exact ⟨_, _, _, rfl, .txt⟩
 | flg => exact ⟨_, _, _, rfl, .flg⟩
 | non => exact ⟨_, _, _, rfl, .non⟩
 | som => exact ⟨_, _, _, rfl, .som⟩
 | lst => exact ⟨_, _, _, rfl, .lst⟩
 | enm => exact ⟨_, _, _, rfl, .enm⟩
 | uni => exact ⟨_, _, _, rfl, .uni⟩
 | rcd => exact ⟨_, _, _, rfl, .rcd⟩
abbrev TextOf (w : World) (X : Bs) (e : Ending) (w' : World) : Prop := e = .returned (.string (S X)) ∧ Below w.heap.size w w'
def Texts (x : V) : Prop := ∀ (T : TypeId) (v : Value) (g : FuncId) (N : Nat → Prop) (w : World), IsT T g → PAt w N x (.iface T v) → Tab w → (outV x).length ≤ 1000000 → Calls Tryz.prog g #[v] w (TextOf w (outV x))
theorem t_num (n : Int) (h0 : 0 ≤ n) (h1 : n ≤ 999999) (w : World) (hT : Tab w) : Calls Tryz.prog 235 #[.int .i64 n] w (TextOf w (dec n)) := by
 have HC := Lib.hid (i_Itoa n h0 (by omega) w hT)
 go_enter Tryz.func235, Tryz.ntmps235
 go_wp2_with fail
 refine HC.out.mono ?_
 rintro e w1 ⟨rfl, hb⟩
 go_wp2_with fail
 go_ret
 exact ⟨rfl, hb⟩
theorem t_txt (x : Bs) (hx : x.length ≤ 12) (w : World) : Calls Tryz.prog 236 #[.string (S x)] w (TextOf w (39 :: (x ++ [39]))) := by
 have t1 := cat_run [39] x (by simp; omega)
 have t2 := cat_run (39 :: x) [39] (by simp; omega)
 go_enter Tryz.func236, Tryz.ntmps236
 go_wp2_with fail
 go_ret
 exact ⟨rfl, Below.refl _ _⟩
theorem t_flg (b : Bool) (w : World) : Calls Tryz.prog 237 #[.bool b] w (TextOf w (flagT b)) := by
 cases b
 all_goals
  go_enter Tryz.func237, Tryz.ntmps237
  go_wp2_with fail
  go_ret
  exact ⟨rfl, Below.refl _ _⟩
theorem t_enm (g : Int) (h0 : 0 ≤ g) (h1 : g ≤ 200) (w : World) (hT : Tab w) : Calls Tryz.prog 238 #[.int .i64 g] w (TextOf w (35 :: dec g)) := by
 have HC := Lib.hid (i_Itoa g h0 (by omega) w hT)
 have hl := dec_len g
 obtain ⟨d, hd⟩ : ∃ d, dec g = d := ⟨_, rfl⟩
 rw [hd] at HC hl ⊢
 have t1 := cat_run [35] d (by simp; omega)
 clear hd
 go_enter Tryz.func238, Tryz.ntmps238
 go_wp2_with fail
 refine HC.out.mono ?_
 rintro e w1 ⟨rfl, hb⟩
 go_wp2_with fail
 go_ret
 exact ⟨rfl, hb⟩
theorem t_non (w : World) : Calls Tryz.prog 239 #[.agg #[]] w (TextOf w [45]) := by
 go_enter Tryz.func239, Tryz.ntmps239
 go_wp2_with fail
 go_ret
 exact ⟨rfl, by (repeat (first | with_reducible exact Below.refl _ _ | with_reducible apply below_drew | with_reducible apply below_draws | with_reducible apply below_alloc | with_reducible apply below_set | (with_reducible refine below_trans ?_ (by assumption)) | (with_reducible refine Below.trans ?_ (by assumption)) | exact Nat.le_refl _ | omega | (simp <;> omega)))⟩
theorem t_som {T : TypeId} {v : Value} {g : FuncId} (hI : IsT T g) (X : Bs) (w : World) (HC : Hid (∀ W, Below w.heap.size w W → Calls Tryz.prog g #[v] W (TextOf W X))) (hX : X.length ≤ 1000000) :
  Calls Tryz.prog 241 #[.agg #[.iface T v]] w (TextOf w (43 :: X)) := by
 have hm := fun w => hI.method v w
 have hc := fun args w => hI.enters args w
 have t1 := cat_run [43] X (by simp; omega)
 clear hI
 go_enter Tryz.func241, Tryz.ntmps241
 go_wp2_with fail
 refine (HC.out _ (by (repeat (first | with_reducible exact Below.refl _ _ | with_reducible apply below_drew | with_reducible apply below_draws | with_reducible apply below_alloc | with_reducible apply below_set | (with_reducible refine below_trans ?_ (by assumption)) | (with_reducible refine Below.trans ?_ (by assumption)) | exact Nat.le_refl _ | omega | (simp <;> omega))))).mono ?_
 rintro e w1 ⟨rfl, hb⟩
 go_wp2_with fail
 go_ret
 exact ⟨rfl, by (repeat (first | with_reducible exact Below.refl _ _ | with_reducible apply below_drew | with_reducible apply below_draws | with_reducible apply below_alloc | with_reducible apply below_set | (with_reducible refine below_trans ?_ (by assumption)) | (with_reducible refine Below.trans ?_ (by assumption)) | exact Nat.le_refl _ | omega | (simp <;> omega)))⟩
theorem i_toldText (g : Int) (X : Bs) (h0 : 0 ≤ g) (h1 : g ≤ 200) (hX : X.length ≤ 1000000) (w : World) (hT : Tab w) : Calls Tryz.prog 158 #[.int .i64 g, .string (S X)] w fun e w' => e = .returned (.string (S (dec g ++ (61 :: X)))) ∧ Below w.heap.size w w' := by
 have HC := Lib.hid (i_Itoa g h0 (by omega) w hT)
 have hl := dec_len g
 obtain ⟨d, hd⟩ : ∃ d, dec g = d := ⟨_, rfl⟩
 rw [hd] at HC hl ⊢
 have t1 := cat_run d [61] (by simp; omega)
 have t2 := cat_run (d ++ [61]) X (by simp; omega)
 clear hd
 go_enter Tryz.func158, Tryz.ntmps158
 go_wp2_with fail
 refine HC.out.mono ?_
 rintro e w1 ⟨rfl, hb⟩
 go_wp2_with fail
 go_ret
 exact ⟨ret_s (by simp), hb⟩
theorem t_told {T : TypeId} {v : Value} {g' : FuncId} (hI : IsT T g') (g : Int) (h0 : 0 ≤ g) (h1 : g ≤ 200) (X : Bs) (w : World) (hT : Tab w) (HC : Hid (∀ W, Below w.heap.size w W → Calls Tryz.prog g' #[v] W (TextOf W X))) (hX : X.length ≤ 1000000) :
  Calls Tryz.prog 225 #[.agg #[.int .i64 g, .iface T v]] w (TextOf w (dec g ++ (61 :: X))) := by
 have hm := fun w => hI.method v w
 have hc := fun args w => hI.enters args w
 have HT := Lib.hid (fun W (hb : Below w.heap.size w W) => i_toldText g X h0 h1 hX W (hT.below hb))
 obtain ⟨R, hR⟩ : ∃ R, dec g ++ (61 :: X) = R := ⟨_, rfl⟩
 rw [hR] at HT ⊢
 clear hI hR hT
 go_enter Tryz.func225, Tryz.ntmps225
 go_upto_region 1 with fail
 obtain ⟨W, hW⟩ : ∃ W, w.alloc (.cells #[.int .i64 g, .iface T v] 137) = W := ⟨_, rfl⟩
 have KB := Blk.new w 137 #[.int .i64 g, .iface T v]
 rw [hW] at KB
 have k0 := KB.cell 0
 have k1 := KB.cell 1
 simp at k0 k1
 have hbW : Below w.heap.size w W := by rw [← hW]; exact below_alloc (Below.refl _ _) _
 rw [hW]
 clear hW KB
 go_region_held3 (fun w' => w'.cell? ⟨w.heap.size, 0, none⟩ = some (.int .i64 g) ∧ w'.cell? ⟨w.heap.size, 1, none⟩ = some (.iface T v) ∧ Below W.heap.size W w')
  (first | (exact ⟨k0, k1, below_drew (Below.refl _ _)⟩) | (go_split_ands; refine ⟨?_, ?_, ?_⟩; (exact cell_later hb1 (by assumption)); (exact cell_later hb1 (by assumption)); (exact below_trans (by assumption) hb1)))
  (first | (go_at_call 158; go_split_ands; (with_reducible refine (HT.out _ (below_trans hbW (by assumption))).mono ?_); rintro e w' ⟨rfl, hb1⟩) | (go_split_ands; (with_reducible refine (HC.out _ (below_trans hbW (by assumption))).mono ?_); rintro e w' ⟨rfl, hb1⟩))
 all_goals
  go_split_ands
  go_wp2_with fail
  go_ret
  exact ⟨rfl, below_trans hbW (by first | assumption | exact below_trans (by assumption) (by assumption))⟩
theorem t_uni (g : Int) (u : Value) (X : Bs) (w : World) (HC : Hid (∀ W, Below w.heap.size w W → Calls Tryz.prog 225 #[.agg #[.int .i64 g, u]] W (TextOf W X))) (hX : X.length ≤ 1000000) :
  Calls Tryz.prog 244 #[.agg #[.int .i64 g, u]] w (TextOf w (60 :: (X ++ [62]))) := by
 have t1 := cat_run [60] X (by simp; omega)
 have t2 := cat_run (60 :: X) [62] (by simp; omega)
 go_enter Tryz.func244, Tryz.ntmps244
 go_wp2_with fail
 refine (HC.out _ (by (repeat (first | with_reducible exact Below.refl _ _ | with_reducible apply below_drew | with_reducible apply below_draws | with_reducible apply below_alloc | with_reducible apply below_set | (with_reducible refine below_trans ?_ (by assumption)) | (with_reducible refine Below.trans ?_ (by assumption)) | exact Nat.le_refl _ | omega | (simp <;> omega))))).mono ?_
 rintro e w1 ⟨rfl, hb⟩
 go_wp2_with fail
 go_ret
 exact ⟨rfl, by (repeat (first | with_reducible exact Below.refl _ _ | with_reducible apply below_drew | with_reducible apply below_draws | with_reducible apply below_alloc | with_reducible apply below_set | (with_reducible refine below_trans ?_ (by assumption)) | (with_reducible refine Below.trans ?_ (by assumption)) | exact Nat.le_refl _ | omega | (simp <;> omega)))⟩
theorem t_lst {l : List V} {v : Value} {us : List Value} {N : Nat → Prop} {w : World} (hr : RowN w N 70 1 v l.length us) (hm : PMany w N l us) (hT : Tab w) (ih : ∀ x ∈ l, Texts x)
  (hlen : (joinC (l.map outV)).length ≤ 1000000) (hll : l.length ≤ 1000000) : Calls Tryz.prog 243 #[v] w (TextOf w (91 :: (joinC (l.map outV) ++ [93]))) := by
 obtain ⟨ao, cap, rfl, hcap, hxl, hh⟩ := hr.form
 have HR := Lib.hid hr; have HM := Lib.hid hm; have HT := Lib.hid hT; have IH := Lib.hid ih
 clear hr hm hT ih
 obtain ⟨n, hn⟩ : ∃ n, l.length = n := ⟨_, rfl⟩
 obtain ⟨L, hL⟩ : ∃ L, l.map outV = L := ⟨_, rfl⟩
 have hML : L.length = n := by rw [← hL]; simpa using hn
 have HG := Lib.hid (fun (i : Nat) (h : i < l.length) (h2 : i < L.length) => (by subst hL; simp : L[i] = outV l[i]))
 rw [hL] at hlen ⊢
 clear hL
 have HJ := Lib.hid (fun i h => joinC_one_le L i h)
 rw [hn] at hcap hxl hh hll HR ⊢
 have HML := Lib.hid hML; clear hML
 have HN := Lib.hid hn; clear hn
 have HH := Lib.hid hh; clear hh
 go_enter Tryz.func243, Tryz.ntmps243
 go_wp2_with fail
 go_loopw [3, 8] (fun x i wr => ∃ j : Nat, j ≤ n ∧ i = .int .i64 j ∧ Hid (Strs wr w.heap.size x (L.take j)) ∧ Hid (Below w.heap.size w wr)) (fun _ i _ => n - (intOf i).toNat)
 case atStart => exact ⟨0, by omega, rfl, World.ownsRow_nil _ _ _ _, Below.refl _ _⟩
 case round =>
  obtain ⟨j, hj, rfl, hS, hb⟩ := hrel
  obtain ⟨ax, cx, rfl, -, -⟩ := hS.out.form
  have e1 : (L.take j).length = j := by simp; have := HML.out; omega
  rw [e1] at hS ⊢
  have E1 := Lib.hid e1; clear e1
  by_cases hjn : j < n
  ·obtain ⟨g, rfl⟩ : ∃ g, ao = some ⟨g, 0, none⟩ := by
    rcases HH.out with ⟨_, h0⟩ | ⟨g, h0, -⟩
    ·omega
    ·exact ⟨g, h0⟩
   have hjl : j < l.length := by rw [HN.out]; exact hjn
   have hju : j < us.length := by rw [HM.out.1]; exact hjl
   have hjL : j < L.length := by rw [HML.out]; exact hjn
   have x0 := (HR.out.belowed hb.out).cell j (by omega)
   rw [List.getElem?_eq_getElem hju] at x0
   have hx := (HM.out.belowed hb.out).2 j hjl hju
   obtain ⟨T, y, g', hu, hI⟩ := hx.isT
   rw [hu] at x0 hx
   have hgj := HG.out j hjl hjL
   have h1 := HJ.out j hjL
   obtain ⟨o, ho⟩ : ∃ o, L[j] = o := ⟨_, rfl⟩
   have hol : o.length ≤ 1000000 := by rw [← ho]; omega
   have HC := Lib.hid (fun W (hbw : Below wr.heap.size wr W) => (by
    have := IH.out l[j] (List.getElem_mem hjl) T y g' N W hI (hx.belowed hbw) (HT.out.below (below_trans hb.out hbw)) (by rw [← hgj, ho]; exact hol)
    rw [← hgj, ho] at this; exact this : Calls Tryz.prog g' #[y] W (TextOf W o)))
   have HTK := Lib.hid (show L.take (j + 1) = L.take j ++ [o] by rw [List.take_succ_eq_append_getElem hjL, ho])
   have hm := fun w => hI.method y w
   have hc := fun args w => hI.enters args w
   have hz := hb.out.size
   clear hx hu hI hgj ho h1
   go_wp2_with fail
   refine (HC.out _ (Below.refl _ _)).mono ?_
   rintro e w1 ⟨rfl, hb1⟩
   have HS1 := Lib.hid (hS.out.below hb1)
   have HB1 := Lib.hid (below_trans hb.out hb1)
   have hz1 := hb1.size
   have hL9 : (L.take j).length ≤ 3000000 := by rw [E1.out]; omega
   have hbz : w.heap.size ≤ (w1.alloc (.cells #[.string (S o)] 9)).heap.size := by simp; omega
   clear hS hb hb1 HC x0 hm hc
   go_wp2_with (first | (at_builtin; refine app_str rfl _ _ rfl w.heap.size _ _ rfl (HS1.out.below (below_alloc (Below.refl _ _) _)) ⟨w1.heap.size, 0, none⟩ o rfl ?c1 hL9 hbz ?_))
   case c1 => simp [go_sem]
   intro v' w' hS' hb' hg'
   have ES := Lib.hid (show Strs w' w.heap.size v' (L.take (j + 1)) by rw [HTK.out]; exact hS')
   have hbe := Lib.hid (show Below w.heap.size w w' from (below_alloc HB1.out _).trans hb')
   clear hS' hg' hb' HS1 HB1
   go_wp2_with fail
   go_roundw
   case rel => exact ⟨j + 1, by omega, by go_num, ES.out, hbe.out⟩
   case measure => simp [intOf]; omega
  ·obtain rfl : n = j := by omega
   have hall : L.take n = L := List.take_of_length_le (by rw [HML.out]; exact Nat.le_refl _)
   rw [hall] at hS
   have HC := Lib.hid (fun W (hbw : Below wr.heap.size wr W) => i_Join _ _ L W (hS.out.below hbw) (by omega))
   obtain ⟨A, hA⟩ : ∃ A, joinC L = A := ⟨_, rfl⟩
   rw [hA] at HC hlen
   have t1 := cat_run [91] A (by simp; omega)
   have t2 := cat_run (91 :: A) [93] (by simp; omega)
   have HA := Lib.hid hA
   clear hA hall
   go_wp2_with fail
   refine (HC.out _ (Below.refl _ _)).mono ?_
   rintro e w1 ⟨rfl, hb1⟩
   go_wp2_with fail
   go_ret
   exact ⟨ret_s (by rw [HA.out]), below_trans hb.out hb1⟩
theorem t_rec {l : List V} {gs : List Int} {v : Value} {us : List Value} {N : Nat → Prop} {w : World} (hgl : gs.length = l.length) (hgb : ∀ g ∈ gs, 0 ≤ g ∧ g ≤ 200) (hr : RowN w N 137 2 v l.length (flatFV gs us)) (hm : PMany w N l us) (hT : Tab w) (ih : ∀ x ∈ l, Texts x)
  (hlen : (joinC (toldL gs (l.map outV))).length ≤ 1000000) (hkl : ∀ x ∈ l, (outV x).length ≤ 1000000) (hll : l.length ≤ 1000000) : Calls Tryz.prog 224 #[v] w (TextOf w (123 :: (joinC (toldL gs (l.map outV)) ++ [125]))) := by
 obtain ⟨ao, cap, rfl, hcap, hxl, hh⟩ := hr.form
 have HR := Lib.hid hr; have HM := Lib.hid hm; have HT := Lib.hid hT; have IH := Lib.hid ih; have HGB := Lib.hid hgb; have HKL := Lib.hid hkl
 obtain ⟨n, hn⟩ : ∃ n, l.length = n := ⟨_, rfl⟩
 obtain ⟨L, hL⟩ : ∃ L, toldL gs (l.map outV) = L := ⟨_, rfl⟩
 have hML : L.length = n := by rw [← hL, toldL_len _ _ (by simp; omega)]; simpa using hn
 have HG := Lib.hid (fun (i : Nat) (h : i < l.length) (h3 : i < gs.length) (h2 : i < L.length) => (by subst hL; rw [toldL_get gs _ i h3 (by simpa using h)]; simp : L[i] = dec gs[i] ++ (61 :: outV l[i])))
 rw [hL] at hlen ⊢
 clear hL hr hm hT ih hgb hkl
 rw [hn] at hcap hxl hh hll HR ⊢
 have HML := Lib.hid hML; clear hML
 have HGL := Lib.hid hgl; clear hgl
 have HN := Lib.hid hn; clear hn
 have HH := Lib.hid hh; clear hh
 go_enter Tryz.func224, Tryz.ntmps224
 go_wp2_with fail
 go_loopw [3, 8] (fun x i wr => ∃ j : Nat, j ≤ n ∧ i = .int .i64 j ∧ Hid (Strs wr w.heap.size x (L.take j)) ∧ Hid (Below w.heap.size w wr)) (fun _ i _ => n - (intOf i).toNat)
 case atStart => exact ⟨0, by omega, rfl, World.ownsRow_nil _ _ _ _, Below.refl _ _⟩
 case round =>
  obtain ⟨j, hj, rfl, hS, hb⟩ := hrel
  obtain ⟨ax, cx, rfl, -, -⟩ := hS.out.form
  have e1 : (L.take j).length = j := by simp; have := HML.out; omega
  rw [e1] at hS ⊢
  have E1 := Lib.hid e1; clear e1
  by_cases hjn : j < n
  ·obtain ⟨g, rfl⟩ : ∃ g, ao = some ⟨g, 0, none⟩ := by
    rcases HH.out with ⟨_, h0⟩ | ⟨g, h0, -⟩
    ·omega
    ·exact ⟨g, h0⟩
   have hjl : j < l.length := by rw [HN.out]; exact hjn
   have hju : j < us.length := by rw [HM.out.1]; exact hjl
   have hjg : j < gs.length := by rw [HGL.out]; exact hjl
   have hjL : j < L.length := by rw [HML.out]; exact hjn
   obtain ⟨f0, f1⟩ := flatFV_get gs us j hjg hju
   have x0 := (HR.out.belowed hb.out).cell (j * 2) (by omega)
   have x1 := (HR.out.belowed hb.out).cell (j * 2 + 1) (by omega)
   rw [f0] at x0
   rw [f1] at x1
   have hx := (HM.out.belowed hb.out).2 j hjl hju
   obtain ⟨T, y, g', hu, hI⟩ := hx.isT
   rw [hu] at x1 hx
   have hgj := HG.out j hjl hjg hjL
   have hb01 := HGB.out _ (List.getElem_mem hjg)
   have hol := HKL.out _ (List.getElem_mem hjl)
   obtain ⟨q, hq⟩ : ∃ q, gs[j] = q := ⟨_, rfl⟩
   obtain ⟨o, ho⟩ : ∃ o, outV l[j] = o := ⟨_, rfl⟩
   rw [hq] at x0 hgj hb01
   rw [ho] at hgj hol
   have HC := Lib.hid (fun W (hbw : Below wr.heap.size wr W) => (t_told hI q hb01.1 hb01.2 o W (HT.out.below (below_trans hb.out hbw)) (fun W2 (hb2 : Below W.heap.size W W2) => (by
    have := IH.out l[j] (List.getElem_mem hjl) T y g' N W2 hI (hx.belowed (below_trans hbw hb2)) (HT.out.below (below_trans hb.out (below_trans hbw hb2))) (by rw [ho]; exact hol)
    rw [ho] at this; exact this : Calls Tryz.prog g' #[y] W2 (TextOf W2 o))) hol : Calls Tryz.prog 225 #[.agg #[.int .i64 q, .iface T y]] W (TextOf W (dec q ++ (61 :: o)))))
   rw [← hgj] at HC
   obtain ⟨R, hR⟩ : ∃ R, L[j] = R := ⟨_, rfl⟩
   rw [hR] at HC
   have HTK := Lib.hid (show L.take (j + 1) = L.take j ++ [R] by rw [List.take_succ_eq_append_getElem hjL, hR])
   have hz := hb.out.size
   clear hx hu hI hgj ho hR f0 f1 hq hb01 hol
   go_wp2_with fail
   refine (HC.out _ (by (repeat (first | with_reducible exact Below.refl _ _ | with_reducible apply below_drew | with_reducible apply below_draws | with_reducible apply below_alloc | with_reducible apply below_set | (with_reducible refine below_trans ?_ (by assumption)) | (with_reducible refine Below.trans ?_ (by assumption)) | exact Nat.le_refl _ | omega | (simp <;> omega))))).mono ?_
   rintro e w1 ⟨rfl, hb1⟩
   have hbx : Below wr.heap.size wr w1 := below_trans (by (repeat (first | with_reducible exact Below.refl _ _ | with_reducible apply below_drew | with_reducible apply below_draws | with_reducible apply below_alloc | with_reducible apply below_set | (with_reducible refine below_trans ?_ (by assumption)) | (with_reducible refine Below.trans ?_ (by assumption)) | exact Nat.le_refl _ | omega | (simp <;> omega)))) hb1
   have HS1 := Lib.hid (hS.out.below hbx)
   have HB1 := Lib.hid (below_trans hb.out hbx)
   have hz1 := hbx.size
   have hL9 : (L.take j).length ≤ 3000000 := by rw [E1.out]; omega
   have hbz : w.heap.size ≤ (w1.alloc (.cells #[.string (S R)] 9)).heap.size := by simp; omega
   clear hS hb hb1 HC x0 x1 hbx
   go_wp2_with (first | (at_builtin; refine app_str rfl _ _ rfl w.heap.size _ _ rfl (HS1.out.below (below_alloc (Below.refl _ _) _)) ⟨w1.heap.size, 0, none⟩ R rfl ?c1 hL9 hbz ?_))
   case c1 => simp [go_sem]
   intro v' w' hS' hb' hg'
   have ES := Lib.hid (show Strs w' w.heap.size v' (L.take (j + 1)) by rw [HTK.out]; exact hS')
   have hbe := Lib.hid (show Below w.heap.size w w' from (below_alloc HB1.out _).trans hb')
   clear hS' hg' hb' HS1 HB1
   go_wp2_with fail
   go_roundw
   case rel => exact ⟨j + 1, by omega, by go_num, ES.out, hbe.out⟩
   case measure => simp [intOf]; omega
  ·obtain rfl : n = j := by omega
   have hall : L.take n = L := List.take_of_length_le (by rw [HML.out]; exact Nat.le_refl _)
   rw [hall] at hS
   have HC := Lib.hid (fun W (hbw : Below wr.heap.size wr W) => i_Join _ _ L W (hS.out.below hbw) (by omega))
   obtain ⟨A, hA⟩ : ∃ A, joinC L = A := ⟨_, rfl⟩
   rw [hA] at HC hlen
   have t1 := cat_run [123] A (by simp; omega)
   have t2 := cat_run (123 :: A) [125] (by simp; omega)
   have HA := Lib.hid hA
   clear hA hall
   go_wp2_with fail
   refine (HC.out _ (Below.refl _ _)).mono ?_
   rintro e w1 ⟨rfl, hb1⟩
   go_wp2_with fail
   go_ret
   exact ⟨ret_s (by rw [HA.out]), below_trans hb.out hb1⟩
theorem assert_no {T t : TypeId} {d : TypeDesc} {z : Value} (hu : Tryz.prog.underlying T = some d) (hd : ∀ m, d ≠ .interface m) (hz : ∀ w, (zeroValue T).run Tryz.prog w = .ok z w) (hne : ¬ t = T) (v : Value) (xT : TypeId) (w : World) :
  Sem.run Tryz.prog (Instr.typeAssert (.iface t v) xT T true) w = .ok (.tuple #[z, .bool false]) w := by
 cases d with
 | interface m => exact absurd rfl (hd m)
 | _ => simp [Instr.typeAssert, run_underlying hu, hne, hz]
theorem assert_yes {T : TypeId} {d : TypeDesc} (hu : Tryz.prog.underlying T = some d) (hd : ∀ m, d ≠ .interface m) (v : Value) (xT : TypeId) (w : World) :
  Sem.run Tryz.prog (Instr.typeAssert (.iface T v) xT T true) w = .ok (.tuple #[v, .bool true]) w := by
 cases d with
 | interface m => exact absurd rfl (hd m)
 | _ => simp [Instr.typeAssert, run_underlying hu]
theorem assert_nil {T : TypeId} {d : TypeDesc} {z : Value} (hu : Tryz.prog.underlying T = some d) (hd : ∀ m, d ≠ .interface m) (hz : ∀ w, (zeroValue T).run Tryz.prog w = .ok z w) (xT : TypeId) (w : World) :
  Sem.run Tryz.prog (Instr.typeAssert .nilIface xT T true) w = .ok (.tuple #[z, .bool false]) w := by
 cases d with
 | interface m => exact absurd rfl (hd m)
 | _ => simp [Instr.typeAssert, run_underlying hu, hz]
theorem as_no_numberValue (t : TypeId) (hne : ¬ t = 122) (v : Value) (w : World) : Sem.run Tryz.prog (Instr.typeAssert (.iface t v) 70 122 true) w = .ok (.tuple #[.int .i64 0, .bool false]) w := assert_no Tryz.underlying122 (by intro m h; cases h) Tryz.zeroValue122 hne v _ w
theorem as_yes_numberValue (v : Value) (w : World) : Sem.run Tryz.prog (Instr.typeAssert (.iface 122 v) 70 122 true) w = .ok (.tuple #[v, .bool true]) w := assert_yes Tryz.underlying122 (by intro m h; cases h) v _ w
theorem as_nil_numberValue (w : World) : Sem.run Tryz.prog (Instr.typeAssert .nilIface 70 122 true) w = .ok (.tuple #[.int .i64 0, .bool false]) w := assert_nil Tryz.underlying122 (by intro m h; cases h) Tryz.zeroValue122 _ w
theorem as_no_textValue (t : TypeId) (hne : ¬ t = 123) (v : Value) (w : World) : Sem.run Tryz.prog (Instr.typeAssert (.iface t v) 70 123 true) w = .ok (.tuple #[.string ByteArray.empty, .bool false]) w := assert_no Tryz.underlying123 (by intro m h; cases h) Tryz.zeroValue123 hne v _ w
theorem as_yes_textValue (v : Value) (w : World) : Sem.run Tryz.prog (Instr.typeAssert (.iface 123 v) 70 123 true) w = .ok (.tuple #[v, .bool true]) w := assert_yes Tryz.underlying123 (by intro m h; cases h) v _ w
theorem as_nil_textValue (w : World) : Sem.run Tryz.prog (Instr.typeAssert .nilIface 70 123 true) w = .ok (.tuple #[.string ByteArray.empty, .bool false]) w := assert_nil Tryz.underlying123 (by intro m h; cases h) Tryz.zeroValue123 _ w
theorem as_no_flagValue (t : TypeId) (hne : ¬ t = 124) (v : Value) (w : World) : Sem.run Tryz.prog (Instr.typeAssert (.iface t v) 70 124 true) w = .ok (.tuple #[.bool false, .bool false]) w := assert_no Tryz.underlying124 (by intro m h; cases h) Tryz.zeroValue124 hne v _ w
theorem as_yes_flagValue (v : Value) (w : World) : Sem.run Tryz.prog (Instr.typeAssert (.iface 124 v) 70 124 true) w = .ok (.tuple #[v, .bool true]) w := assert_yes Tryz.underlying124 (by intro m h; cases h) v _ w
theorem as_nil_flagValue (w : World) : Sem.run Tryz.prog (Instr.typeAssert .nilIface 70 124 true) w = .ok (.tuple #[.bool false, .bool false]) w := assert_nil Tryz.underlying124 (by intro m h; cases h) Tryz.zeroValue124 _ w
theorem as_no_enumValue (t : TypeId) (hne : ¬ t = 125) (v : Value) (w : World) : Sem.run Tryz.prog (Instr.typeAssert (.iface t v) 70 125 true) w = .ok (.tuple #[.int .i64 0, .bool false]) w := assert_no Tryz.underlying125 (by intro m h; cases h) Tryz.zeroValue125 hne v _ w
theorem as_yes_enumValue (v : Value) (w : World) : Sem.run Tryz.prog (Instr.typeAssert (.iface 125 v) 70 125 true) w = .ok (.tuple #[v, .bool true]) w := assert_yes Tryz.underlying125 (by intro m h; cases h) v _ w
theorem as_nil_enumValue (w : World) : Sem.run Tryz.prog (Instr.typeAssert .nilIface 70 125 true) w = .ok (.tuple #[.int .i64 0, .bool false]) w := assert_nil Tryz.underlying125 (by intro m h; cases h) Tryz.zeroValue125 _ w
theorem as_no_noneValue (t : TypeId) (hne : ¬ t = 127) (v : Value) (w : World) : Sem.run Tryz.prog (Instr.typeAssert (.iface t v) 70 127 true) w = .ok (.tuple #[.agg #[], .bool false]) w := assert_no Tryz.underlying127 (by intro m h; cases h) Tryz.zeroValue127 hne v _ w
theorem as_yes_noneValue (v : Value) (w : World) : Sem.run Tryz.prog (Instr.typeAssert (.iface 127 v) 70 127 true) w = .ok (.tuple #[v, .bool true]) w := assert_yes Tryz.underlying127 (by intro m h; cases h) v _ w
theorem as_nil_noneValue (w : World) : Sem.run Tryz.prog (Instr.typeAssert .nilIface 70 127 true) w = .ok (.tuple #[.agg #[], .bool false]) w := assert_nil Tryz.underlying127 (by intro m h; cases h) Tryz.zeroValue127 _ w
theorem as_no_someValue (t : TypeId) (hne : ¬ t = 154) (v : Value) (w : World) : Sem.run Tryz.prog (Instr.typeAssert (.iface t v) 70 154 true) w = .ok (.tuple #[.agg #[.nilIface], .bool false]) w := assert_no Tryz.underlying154 (by intro m h; cases h) Tryz.zeroValue154 hne v _ w
theorem as_yes_someValue (v : Value) (w : World) : Sem.run Tryz.prog (Instr.typeAssert (.iface 154 v) 70 154 true) w = .ok (.tuple #[v, .bool true]) w := assert_yes Tryz.underlying154 (by intro m h; cases h) v _ w
theorem as_nil_someValue (w : World) : Sem.run Tryz.prog (Instr.typeAssert .nilIface 70 154 true) w = .ok (.tuple #[.agg #[.nilIface], .bool false]) w := assert_nil Tryz.underlying154 (by intro m h; cases h) Tryz.zeroValue154 _ w
theorem as_no_listValue (t : TypeId) (hne : ¬ t = 155) (v : Value) (w : World) : Sem.run Tryz.prog (Instr.typeAssert (.iface t v) 70 155 true) w = .ok (.tuple #[.slice none 0 0, .bool false]) w := assert_no Tryz.underlying155 (by intro m h; cases h) Tryz.zeroValue155 hne v _ w
theorem as_yes_listValue (v : Value) (w : World) : Sem.run Tryz.prog (Instr.typeAssert (.iface 155 v) 70 155 true) w = .ok (.tuple #[v, .bool true]) w := assert_yes Tryz.underlying155 (by intro m h; cases h) v _ w
theorem as_nil_listValue (w : World) : Sem.run Tryz.prog (Instr.typeAssert .nilIface 70 155 true) w = .ok (.tuple #[.slice none 0 0, .bool false]) w := assert_nil Tryz.underlying155 (by intro m h; cases h) Tryz.zeroValue155 _ w
theorem as_no_unionValue (t : TypeId) (hne : ¬ t = 157) (v : Value) (w : World) : Sem.run Tryz.prog (Instr.typeAssert (.iface t v) 70 157 true) w = .ok (.tuple #[.agg #[.int .i64 0, .nilIface], .bool false]) w := assert_no Tryz.underlying157 (by intro m h; cases h) Tryz.zeroValue157 hne v _ w
theorem as_yes_unionValue (v : Value) (w : World) : Sem.run Tryz.prog (Instr.typeAssert (.iface 157 v) 70 157 true) w = .ok (.tuple #[v, .bool true]) w := assert_yes Tryz.underlying157 (by intro m h; cases h) v _ w
theorem as_nil_unionValue (w : World) : Sem.run Tryz.prog (Instr.typeAssert .nilIface 70 157 true) w = .ok (.tuple #[.agg #[.int .i64 0, .nilIface], .bool false]) w := assert_nil Tryz.underlying157 (by intro m h; cases h) Tryz.zeroValue157 _ w
theorem as_no_recordValue (t : TypeId) (hne : ¬ t = 85) (v : Value) (w : World) : Sem.run Tryz.prog (Instr.typeAssert (.iface t v) 70 85 true) w = .ok (.tuple #[.slice none 0 0, .bool false]) w := assert_no Tryz.underlying85 (by intro m h; cases h) Tryz.zeroValue85 hne v _ w
theorem as_yes_recordValue (v : Value) (w : World) : Sem.run Tryz.prog (Instr.typeAssert (.iface 85 v) 70 85 true) w = .ok (.tuple #[v, .bool true]) w := assert_yes Tryz.underlying85 (by intro m h; cases h) v _ w
theorem as_nil_recordValue (w : World) : Sem.run Tryz.prog (Instr.typeAssert .nilIface 70 85 true) w = .ok (.tuple #[.slice none 0 0, .bool false]) w := assert_nil Tryz.underlying85 (by intro m h; cases h) Tryz.zeroValue85 _ w
attribute [go_sem] as_no_numberValue as_yes_numberValue as_nil_numberValue as_no_textValue as_yes_textValue as_nil_textValue as_no_flagValue as_yes_flagValue as_nil_flagValue as_no_enumValue as_yes_enumValue as_nil_enumValue as_no_noneValue as_yes_noneValue as_nil_noneValue as_no_someValue as_yes_someValue as_nil_someValue as_no_listValue as_yes_listValue as_nil_listValue as_no_unionValue as_yes_unionValue as_nil_unionValue as_no_recordValue as_yes_recordValue as_nil_recordValue
theorem dec_pos (n : Int) : 1 ≤ (dec n).length := by
 unfold dec; rw [decN]; split <;> simp
theorem PAt.pos {w : World} {N : Nat → Prop} {x : V} {u : Value} (h : PAt w N x u) : 1 ≤ (outV x).length := by
 cases h with
 | num n => rw [out_plain (by decide) (by decide) (by decide)]; exact dec_pos n
 | txt x => rw [out_plain (by decide) (by decide) (by decide)]; simp
 | flg b => rw [out_plain (by decide) (by decide) (by decide)]; cases b <;> simp [flagT]
 | non k h => rw [out_none h]; simp
 | som k h => rw [out_some h]; simp
 | lst k h => rw [out_list h]; simp
 | enm k h => rw [out_enum h]; simp
 | uni k h => rw [out_union h]; simp
 | rcd k h => rw [out_record h (by decide) (by decide)]; simp
theorem PMany.cnt {w : World} {N : Nat → Prop} {l : List V} {us : List Value} (h : PMany w N l us) : l.length ≤ (joinC (l.map outV)).length := by
 have := joinC_cnt (l.map outV) (by
  intro x hx
  obtain ⟨y, hy, rfl⟩ := List.mem_map.1 hx
  obtain ⟨i, hi, rfl⟩ := List.getElem_of_mem hy
  exact (h.2 i hi (by rw [h.1]; exact hi)).pos) l.length (by simp)
 rw [List.take_of_length_le (by simp)] at this
 exact this
theorem texts (x : V) : Texts x := by
 refine V.ind (fun k t gs l ih => ?_) x
 intro T v g N w hI hp hT hl
 cases hp with
 | num n h0 h1 =>
  cases hI
  rw [out_plain (by decide) (by decide) (by decide)]
  exact t_num n h0 h1 w hT
 | txt x h =>
  cases hI
  rw [out_plain (by decide) (by decide) (by decide)]
  exact t_txt x h w
 | flg b =>
  cases hI
  rw [out_plain (by decide) (by decide) (by decide)]
  exact t_flg b w
 | non k h =>
  cases hI
  rw [out_none h]
  exact t_non w
 | som k h hx =>
  cases hI
  obtain ⟨T', v', g', rfl, hI'⟩ := hx.isT
  have hl' := Nat.le_trans (some_len h) hl
  rw [out_some h]
  exact t_som hI' _ w (fun W hb => ih _ (by simp) T' v' g' N W hI' (hx.belowed hb) (hT.below hb) hl') hl'
 | lst k h us hr hus hh =>
  cases hI
  have hcnt := PMany.cnt ⟨hus, hh⟩
  rw [out_list h] at hl ⊢
  simp only [List.length_cons, List.length_append, List.length_nil] at hl
  exact t_lst hr ⟨hus, hh⟩ hT ih (by omega) (by omega)
 | enm k h g h0 h1 =>
  cases hI
  rw [out_enum h]
  exact t_enm g h0 h1 w hT
 | uni k h g h0 h1 hx =>
  cases hI
  obtain ⟨T', v', g', rfl, hI'⟩ := hx.isT
  have hl' := Nat.le_trans (union_len h) hl
  rw [out_union h] at hl ⊢
  have := t_uni g (.iface T' v') (dec g ++ (61 :: outV _)) w (fun W hb => t_told hI' g h0 h1 _ W (hT.below hb) (fun W2 hb2 => ih _ (by simp) T' v' g' N W2 hI' (hx.belowed (below_trans hb hb2)) (hT.below (below_trans hb hb2)) hl') hl') (by simp at hl ⊢; omega)
  simpa using this
 | rcd k h us hgl hgb hr hus hh =>
  cases hI
  have hcnt := record_cnt (t := [82]) h (by decide) (by decide) hgl
  have hkl : ∀ x ∈ l, (outV x).length ≤ 1000000 := by
   intro x hx
   obtain ⟨i, hi, rfl⟩ := List.getElem_of_mem hx
   exact Nat.le_trans (record_len h (by decide) (by decide) hgl i hi) hl
  rw [out_record h (by decide) (by decide)] at hl hcnt ⊢
  simp only [List.length_cons, List.length_append, List.length_nil] at hl hcnt
  exact t_rec hgl hgb hr ⟨hus, hh⟩ hT ih (by omega) hkl (by omega)
theorem app_pv {w : World} {ops : Array Oper} {rest : List Oper} {o : Oper} {a : Act} {Q : Exit → Act → World → Prop} (hgd : o.guard = none) (s x : Operand)
  (ho : o.op = .call { callee := .builtin .append, args := #[s, x], argTypes := #[128, 128] })
  (B : Nat) (v : Value) (us : List Value) (hs : a.eval s = v) (hown : w.ownsRow B 70 1 v us.length us) (ad : Addr) (u : Value) (hu : u.oneCell' = true) (hx : a.eval x = .slice (some ad) 1 1) (hc : w.cell? ad = some u)
  (hn : us.length ≤ 3000000) (hB : B ≤ w.heap.size)
  (h : ∀ v' w', w'.ownsRow B 70 1 v' (us.length + 1) (us ++ [u]) → Below B w w' → w.grownBy w' v.ownBlock → wpList Tryz.prog ops Q rest (a.put o.dst v') w') : wpList Tryz.prog ops Q (o :: rest) a w := by
 refine app_gen hgd s x 128 ho B 70 .nilIface 1 16 Tryz.underlying128 info_value rfl (by omega) (by omega) v us.length us hs hown ad 1 1 [u] hx rfl ?_ ?_ (by omega) hB (fun v' w' h1 h2 h3 => h v' w' ?_ h2 h3)
 ·intro j y hj
  match j, hj with
  | 0, hj => simp at hj; subst hj; simpa [Addr.add] using hc
 ·intro y hy; simp at hy; subst hy; exact hu
 ·exact h1
theorem slice_form {w : World} {B : Nat} {e : TypeId} {sz n : Nat} {v : Value} {xs : List Value} (h : w.ownsRow B e sz v n xs) : ∃ ax cx, v = .slice ax n cx := by
 rcases h.2 with ⟨h1, h2⟩ | ⟨g, c, -, h1, -⟩
 ·exact ⟨none, 0, by rw [h2]; exact h1⟩
 ·exact ⟨_, c, h1⟩
def RetParts (w : World) (x : V) (e : Ending) (w' : World) : Prop := ∃ v us, e = .returned v ∧ RowN w' (fun _ => True) 70 1 v x.kids.length us ∧ PMany w' (fun _ => True) x.kids us ∧ Below w.heap.size w w'
theorem RetParts.none {w w' : World} {x : V} (h : x.kids = []) (hb : Below w.heap.size w w') : RetParts w x (.returned (.slice none 0 0)) w' := ⟨_, [], rfl, by rw [h]; exact RowN.nil_ _ _ _ _, by rw [h]; exact PMany.nil_ _ _, hb⟩
theorem row_one (W : World) (u : Value) (B : Nat) (hB : B ≤ W.heap.size) : (W.alloc (.cells #[u] 70)).ownsRow B 70 1 (.slice (some ⟨W.heap.size, 0, none⟩) 1 1) 1 [u] := World.ownsRow_lit W #[u] 1 hB (by unfold maxLen; omega) rfl
theorem i_parts_rec {k : Bs} {gs : List Int} {l : List V} {v : Value} {us : List Value} {N : Nat → Prop} {w : World} (hgl : gs.length = l.length) (hr : RowN w N 137 2 v l.length (flatFV gs us)) (hm : PMany w N l us) (hll : l.length ≤ 1000000) :
  Calls Tryz.prog 77 #[.iface 85 v] w (RetParts w (.mk k [82] gs l)) := by
 obtain ⟨ao, cap, rfl, hcap, hxl, hh⟩ := hr.form
 have HR := Lib.hid hr; have HM := Lib.hid hm
 clear hr hm
 obtain ⟨n, hn⟩ : ∃ n, l.length = n := ⟨_, rfl⟩
 rw [hn] at hcap hxl hh hll HR ⊢
 have HGL := Lib.hid hgl; clear hgl
 have HN := Lib.hid hn; clear hn
 have HH := Lib.hid hh; clear hh
 go_enter Tryz.func77, Tryz.ntmps77
 go_wp2_with fail
 go_loopw [7, 34] (fun x i wr => ∃ j : Nat, j ≤ n ∧ i = .int .i64 j ∧ Hid (wr.ownsRow w.heap.size 70 1 x (us.take j).length (us.take j)) ∧ Hid (Below w.heap.size w wr)) (fun _ i _ => n - (intOf i).toNat)
 case atStart => exact ⟨0, by omega, rfl, World.ownsRow_nil _ _ _ _, Below.refl _ _⟩
 case round =>
  obtain ⟨j, hj, rfl, hS, hb⟩ := hrel
  obtain ⟨ax, cx, rfl⟩ := slice_form hS.out
  have e1 : (us.take j).length = j := by simp; have := HM.out.1; have := HN.out; omega
  rw [e1] at hS ⊢
  have E1 := Lib.hid e1; clear e1
  by_cases hjn : j < n
  ·obtain ⟨g, rfl⟩ : ∃ g, ao = some ⟨g, 0, none⟩ := by
    rcases HH.out with ⟨_, h0⟩ | ⟨g, h0, -⟩
    ·omega
    ·exact ⟨g, h0⟩
   have hjl : j < l.length := by rw [HN.out]; exact hjn
   have hju : j < us.length := by rw [HM.out.1]; exact hjl
   have hjg : j < gs.length := by rw [HGL.out]; exact hjl
   obtain ⟨f0, f1⟩ := flatFV_get gs us j hjg hju
   have x0 := (HR.out.belowed hb.out).cell (j * 2) (by omega)
   have x1 := (HR.out.belowed hb.out).cell (j * 2 + 1) (by omega)
   rw [f0] at x0
   rw [f1] at x1
   obtain ⟨T, y, g', hu, -⟩ := (HM.out.2 j hjl hju).isT
   obtain ⟨q, hq⟩ : ∃ q, gs[j] = q := ⟨_, rfl⟩
   rw [hq] at x0
   rw [hu] at x1
   have HTK := Lib.hid (show us.take (j + 1) = us.take j ++ [.iface T y] by rw [List.take_succ_eq_append_getElem hju, hu])
   have HTL := Lib.hid (show (us.take (j + 1)).length = j + 1 by simp; omega)
   have hz := hb.out.size
   have hL9 : (us.take j).length ≤ 3000000 := by rw [E1.out]; omega
   clear f0 f1 hq hu
   have HS1 := Lib.hid (show (wr.alloc (.cells #[.int .i64 q, .iface T y] 137)).ownsRow w.heap.size 70 1 (.slice ax j cx) (us.take j).length (us.take j) by
    rw [E1.out]
    exact hS.out.kept (grown_of_below (below_alloc (Below.refl _ _) _) none) (by
     cases hv : (Value.slice ax j cx).ownBlock with
     | none => exact .inl rfl
     | some g => exact .inr (by simp)))
   have HS2 := Lib.hid (show ((wr.alloc (.cells #[.int .i64 q, .iface T y] 137)).alloc (.cells #[.iface T y] 70)).ownsRow w.heap.size 70 1 (.slice ax j cx) (us.take j).length (us.take j) from
    HS1.out.kept (grown_of_below (below_alloc (Below.refl _ _) _) none) (by
     cases hv : (Value.slice ax j cx).ownBlock with
     | none => exact .inl rfl
     | some g => exact .inr (by simp)))
   clear hS HS1
   go_wp2_with (first | (at_builtin; refine app_pv rfl _ _ rfl w.heap.size _ _ rfl HS2.out ⟨wr.heap.size + 1, 0, none⟩ (.iface T y) rfl rfl ?c1 hL9 ?c2 ?_))
   case c1 => simp [go_sem]
   case c2 => simp; omega
   intro v' w' hS' hb' hg'
   have ES := Lib.hid (show w'.ownsRow w.heap.size 70 1 v' (us.take (j + 1)).length (us.take (j + 1)) by rw [HTL.out, HTK.out]; have h9 := hS'; rw [show min j us.length = j by omega] at h9; exact h9)
   have hbe := Lib.hid (show Below w.heap.size w w' from (below_alloc (below_alloc hb.out _) _).trans hb')
   clear hS' hg' hb' HS2 x0 x1
   go_wp2_with fail
   go_roundw
   case rel => exact ⟨j + 1, by omega, by go_num, ES.out, hbe.out⟩
   case measure => simp [intOf]; omega
  ·obtain rfl : n = j := by omega
   have hall : us.take n = us := List.take_of_length_le (by have := HM.out.1; have := HN.out; omega)
   rw [hall] at hS
   have HF := Lib.hid (show RowN wr (fun _ => True) 70 1 (.slice ax n cx) (V.mk k [82] gs l).kids.length us from ⟨by rw [show (V.mk k [82] gs l).kids.length = n from HN.out]; exact World.ownsRow.mono hS.out (Nat.zero_le _), fun _ _ => trivial⟩)
   clear hall
   go_wp2_with fail
   go_ret
   exact ⟨_, us, rfl, HF.out, (HM.out.belowed hb.out).imp (fun _ _ _ => trivial), hb.out⟩
theorem i_partsOf {x : V} {u : Value} {N : Nat → Prop} {w : World} (hp : PAt w N x u) (hll : x.kids.length ≤ 1000000) : Calls Tryz.prog 77 #[u] w (RetParts w x) := by
 cases hp with
 | num n h0 h1 =>
  go_enter Tryz.func77, Tryz.ntmps77
  go_wp2_with fail
  go_ret
  exact RetParts.none rfl (by (repeat (first | with_reducible exact Below.refl _ _ | with_reducible apply below_drew | with_reducible apply below_draws | with_reducible apply below_alloc | with_reducible apply below_set | (with_reducible refine below_trans ?_ (by assumption)) | (with_reducible refine Below.trans ?_ (by assumption)) | exact Nat.le_refl _ | omega | (simp <;> omega))))
 | txt x h =>
  go_enter Tryz.func77, Tryz.ntmps77
  go_wp2_with fail
  go_ret
  exact RetParts.none rfl (by (repeat (first | with_reducible exact Below.refl _ _ | with_reducible apply below_drew | with_reducible apply below_draws | with_reducible apply below_alloc | with_reducible apply below_set | (with_reducible refine below_trans ?_ (by assumption)) | (with_reducible refine Below.trans ?_ (by assumption)) | exact Nat.le_refl _ | omega | (simp <;> omega))))
 | flg b =>
  go_enter Tryz.func77, Tryz.ntmps77
  go_wp2_with fail
  go_ret
  exact RetParts.none rfl (by (repeat (first | with_reducible exact Below.refl _ _ | with_reducible apply below_drew | with_reducible apply below_draws | with_reducible apply below_alloc | with_reducible apply below_set | (with_reducible refine below_trans ?_ (by assumption)) | (with_reducible refine Below.trans ?_ (by assumption)) | exact Nat.le_refl _ | omega | (simp <;> omega))))
 | non k h =>
  go_enter Tryz.func77, Tryz.ntmps77
  go_wp2_with fail
  go_ret
  exact RetParts.none rfl (by (repeat (first | with_reducible exact Below.refl _ _ | with_reducible apply below_drew | with_reducible apply below_draws | with_reducible apply below_alloc | with_reducible apply below_set | (with_reducible refine below_trans ?_ (by assumption)) | (with_reducible refine Below.trans ?_ (by assumption)) | exact Nat.le_refl _ | omega | (simp <;> omega))))
 | enm k h g h0 h1 =>
  go_enter Tryz.func77, Tryz.ntmps77
  go_wp2_with fail
  go_ret
  exact RetParts.none rfl (by (repeat (first | with_reducible exact Below.refl _ _ | with_reducible apply below_drew | with_reducible apply below_draws | with_reducible apply below_alloc | with_reducible apply below_set | (with_reducible refine below_trans ?_ (by assumption)) | (with_reducible refine Below.trans ?_ (by assumption)) | exact Nat.le_refl _ | omega | (simp <;> omega))))
 | @som k h x u hx =>
  obtain ⟨T, y, g', rfl, -⟩ := hx.isT
  have HX := Lib.hid hx; clear hx
  go_enter Tryz.func77, Tryz.ntmps77
  go_wp2_with fail
  go_ret
  exact ⟨_, [.iface T y], rfl, ⟨World.ownsRow.mono (by have := row_one (w.alloc (.cells #[.iface T y] 154)) (.iface T y) 0 (Nat.zero_le _); simpa [V.kids] using this) (Nat.le_refl _), fun _ _ => trivial⟩, ⟨rfl, by
   intro i h1 h2
   obtain rfl : i = 0 := by simp [V.kids] at h1; omega
   exact (HX.out.belowed (by (repeat (first | with_reducible exact Below.refl _ _ | with_reducible apply below_drew | with_reducible apply below_draws | with_reducible apply below_alloc | with_reducible apply below_set | (with_reducible refine below_trans ?_ (by assumption)) | (with_reducible refine Below.trans ?_ (by assumption)) | exact Nat.le_refl _ | omega | (simp <;> omega))))).imp (fun _ _ _ => trivial)⟩, by (repeat (first | with_reducible exact Below.refl _ _ | with_reducible apply below_drew | with_reducible apply below_draws | with_reducible apply below_alloc | with_reducible apply below_set | (with_reducible refine below_trans ?_ (by assumption)) | (with_reducible refine Below.trans ?_ (by assumption)) | exact Nat.le_refl _ | omega | (simp <;> omega)))⟩
 | @uni k h g h0 h1 x u hx =>
  obtain ⟨T, y, g', rfl, -⟩ := hx.isT
  have HX := Lib.hid hx; clear hx
  go_enter Tryz.func77, Tryz.ntmps77
  go_wp2_with fail
  go_ret
  exact ⟨_, [.iface T y], rfl, ⟨World.ownsRow.mono (by have := row_one (w.alloc (.cells #[.int .i64 g, .iface T y] 157)) (.iface T y) 0 (Nat.zero_le _); simpa [V.kids] using this) (Nat.le_refl _), fun _ _ => trivial⟩, ⟨rfl, by
   intro i h1 h2
   obtain rfl : i = 0 := by simp [V.kids] at h1; omega
   exact (HX.out.belowed (by (repeat (first | with_reducible exact Below.refl _ _ | with_reducible apply below_drew | with_reducible apply below_draws | with_reducible apply below_alloc | with_reducible apply below_set | (with_reducible refine below_trans ?_ (by assumption)) | (with_reducible refine Below.trans ?_ (by assumption)) | exact Nat.le_refl _ | omega | (simp <;> omega))))).imp (fun _ _ _ => trivial)⟩, by (repeat (first | with_reducible exact Below.refl _ _ | with_reducible apply below_drew | with_reducible apply below_draws | with_reducible apply below_alloc | with_reducible apply below_set | (with_reducible refine below_trans ?_ (by assumption)) | (with_reducible refine Below.trans ?_ (by assumption)) | exact Nat.le_refl _ | omega | (simp <;> omega)))⟩
 | lst k h us hr hus hh =>
  obtain ⟨ao, cap, rfl, hcap, hxl, -⟩ := hr.form
  have HR := Lib.hid hr
  have HM := Lib.hid (⟨hus, hh⟩ : PMany w N _ us)
  clear hr hus hh
  go_enter Tryz.func77, Tryz.ntmps77
  go_wp2_with fail
  go_ret
  exact ⟨_, us, rfl, RowN.imp HR.out (fun _ _ _ => trivial), PMany.imp HM.out (fun _ _ _ => trivial), Below.refl _ _⟩
 | rcd k h us hgl hgb hr hus hh => exact i_parts_rec hgl hr ⟨hus, hh⟩ hll
theorem PAt.deep {w : World} {N : Nat → Prop} {x : V} {u : Value} (h : PAt w N x u) : deepV x ≤ (outV x).length := by
 induction h with
 | num n => rw [out_plain (by decide) (by decide) (by decide)]; exact dec_pos n
 | txt x => rw [out_plain (by decide) (by decide) (by decide)]; simp [deepV, deepsV]
 | flg b => rw [out_plain (by decide) (by decide) (by decide)]; cases b <;> simp [flagT, deepV, deepsV]
 | non k h => rw [out_none h]; simp [deepV, deepsV]
 | som k h _ ih => rw [out_some h]; simp [deepV, deepsV]; omega
 | lst k h us hr hl hh ih =>
  rename_i l v
  rw [out_list h, deepV]
  have : deepsV l ≤ (joinC (l.map outV)).length := by
   rw [deepsV_le]
   intro x hx
   obtain ⟨i, hi, rfl⟩ := List.getElem_of_mem hx
   exact Nat.le_trans (ih i hi (by rw [hl]; exact hi)) (joinC_len _ _ (List.mem_map.2 ⟨_, hx, rfl⟩))
  simp; omega
 | enm k h => rw [out_enum h]; simp [deepV, deepsV]
 | uni k h g h0 h1 _ ih => rw [out_union h]; simp [deepV, deepsV]; omega
 | rcd k h us hg hgb hr hl hh ih =>
  rename_i gs l v
  rw [out_record h (by decide) (by decide), deepV]
  have : deepsV l ≤ (joinC (toldL gs (l.map outV))).length := by
   rw [deepsV_le]
   intro x hx
   obtain ⟨i, hi, rfl⟩ := List.getElem_of_mem hx
   have h1 := ih i hi (by rw [hl]; exact hi)
   have hL := toldL_len gs (l.map outV) (by simp [hg])
   have hi2 : i < (toldL gs (l.map outV)).length := by rw [hL]; simpa using hi
   have h2 := joinC_len _ _ (List.getElem_mem hi2)
   rw [toldL_get gs (l.map outV) i (by omega) (by simpa using hi)] at h2
   simp at h2; omega
  simp; omega
theorem PAt.kid_len {w : World} {N : Nat → Prop} {x : V} {u : Value} (h : PAt w N x u) : x.kids.length ≤ (outV x).length ∧ ∀ y ∈ x.kids, (outV y).length ≤ (outV x).length := by
 cases h with
 | num n => exact ⟨by simp [V.kids], by simp [V.kids]⟩
 | txt x => exact ⟨by simp [V.kids], by simp [V.kids]⟩
 | flg b => exact ⟨by simp [V.kids], by simp [V.kids]⟩
 | non k h => exact ⟨by simp [V.kids], by simp [V.kids]⟩
 | som k h hx => exact ⟨by rw [out_some h]; simp [V.kids], by intro y hy; simp [V.kids] at hy; subst hy; exact some_len h⟩
 | lst k h us hr hl hh =>
  have := PMany.cnt ⟨hl, hh⟩
  refine ⟨by rw [out_list h]; simp [V.kids] <;> omega, ?_⟩
  intro y hy
  obtain ⟨i, hi, rfl⟩ := List.getElem_of_mem hy
  exact list_len h i hi
 | enm k h => exact ⟨by simp [V.kids], by simp [V.kids]⟩
 | uni k h g h0 h1 hx => exact ⟨by rw [out_union h]; simp [V.kids] <;> omega, by intro y hy; simp [V.kids] at hy; subst hy; exact union_len h⟩
 | rcd k h us hg hgb hr hl hh =>
  refine ⟨record_cnt h (by decide) (by decide) hg, ?_⟩
  intro y hy
  obtain ⟨i, hi, rfl⟩ := List.getElem_of_mem hy
  exact record_len h (by decide) (by decide) hg i hi
def Deeps (x : V) : Prop := ∀ (u : Value) (N : Nat → Prop) (w : World), PAt w N x u → (outV x).length ≤ 1000000 → Calls Tryz.prog 48 #[u] w fun e w' => e = .returned (.int .i64 (deepV x)) ∧ Below w.heap.size w w'
theorem i_deepOf (x : V) : Deeps x := by
 refine V.ind (fun k t gs l ih => ?_) x
 intro u N w hp hl
 obtain ⟨hk1, hk2⟩ := hp.kid_len
 have hd := hp.deep
 rw [show (V.mk k t gs l).kids = l from rfl] at hk1 hk2
 have HP := Lib.hid (i_partsOf hp (by show l.length ≤ _; omega))
 have IH := Lib.hid (fun (j : Nat) (hj : j < l.length) (u : Value) (N : Nat → Prop) (w : World) (h : PAt w N l[j] u) => ih l[j] (List.getElem_mem hj) u N w h (by have := hk2 _ (List.getElem_mem hj); omega))
 have HDV := Lib.hid (show deepV (.mk k t gs l) = deepsV l + 1 by rw [deepV])
 have hdl : deepsV l ≤ 1000000 := by have := HDV.out; omega
 have HS := Lib.hid (fun (j : Nat) (hj : j < l.length) => (by rw [List.take_succ_eq_append_getElem hj, deepsV_snoc] : deepsV (l.take (j + 1)) = max (deepsV (l.take j)) (deepV l[j])))
 have hll : l.length ≤ 1000000 := by omega
 clear ih hp hl hk1 hk2 hd
 go_enter Tryz.func48, Tryz.ntmps48
 go_wp2_with fail
 refine HP.out.mono ?_
 rintro e w1 ⟨v, us, rfl, hr, hm, hb1⟩
 rw [show (V.mk k t gs l).kids = l from rfl] at hr hm
 obtain ⟨ao, cap, rfl, hcap, hxl, hh⟩ := hr.form
 have HR := Lib.hid hr; have HM := Lib.hid hm; have HH := Lib.hid hh
 obtain ⟨n, hn⟩ : ∃ n, l.length = n := ⟨_, rfl⟩
 rw [hn] at hcap hxl HR HH hll ⊢
 have HN := Lib.hid hn
 clear hr hm hh HP hn
 go_wp2_with fail
 go_loopw [3, 9] (fun d i wr => ∃ j : Nat, j ≤ n ∧ i = .int .i64 j ∧ d = .int .i64 (deepsV (l.take j) : Nat) ∧ Hid (Below w1.heap.size w1 wr)) (fun _ i _ => n - (intOf i).toNat)
 case atStart => exact ⟨0, by omega, rfl, rfl, Below.refl _ _⟩
 case round =>
  obtain ⟨j, hj, rfl, rfl, hb⟩ := hrel
  by_cases hjn : j < n
  ·obtain ⟨g, rfl⟩ : ∃ g, ao = some ⟨g, 0, none⟩ := by
    rcases HH.out with ⟨_, h0⟩ | ⟨g, h0, -⟩
    ·omega
    ·exact ⟨g, h0⟩
   have hjl : j < l.length := by rw [HN.out]; exact hjn
   have hju : j < us.length := by rw [HM.out.1]; exact hjl
   have x0 := (HR.out.belowed hb.out).cell j (by omega)
   rw [List.getElem?_eq_getElem hju] at x0
   have HC := Lib.hid (fun W (hbw : Below wr.heap.size wr W) => IH.out j hjl us[j] _ W (((HM.out.belowed hb.out).2 j hjl hju).belowed hbw))
   have HE := Lib.hid (HS.out j hjl)
   obtain ⟨u, hu⟩ : ∃ u, us[j] = u := ⟨_, rfl⟩
   obtain ⟨a, ha⟩ : ∃ a, deepsV (l.take j) = a := ⟨_, rfl⟩
   obtain ⟨b, hbb⟩ : ∃ b, deepV l[j] = b := ⟨_, rfl⟩
   rw [hu] at x0 HC
   rw [hbb] at HC HE
   rw [ha] at HE ⊢
   clear hu ha hbb
   go_wp2_with fail
   refine (HC.out _ (Below.refl _ _)).mono ?_
   rintro e w2 ⟨rfl, hb2⟩
   go_wp2_with fail
   go_roundw
   case rel => exact ⟨j + 1, by omega, by go_num, (by rw [HE.out]; first | rfl | (congr 1; omega)), below_trans hb.out hb2⟩
   case measure => simp [intOf]; omega
  ·obtain rfl : n = j := by omega
   have hall : l.take n = l := List.take_of_length_le (by rw [HN.out]; exact Nat.le_refl _)
   rw [hall]
   have e1 : IntKind.i64.wrap ((deepsV l : Int) + 1) = (deepsV l : Int) + 1 := IntWalk.i64_in _ (by omega)
   clear hall
   go_wp2_with fail
   go_ret
   exact ⟨ret_i (by rw [HDV.out]; rfl), below_trans hb1 hb.out⟩
theorem i_readText (s : Bs) (w : World) (hs : s.length ≤ 1000000) :
  Calls Tryz.prog 100 #[.string (S s)] w (RetP w ((textP s).map fun y => (.mk [116] (39 :: (y.1 ++ [39])) [] [], y.2))) := by
 have HC := Lib.hid (fun w => i_SplitN s w hs)
 rcases textP_split s with ⟨hF, hlt⟩ | ⟨a, m, r, hS, ha, hm, hr, hF⟩
 ·rw [hF]
  clear hF
  obtain ⟨L, hL⟩ : ∃ L, splitS s = L := ⟨_, rfl⟩
  rw [hL] at HC hlt
  clear hL
  obtain ⟨n, hn⟩ : ∃ n, L.length = n := ⟨_, rfl⟩
  go_enter Tryz.func100, Tryz.ntmps100
  go_wp2_with fail
  refine (HC.out _).mono ?_
  rintro e w1 ⟨v, rfl, hv, hb1⟩
  obtain ⟨ao, cap, rfl, -, -⟩ := hv.form
  rw [hn] at hlt ⊢
  clear hv hn
  have hlt2 : (n : Int) < 3 := by omega
  go_wp2_with fail
  go_ret3
  exact RetP.no rfl rfl (by simp) hb1
 ·rw [hF]
  rw [hS] at HC
  have hq : a = [] ∧ txtB m = true ∨ ¬ a = [] ∨ (a = [] ∧ txtB m = false) := by
   by_cases h : a = []
   ·cases h2 : txtB m <;> simp [h]
   ·exact .inr (.inl h)
  have HT := Lib.hid (fun w => i_isText m w (by omega))
  have hrl : r.length ≤ 2000000 := by omega
  have hml : txtB m = true → m.length ≤ 12 := by intro h; unfold txtB at h; simp at h; exact h.1
  clear hF hS ha hm hr
  rcases hq with ⟨rfl, hq⟩ | hq | ⟨rfl, hq⟩
  ·rw [if_pos ⟨rfl, hq⟩]
   rw [hq] at HT
   have hm12 := hml hq
   clear hml hq
   go_enter Tryz.func100, Tryz.ntmps100
   go_wp2_with fail
   refine (HC.out _).mono ?_
   rintro e w1 ⟨v, rfl, hv, hb1⟩
   obtain ⟨ao, cap, rfl, hcap, ⟨rfl, h0⟩ | ⟨g, rfl, -, -⟩⟩ := hv.form
   ·cases h0
   have x0 := hv.cell 0 (by simp)
   have x1 := hv.cell 1 (by simp)
   have x2 := hv.cell 2 (by simp)
   simp at x0 x1 x2 hcap
   clear hv
   go_wp2_with (go_at_call 125; refine (HT.out _).mono ?_; rintro e w' ⟨rfl, rfl⟩)
   go_quiet (fail)
   go_wp2_with fail
   go_ret3
   exact RetP.yes rfl hrl (by (repeat (first | with_reducible exact Below.refl _ _ | with_reducible apply below_drew | with_reducible apply below_draws | with_reducible apply below_alloc | with_reducible apply below_set | (with_reducible refine below_trans ?_ (by assumption)) | (with_reducible refine Below.trans ?_ (by assumption)) | exact Nat.le_refl _ | omega | (simp <;> omega)))) (.txt m hm12)
  ·rw [if_neg (fun h => hq h.1)]
   have hq1 : (a != []) = true := by simpa using hq
   go_enter Tryz.func100, Tryz.ntmps100
   go_wp2_with fail
   refine (HC.out _).mono ?_
   rintro e w1 ⟨v, rfl, hv, hb1⟩
   obtain ⟨ao, cap, rfl, hcap, ⟨rfl, h0⟩ | ⟨g, rfl, -, -⟩⟩ := hv.form
   ·cases h0
   have x0 := hv.cell 0 (by simp)
   simp at x0 hcap
   clear hv
   go_wp2_with fail
   go_ret3
   exact RetP.no rfl rfl (by simp) hb1
  ·rw [if_neg (fun h => by rw [hq] at h; cases h.2)]
   rw [hq] at HT
   clear hml hq
   go_enter Tryz.func100, Tryz.ntmps100
   go_wp2_with fail
   refine (HC.out _).mono ?_
   rintro e w1 ⟨v, rfl, hv, hb1⟩
   obtain ⟨ao, cap, rfl, hcap, ⟨rfl, h0⟩ | ⟨g, rfl, -, -⟩⟩ := hv.form
   ·cases h0
   have x0 := hv.cell 0 (by simp)
   have x1 := hv.cell 1 (by simp)
   simp at x0 x1 hcap
   clear hv
   go_wp2_with (go_at_call 125; refine (HT.out _).mono ?_; rintro e w' ⟨rfl, rfl⟩)
   go_ret3
   exact RetP.no rfl rfl (by simp) hb1
end Go.Proofs.YtcjooeklehggaaaGreatDoor
