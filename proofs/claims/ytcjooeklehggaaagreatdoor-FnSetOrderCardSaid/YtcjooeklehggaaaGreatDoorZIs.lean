/- Lemmas of this seat. -/
import Derived.Maps.Own
import Derived.Maps.OwnSet
import Derived.Maps.Views
import Derived.Test.YtcjooeklehggaaaGreatDoorZBs
import Derived.Test.YtcjooeklehggaaaGreatDoorZHs
set_option linter.unusedVariables false
set_option linter.unusedSimpArgs false
set_option maxRecDepth 100000
namespace Go.Proofs.YtcjooeklehggaaaGreatDoor
open Go.ChangeShapes Go.WideShapes Go.ChangeAt Go.RowKit M
open Go.Maps
def ptrR (v : Value) : Option (DataW Empty × List MemPlace) :=
 match v with
 | .pointer none => some (.lit (.int .i64 0), [])
 | .pointer (some ⟨b, 0, none⟩) => some (.lit (.int .i64 (b + 1)), [])
 | _ => none
def ptrV (o : Option Nat) : Value := .pointer (o.map fun b => ⟨b, 0, none⟩)
def ptrD (o : Option Nat) : DataW Empty := .lit (.int .i64 (match o with | none => 0 | some b => (b : Int) + 1))
theorem ptrR_V (o : Option Nat) : ptrR (ptrV o) = some (ptrD o, []) := by cases o <;> rfl
theorem ptrD_none : ptrD none = .lit (.int .i64 0) := rfl
theorem ptrD_some (b : Nat) : ptrD (some b) = .lit (.int .i64 ((b : Int) + 1)) := rfl
theorem ptrR_inv {v : Value} {o : Option Nat} {ps : List MemPlace} (h : ptrR v = some (ptrD o, ps)) : v = ptrV o := by
 unfold ptrR at h
 split at h
 ·simp only [Option.some.injEq, Prod.mk.injEq] at h
  have h1 := h.1
  cases o with
  | none => rfl
  | some b => rw [ptrD_some] at h1; injection h1 with h1; injection h1 with _ h1; omega
 ·rename_i b0
  simp only [Option.some.injEq, Prod.mk.injEq] at h
  have h1 := h.1
  cases o with
  | none => rw [ptrD_none] at h1; injection h1 with h1; injection h1 with _ h1; omega
  | some b =>
   rw [ptrD_some] at h1; injection h1 with h1; injection h1 with _ h1
   have e : b0 = b := by omega
   subst e; rfl
 ·cases h
def nameD (L : List (Bs × Nat)) : DataW Empty := L.foldl (fun D p => D.put (.string p.1) (ptrD (some p.2))) (.map [])
def nameAt : List (Bs × Nat) → Bs → Option Nat
 | [], _ => none
 | p :: L, n => match nameAt L n with
  | some b => some b
  | none => if p.1 = n then some p.2 else none
theorem foldD_at (L : List (Bs × Nat)) (n : Bs) (D : DataW Empty) (hD : IsMap D) : IsMap (L.foldl (fun D p => D.put (.string p.1) (ptrD (some p.2))) D) ∧
  (L.foldl (fun D p => D.put (.string p.1) (ptrD (some p.2))) D).atKey (.string n) (ptrD none) = match nameAt L n with | some b => ptrD (some b) | none => D.atKey (.string n) (ptrD none) := by
 induction L generalizing D with
 | nil => exact ⟨hD, rfl⟩
 | cons p L ih =>
  obtain ⟨h1, h2⟩ := ih (D.put (.string p.1) (ptrD (some p.2))) (hD.put _ _)
  refine ⟨h1, ?_⟩
  rw [List.foldl_cons, h2, nameAt]
  cases nameAt L n with
  | some b => rfl
  | none =>
   simp only
   by_cases h : p.1 = n
   ·rw [if_pos h, h]; exact atKey_put_same (k := .string n) hD trivial _ _
   ·rw [if_neg h]; exact atKey_put_other (by intro e; injection e with e; exact h e.symm) _ _
theorem nameD_at (L : List (Bs × Nat)) (n : Bs) : (nameD L).atKey (.string n) (ptrD none) = ptrD (nameAt L n) := by
 unfold nameD
 rw [(foldD_at L n _ isMap_empty).2]
 cases nameAt L n <;> rfl
theorem nameD_put (L : List (Bs × Nat)) (n : Bs) (b : Nat) : (nameD L).put (.string n) (ptrD (some b)) = nameD (L ++ [(n, b)]) := by unfold nameD; rw [List.foldl_append]; rfl
def NMap (w : World) (b : Nat) (L : List (Bs × Nat)) : Prop := w.ownsMap Tryz.prog 9 ptrR b L.length (nameD L)
theorem str_keyed : Keyed Tryz.prog 9 := string_keyed Tryz.underlying9
theorem NMap.new (w : World) : NMap (w.alloc (.map #[] 0)) w.heap.size [] := World.ownsMap_made w Tryz.prog _ _
theorem NMap.alloc {w : World} {b : Nat} {L : List (Bs × Nat)} (h : NMap w b L) (o : Obj) : NMap (w.alloc o) b L := World.ownsMap.alloc h o
theorem NMap.kept {w w' : World} {b : Nat} {L : List (Bs × Nat)} {row : Option Nat} (h : NMap w b L) (hg : w.grownBy w' row) (hne : some b ≠ row) : NMap w' b L := World.ownsMap.kept h hg hne
theorem NMap.below {w w' : World} {b : Nat} {L : List (Bs × Nat)} (h : NMap w b L) (hb : Below w.heap.size w w') : NMap w' b L := h.kept (grown_of_below hb none) (by simp)
theorem S_key (n : Bs) (hn : n.length ≤ 2000000) : keyOf Tryz.prog 9 (.string (S n)) = some (.string n) := WideMaps.keyOf_string_mk (P := Tryz.prog) Tryz.underlying9 (by rw [S_size]; unfold maxLen; omega)
theorem NMap.look {w : World} {b : Nat} {L : List (Bs × Nat)} (h : NMap w b L) (n : Bs) (hn : n.length ≤ 2000000) :
  (Instr.lookup 108 (.map (some b)) (.string (S n)) false).run Tryz.prog w = .ok (ptrV (nameAt L n)) w := by
 obtain ⟨v, ps, hrun, hv⟩ := World.ownsMap.lookup (t := 108) h str_keyed Tryz.underlying108 (z := .pointer none) (by simp [zeroValue]; rfl) (show ptrR (.pointer none) = some (ptrD none, []) from rfl) (S_key n hn)
 rw [nameD_at] at hv
 rw [hrun, ptrR_inv hv]
theorem NMap.put {w : World} {b : Nat} {L : List (Bs × Nat)} (h : NMap w b L) (n : Bs) (hn : n.length ≤ 2000000) (hL : L.length ≤ 1000) (q : Nat) :
  ∃ w', (Instr.mapUpdate 108 (.map (some b)) (.string (S n)) (ptrV (some q))).run Tryz.prog w = .ok () w' ∧ NMap w' b (L ++ [(n, q)]) ∧ w.grownBy w' (some b) := by
 obtain ⟨w', hrun, h1, h2⟩ := World.ownsMap.update (t := 108) h str_keyed Tryz.underlying108 (by unfold maxLen; omega) (S_key n hn) (ptrR_V (some q))
 rw [nameD_put] at h1
 exact ⟨w', hrun, (by unfold NMap; simpa using h1), h2⟩
abbrev pv (b : Nat) : Value := .pointer (some ⟨b, 0, none⟩)
def Ptrs (w : World) (B : Nat) (v : Value) (L : List Nat) : Prop := w.ownsRow B 48 1 v L.length (L.map pv)
theorem info_ptr : (Tryz.prog.info? 48).map (fun i => (i.zero, i.size, i.bytes)) = some (some (.pointer none), 1, 8) := by kernel_rfl
theorem Ptrs.below {w w' : World} {B : Nat} {v : Value} {L : List Nat} (h : Ptrs w B v L) (hb : Below w.heap.size w w') : Ptrs w' B v L := by
 unfold Ptrs at *
 cases hv : v.ownBlock with
 | none => exact h.kept (grown_of_below hb none) (.inl hv)
 | some g => exact h.kept (row := none) (grown_of_below hb none) (.inr (by rw [hv]; simp))
theorem Ptrs.form {w : World} {B : Nat} {v : Value} {L : List Nat} (h : Ptrs w B v L) : ∃ ao cap, v = .slice ao L.length cap ∧ L.length ≤ cap ∧
  (ao = none ∧ L = [] ∨ ∃ g, ao = some ⟨g, 0, none⟩ ∧ B ≤ g ∧ g < w.heap.size) := by
 rcases h.2 with ⟨rfl, hn⟩ | ⟨g, cap, cur, rfl, hb, hg, hnc, hm, hs, ht⟩
 ·rw [hn]; exact ⟨none, 0, rfl, Nat.le_refl _, .inl ⟨rfl, List.eq_nil_of_length_eq_zero hn⟩⟩
 ·exact ⟨_, cap, rfl, hnc, .inr ⟨g, rfl, hb, (Array.getElem?_eq_some_iff.1 hg).1⟩⟩
theorem Ptrs.cell {w : World} {B g n cap : Nat} {L : List Nat} (h : Ptrs w B (.slice (some ⟨g, 0, none⟩) n cap) L) (k : Nat) (hk : k < L.length) : w.cell? ⟨g, k, none⟩ = some (pv (L.getD k 0)) := by
 obtain ⟨ao, c, hv, -, -⟩ := h.form
 obtain ⟨rfl, rfl, rfl⟩ : n = L.length ∧ cap = c ∧ ao = _ := by injection hv with h1 h2 h3; exact ⟨h2, h3, h1.symm⟩
 rw [World.ownsRow.cellAt h k (by omega)]
 simp [pv, hk]
theorem app_ptr {w : World} {ops : Array Oper} {rest : List Oper} {o : Oper} {a : Act} {Q : Exit → Act → World → Prop} (hgd : o.guard = none) (s x : Operand)
  (ho : o.op = .call { callee := .builtin .append, args := #[s, x], argTypes := #[107, 107] })
  (B : Nat) (v : Value) (L : List Nat) (hs : a.eval s = v) (hown : Ptrs w B v L) (ad : Addr) (y : Nat) (hx : a.eval x = .slice (some ad) 1 1) (hc : w.cell? ad = some (pv y))
  (hn : L.length ≤ 3000000) (hB : B ≤ w.heap.size)
  (h : ∀ v' w', Ptrs w' B v' (L ++ [y]) → Below B w w' → w.grownBy w' v.ownBlock → wpList Tryz.prog ops Q rest (a.put o.dst v') w') : wpList Tryz.prog ops Q (o :: rest) a w := by
 refine app_gen hgd s x 107 ho B 48 (.pointer none) 1 8 Tryz.underlying107 info_ptr rfl (by omega) (by omega) v L.length (L.map pv) hs hown ad 1 1 [pv y] hx rfl ?_ ?_ (by omega) hB (fun v' w' h1 h2 h3 => h v' w' ?_ h2 h3)
 ·intro j u hj
  match j, hj with
  | 0, hj => simp at hj; subst hj; simpa [Addr.add] using hc
 ·intro u hu; simp at hu; subst hu; rfl
 ·unfold Ptrs; rw [List.length_append, List.map_append]; exact h1
def SetAt (w : World) (B p : Nat) (ts : List (Ty × Nat)) : Prop := ∃ v m, Blk w p 110 #[v, .map (some m)] ∧ Ptrs w B v (ts.map (·.2)) ∧ NMap w m (ts.map fun x => (x.1.name, x.2)) ∧ (∀ x ∈ ts, TypeAt w B x.2 x.1) ∧ B ≤ p ∧ B ≤ m
theorem TypeAt.below {w w' : World} {B b : Nat} {t : Ty} (h : TypeAt w B b t) (hb : Below w.heap.size w w') : TypeAt w' B b t := by
 obtain ⟨c, v, hc, hk, hp, hB⟩ := h
 exact ⟨c, v, hc, hk.keep hb, hp.below hb, hB⟩
theorem PFlds.beside {w w' : World} {B : Nat} {v : Value} {fs : List PF} {row : Option Nat} (h : PFlds w B v fs) (hg : w.grownBy w' row) (hr : ∀ r o, row = some r → w.heap[r]? = some o → ∀ cs s, o ≠ .cells cs 55 s) : PFlds w' B v fs := by
 refine h.kept hg ?_
 rcases h.2 with ⟨rfl, -⟩ | ⟨g', cap', cur, rfl, hb, hg', -⟩
 ·exact .inl rfl
 ·exact .inr (fun e => hr g' _ e.symm hg' _ _ rfl)
theorem TypeAt.beside {w w' : World} {B b : Nat} {t : Ty} {row : Option Nat} (h : TypeAt w B b t) (hg : w.grownBy w' row) (hr : ∀ r o, row = some r → w.heap[r]? = some o → ∀ cs s, o ≠ .cells cs 55 s ∧ o ≠ .cells cs 115 s) : TypeAt w' B b t := by
 obtain ⟨c, v, hc, hk, hp, hB⟩ := h
 exact ⟨c, v, hc, hk.row hg (fun e => (hr b _ e.symm hk _ _).2 rfl), hp.beside hg (fun r o e ho cs s => (hr r o e ho cs s).1), hB⟩
def namesOf (ts : List (Ty × Nat)) : List (Bs × Nat) := ts.map fun x => (x.1.name, x.2)
def addOk (ts : List (Ty × Nat)) (t : Ty) : Bool := decide (ts.length ≠ 8) && (nameAt (namesOf ts) t.name).isNone
def KeepTF (w w' : World) : Prop := ∀ (k : Nat) (cs : Array Value) (ty : TypeId) (s : Nat × Nat), (ty = 55 ∨ ty = 115) → w.heap[k]? = some (.cells cs ty s) → w'.heap[k]? = some (.cells cs ty s)
theorem KeepTF.below {w w' : World} (h : Below w.heap.size w w') : KeepTF w w' := by
 intro k cs ty s _ hk
 have hlt : k < w.heap.size := by
  rcases Nat.lt_or_ge k w.heap.size with hlt | hge
  ·exact hlt
  ·rw [Array.getElem?_eq_none hge] at hk; cases hk
 exact (h.block k hlt).trans hk
theorem KeepTF.grown {w w' : World} {row : Option Nat} (hg : w.grownBy w' row) (hr : ∀ r o, row = some r → w.heap[r]? = some o → ∀ cs s, o ≠ .cells cs 55 s ∧ o ≠ .cells cs 115 s) : KeepTF w w' := by
 intro k cs ty s ht hk
 have hlt : k < w.heap.size := by
  rcases Nat.lt_or_ge k w.heap.size with hlt | hge
  ·exact hlt
  ·rw [Array.getElem?_eq_none hge] at hk; cases hk
 by_cases e : some k = row
 ·exfalso
  have := hr k _ e.symm hk cs s
  rcases ht with rfl | rfl
  ·exact this.1 rfl
  ·exact this.2 rfl
 ·rw [hg.block k hlt e]; exact hk
theorem KeepTF.trans {w w' w'' : World} (h : KeepTF w w') (h' : KeepTF w' w'') : KeepTF w w'' := fun k cs ty s ht hk => h' k cs ty s ht (h k cs ty s ht hk)
set_option maxHeartbeats 4000000 in
theorem i_add_full (p b B : Nat) (t : Ty) (ts : List (Ty × Nat)) (w : World) (h : SetAt w B p ts) (ht : TypeAt w B b t) (h8 : ts.length = 8) :
  Calls Tryz.prog 90 #[.pointer (some ⟨p, 0, none⟩), .pointer (some ⟨b, 0, none⟩)] w fun e w' => e = .returned (.bool false) ∧ Below w.heap.size w w' := by
 obtain ⟨v, m, hk, hv, hm, hts, hp⟩ := h
 obtain ⟨ao, cap, rfl, -, -⟩ := hv.form
 have c0 := hk.cell 0
 have c1 := hk.cell 1
 simp at c0 c1
 rw [h8] at c0
 clear hk hv hm hts ht h8 hp
 go_enter Tryz.func90, Tryz.ntmps90
 go_wp2_with fail
 go_region
 go_wp2_with fail
 go_ret
 exact ⟨rfl, by (repeat (first | with_reducible exact Below.refl _ _ | with_reducible apply below_drew | with_reducible apply below_draws | with_reducible apply below_alloc | with_reducible apply below_set | (with_reducible refine below_trans ?_ (by assumption)) | (with_reducible refine Below.trans ?_ (by assumption)) | exact Nat.le_refl _ | omega | (simp <;> omega)))⟩
theorem SetAt.look {w : World} {m : Nat} {ts : List (Ty × Nat)} (hm : NMap w m (ts.map fun x => (x.1.name, x.2))) (n : Bs) (hn : n.length ≤ 2000000) :
  (Instr.lookup 108 (.map (some m)) (.string (S n)) false).run Tryz.prog w.drew = .ok (ptrV (nameAt (namesOf ts) n)) w.drew :=
 NMap.look (show NMap w.drew m (namesOf ts) from World.ownsMap.drew hm) n hn
set_option maxHeartbeats 4000000 in
theorem i_add_known (p b B q : Nat) (t : Ty) (ts : List (Ty × Nat)) (w : World) (h : SetAt w B p ts) (ht : TypeAt w B b t) (h8 : ts.length ≠ 8) (hn : t.name.length ≤ 2000000) (hq : nameAt (namesOf ts) t.name = some q) :
  Calls Tryz.prog 90 #[.pointer (some ⟨p, 0, none⟩), .pointer (some ⟨b, 0, none⟩)] w fun e w' => e = .returned (.bool false) ∧ Below w.heap.size w w' := by
 obtain ⟨v, m, hk, hv, hm, hts, hp⟩ := h
 obtain ⟨c, u, hc, hkt, -, -⟩ := ht
 obtain ⟨ao, cap, rfl, -, -⟩ := hv.form
 have c0 := hk.cell 0
 have c1 := hk.cell 1
 have d1 := hkt.cell 1
 simp at c0 c1 d1
 have hlook := SetAt.look hm t.name hn
 rw [hq] at hlook
 unfold ptrV at hlook
 simp at hlook
 have hlen : ((ts.length : Int) == 8) = false := by simp; omega
 clear hk hv hm hts h8 hp hkt hc hq
 generalize ts.length = n at *
 go_enter Tryz.func90, Tryz.ntmps90
 go_wp2_with fail
 go_region
 go_wp2_with fail
 go_ret
 exact ⟨rfl, by (repeat (first | with_reducible exact Below.refl _ _ | with_reducible apply below_drew | with_reducible apply below_draws | with_reducible apply below_alloc | with_reducible apply below_set | (with_reducible refine below_trans ?_ (by assumption)) | (with_reducible refine Below.trans ?_ (by assumption)) | exact Nat.le_refl _ | omega | (simp <;> omega)))⟩
theorem Ptrs.ne {w : World} {B g : Nat} {v : Value} {L : List Nat} {ty : TypeId} {cs : Array Value} (h : Ptrs w B v L) (k : Blk w g ty cs) (ht : ty ≠ 48) : some g ≠ v.ownBlock := by
 rcases h.2 with ⟨rfl, -⟩ | ⟨g', cap', cur, rfl, hb, hg', -⟩
 ·intro e; cases e
 ·intro e; injection e with e
  have e2 : g = g' := e
  subst e2
  rw [k] at hg'; injection hg' with hg'; injection hg' with _ h1 _; exact ht h1
theorem NMap.ne {w : World} {m g : Nat} {N : List (Bs × Nat)} {ty : TypeId} {cs : Array Value} (h : NMap w m N) (k : Blk w g ty cs) : some m ≠ some g := by
 obtain ⟨es, clock, hb, -⟩ := h
 intro e; injection e with e; subst e
 rw [k] at hb; injection hb with hb; cases hb
theorem NMap.neRow {w : World} {m B : Nat} {N : List (Bs × Nat)} {v : Value} {L : List Nat} (h : NMap w m N) (k : Ptrs w B v L) : some m ≠ v.ownBlock := by
 obtain ⟨es, clock, hb, -⟩ := h
 rcases k.2 with ⟨rfl, -⟩ | ⟨g', cap', cur, rfl, hb', hg', -⟩
 ·intro e; cases e
 ·intro e; injection e with e
  have e2 : m = g' := e
  subst e2
  rw [hg'] at hb; injection hb with hb; cases hb
set_option maxHeartbeats 4000000 in
theorem i_add_new (p b B : Nat) (t : Ty) (ts : List (Ty × Nat)) (w : World) (h : SetAt w B p ts) (ht : TypeAt w B b t) (h8 : ts.length < 8) (hB : B ≤ w.heap.size) (hn : t.name.length ≤ 2000000) (hq : nameAt (namesOf ts) t.name = none) :
  Calls Tryz.prog 90 #[.pointer (some ⟨p, 0, none⟩), .pointer (some ⟨b, 0, none⟩)] w fun e w' => e = .returned (.bool true) ∧ SetAt w' B p (ts ++ [(t, b)]) ∧ Below B w w' ∧ KeepTF w w' := by
 obtain ⟨v, m, hk, hv, hm, hts, hp1, hp2⟩ := h
 obtain ⟨c, u, hc, hkt, hfl, hbB⟩ := ht
 obtain ⟨L, hL⟩ : ∃ L, ts.map (·.2) = L := ⟨_, rfl⟩
 have hLl : L.length < 8 := by rw [← hL]; simpa using h8
 rw [hL] at hv
 obtain ⟨ao, cap, rfl, -, -⟩ := hv.form
 have c0 := hk.cell 0
 have c1 := hk.cell 1
 have d1 := hkt.cell 1
 simp at c0 c1 d1
 have hlook := SetAt.look hm t.name hn
 rw [hq] at hlook
 unfold ptrV at hlook
 simp at hlook
 have hlen : ((L.length : Int) == 8) = false := by simp; omega
 obtain ⟨X, hX⟩ : ∃ X, (w.alloc (.cells #[.pointer (some ⟨b, 0, none⟩)] 48)).drew = X := ⟨_, rfl⟩
 have hba : Below w.heap.size w X := by rw [← hX]; (repeat (first | exact Below.refl _ _ | apply below_drew | apply below_draws | apply below_alloc | (refine below_trans ?_ (by assumption)) | (refine Below.trans ?_ (by assumption))))
 have HKX := Lib.hid (hk.keep hba); have HVX := Lib.hid (hv.below hba); have HMX := Lib.hid (hm.below hba); have HKTX := Lib.hid (hkt.keep hba)
 have HTS := Lib.hid (fun x hx => (hts x hx).below hba); have HT := Lib.hid (TypeAt.below (t := t) ⟨c, u, hc, hkt, hfl, hbB⟩ hba)
 have HBW := Lib.hid (show X.cell? ⟨w.heap.size, 0, none⟩ = some (pv b) by rw [← hX]; exact (Blk.new w 48 #[.pointer (some ⟨b, 0, none⟩)]).cell 0)
 have HBX := Lib.hid (Nat.le_trans hB hba.size)
 have HBL := Lib.hid (hba.mono hB); have HLL := Lib.hid hL
 have HX := Lib.hid hX
 have hL3 : L.length ≤ 3000000 := by omega
 clear hk hv hm hts hkt hfl hc hq hba hL
 go_enter Tryz.func90, Tryz.ntmps90
 go_wp2_with fail
 go_region
 go_wp2_with (at_builtin; refine app_ptr ?hgd (.tmp 27) (.tmp 29) ?ho B (.slice ao L.length cap) L ?hs HVX.out ⟨w.heap.size, 0, none⟩ b ?hx HBW.out hL3 HBX.out ?hh; (case hgd => rfl); (case ho => rfl); (case hs => rfl); (case hx => rfl); intro v' w3 hp3 hb3 hg3; have HK3 := Lib.hid (HKX.out.row hg3 (HVX.out.ne HKX.out (by decide))); have HKT3 := Lib.hid (HKTX.out.row hg3 (HVX.out.ne HKTX.out (by decide))); have HM3 := Lib.hid (HMX.out.kept hg3 (HMX.out.neRow HVX.out)); have HTS3 := Lib.hid hg3; obtain ⟨ao3, cap3, rfl, -, -⟩ := hp3.form; have HP3 := Lib.hid hp3; have HB3 := Lib.hid hb3; clear hp3 hb3 hg3; have t0 := HK3.out.cell 0; have f0 := HK3.out.frozen 0; simp at t0)
 have HP4 := HP3.out
 rw [show (L ++ [b]).length = L.length + 1 by simp] at HP4
 have hbp : b ≠ p := by
  intro e
  have h1 := HKT3.out; have h2 := HK3.out
  rw [e] at h1
  unfold Blk at h1 h2
  rw [h1] at h2; injection h2 with h2; injection h2 with _ h2 _; cases h2
 obtain ⟨W4, hW4⟩ : ∃ W4, w3.setCell ⟨p, 0, none⟩ (.slice ao3 (L.length + 1) cap3) = W4 := ⟨_, rfl⟩
 have HK4 : Blk W4 p 110 #[.slice ao3 (L.length + 1) cap3, .map (some m)] := by rw [← hW4]; have := HK3.out.set_ 0 (.slice ao3 (L.length + 1) cap3); simpa using this
 have HKT4 : Blk W4 b 115 #[.string (S [c]), .string (S t.name), u] := by rw [← hW4]; exact HKT3.out.far hbp _
 have hg4 : w3.grownBy W4 (some p) := by rw [← hW4]; exact grownBy_setCell' w3 p _
 have HM4 : NMap W4 m (namesOf ts) := HM3.out.kept hg4 (HM3.out.ne HK3.out)
 have HPP : Ptrs W4 B (.slice ao3 (L.length + 1) cap3) (L ++ [b]) := World.ownsRow.kept HP4 hg4 (.inr (fun e => HP4.ne HK3.out (by decide) e.symm))
 obtain ⟨w5, hrun, hm5, hg5⟩ := NMap.put (w := W4.drew) HM4 t.name hn (by unfold namesOf; simp; omega) b
 have HB4 : Below B w W4.drew := by
  have h1 := (HBL.out.trans HB3.out).grown hg4 (Nat.le_trans hB (HBL.out.trans HB3.out).size) (fun k e => by injection e with e; omega)
  exact ⟨h1.os, h1.tape, h1.output, h1.size, h1.block⟩
 have R1 : ∀ r o, (Value.slice ao L.length cap).ownBlock = some r → X.heap[r]? = some o → ∀ cs s, o ≠ .cells cs 55 s ∧ o ≠ .cells cs 115 s := by
  intro r o e ho cs s
  rcases HVX.out.2 with ⟨e1, -⟩ | ⟨g', cap', cur, e1, hb', hg', -⟩
  ·rw [e1] at e; cases e
  ·rw [e1] at e; injection e with e
   have e2 : g' = r := e
   subst e2
   rw [hg'] at ho; injection ho with ho; subst ho
   exact ⟨fun h => (by injection h with _ h _; cases h), fun h => (by injection h with _ h _; cases h)⟩
 have R2 : ∀ r o, some p = some r → w3.heap[r]? = some o → ∀ cs s, o ≠ .cells cs 55 s ∧ o ≠ .cells cs 115 s := by
  intro r o e ho cs s
  injection e with e; subst e
  have h2 := HK3.out; unfold Blk at h2
  rw [h2] at ho; injection ho with ho; subst ho
  exact ⟨fun h => (by injection h with _ h _; cases h), fun h => (by injection h with _ h _; cases h)⟩
 have R3 : ∀ r o, some m = some r → W4.drew.heap[r]? = some o → ∀ cs s, o ≠ .cells cs 55 s ∧ o ≠ .cells cs 115 s := by
  intro r o e ho cs s
  injection e with e; subst e
  obtain ⟨es, clock, hb, -⟩ := HM4
  have ho2 : W4.heap[m]? = some o := ho
  rw [hb] at ho2; injection ho2 with ho2; subst ho2
  exact ⟨fun h => by (cases h), fun h => by (cases h)⟩
 have hbaX : Below w.heap.size w X := by rw [← HX.out]; (repeat (first | exact Below.refl _ _ | apply below_drew | apply below_draws | apply below_alloc | (refine below_trans ?_ (by assumption)) | (refine Below.trans ?_ (by assumption))))
 have HKT := Lib.hid ((KeepTF.below hbaX).trans ((KeepTF.grown HTS3.out R1).trans ((KeepTF.grown hg4 R2).trans (KeepTF.grown (w := W4.drew) hg5 R3))))
 have HTY : ∀ x ∈ ts ++ [(t, b)], TypeAt w5 B x.2 x.1 := by
  have step : ∀ (y : Ty) (k : Nat), TypeAt X B k y → TypeAt w5 B k y := by
   intro y k h
   have h2 : TypeAt W4 B k y := (h.beside HTS3.out R1).beside hg4 R2
   exact TypeAt.beside (w := W4.drew) h2 hg5 R3
  intro x hx
  rcases List.mem_append.1 hx with h | h
  ·exact step _ _ (HTS.out x h)
  ·simp at h; subst h; exact step _ _ HT.out
 have HSET : SetAt w5 B p (ts ++ [(t, b)]) := by
  refine ⟨.slice ao3 (L.length + 1) cap3, m, Blk.row (W := W4.drew) HK4 hg5 (fun e => HM4.ne HK4 e.symm), ?_, ?_, HTY, hp1, hp2⟩
  ·have h1 : Ptrs w5 B (.slice ao3 (L.length + 1) cap3) (L ++ [b]) := World.ownsRow.kept (w := W4.drew) HPP hg5 (.inr (fun e => HM4.neRow HPP e.symm))
   rw [List.map_append, HLL.out]; exact h1
  ·have h2 := hm5; unfold namesOf at h2; rw [List.map_append]; exact h2
 have HB5 : Below B w w5 := HB4.grown hg5 (by have := HB4.size; have h := HBL.out.size; omega) (fun k e => by injection e with e; omega)
 have k1 := HK4.cell 1
 have k2 := HKT4.cell 1
 simp at k1 k2
 unfold ptrV at hrun
 simp at hrun
 have HSX := Lib.hid HSET; have HBX5 := Lib.hid HB5
 clear R1 R2 R3 hbaX HP4 HK4 HKT4 HM4 HPP hm5 hg5 hg4 HB4 HTY HSET HB5 t0 f0 c0 c1 d1 hlook hbp
 rw [hW4]
 clear hW4 hX
 go_region
 go_wp2_with fail
 go_ret
 exact ⟨rfl, HSX.out, HBX5.out, HKT.out⟩
theorem foldD_has (L : List (Bs × Nat)) (n : Bs) (D : DataW Empty) (hD : IsMap D) : has (L.foldl (fun D p => D.put (.string p.1) (ptrD (some p.2))) D) (.string n) = ((nameAt L n).isSome || has D (.string n)) := by
 induction L generalizing D with
 | nil => simp [nameAt]
 | cons p L ih =>
  rw [List.foldl_cons, ih _ (hD.put _ _), nameAt]
  cases nameAt L n with
  | some b => rfl
  | none =>
   simp only
   by_cases h : p.1 = n
   ·rw [if_pos h, h, has_put_same (k := .string n) hD trivial]; rfl
   ·rw [if_neg h, has_put_other (by intro e; injection e with e; exact h e.symm)]
theorem nameD_has (L : List (Bs × Nat)) (n : Bs) : has (nameD L) (.string n) = (nameAt L n).isSome := by
 unfold nameD
 rw [foldD_has L n _ isMap_empty]
 simp [has]
theorem NMap.look_ok {w : World} {b : Nat} {L : List (Bs × Nat)} (h : NMap w b L) (n : Bs) (hn : n.length ≤ 2000000) :
  (Instr.lookup 108 (.map (some b)) (.string (S n)) true).run Tryz.prog w = .ok (.tuple #[ptrV (nameAt L n), .bool (nameAt L n).isSome]) w := by
 obtain ⟨v, ps, hrun, hv⟩ := World.ownsMap.look_ok (t := 108) h str_keyed Tryz.underlying108 (z := .pointer none) (by simp [zeroValue]; rfl) (show ptrR (.pointer none) = some (ptrD none, []) from rfl) (S_key n hn)
 rw [nameD_at] at hv
 rw [hrun, ptrR_inv hv, nameD_has]
theorem i_add (p b B : Nat) (t : Ty) (ts : List (Ty × Nat)) (w : World) (h : SetAt w B p ts) (ht : TypeAt w B b t) (h8 : ts.length ≤ 8) (hB : B ≤ w.heap.size) (hn : t.name.length ≤ 2000000) :
  Calls Tryz.prog 90 #[.pointer (some ⟨p, 0, none⟩), .pointer (some ⟨b, 0, none⟩)] w fun e w' => e = .returned (.bool (addOk ts t)) ∧ Below B w w' ∧ (addOk ts t = true → SetAt w' B p (ts ++ [(t, b)])) ∧ KeepTF w w' := by
 by_cases hl : ts.length = 8
 ·refine (i_add_full p b B t ts w h ht hl).mono ?_
  rintro e w' ⟨rfl, hb⟩
  have hf : addOk ts t = false := by unfold addOk; rw [hl]; rfl
  exact ⟨by rw [hf], hb.mono hB, fun hh => (by rw [hf] at hh; cases hh), KeepTF.below hb⟩
 ·cases hq : nameAt (namesOf ts) t.name with
  | some q =>
   refine (i_add_known p b B q t ts w h ht hl hn hq).mono ?_
   rintro e w' ⟨rfl, hb⟩
   have hf : addOk ts t = false := by unfold addOk; rw [hq]; simp
   exact ⟨by rw [hf], hb.mono hB, fun hh => (by rw [hf] at hh; cases hh), KeepTF.below hb⟩
  | none =>
   refine (i_add_new p b B t ts w h ht (by omega) hB hn hq).mono ?_
   rintro e w' ⟨rfl, hs, hb, hkt⟩
   have hf : addOk ts t = true := by unfold addOk; rw [hq]; simp [hl]
   exact ⟨by rw [hf], hb, fun _ => hs, hkt⟩
open M
theorem nameAt_hasName (ts : List (Ty × Nat)) (n : Bs) : (nameAt (namesOf ts) n).isSome = hasName (ts.map (·.1)) n := by
 induction ts with
 | nil => rfl
 | cons x r ih =>
  have e : nameAt (namesOf (x :: r)) n = match nameAt (namesOf r) n with
    | some b => some b
    | none => if x.1.name = n then some x.2 else none := rfl
  rw [e]
  have e2 : hasName ((x :: r).map (·.1)) n = ((x.1.name == n) || hasName (r.map (·.1)) n) := rfl
  rw [e2, ← ih]
  cases nameAt (namesOf r) n with
  | some b => simp
  | none =>
   simp only
   by_cases h : x.1.name = n
   ·rw [if_pos h]; simp [h]
   ·rw [if_neg h]; simp [h]
theorem addOk_eq (ts : List (Ty × Nat)) (t : Ty) : addOk ts t = !(decide ((ts.map (·.1)).length = 8) || hasName (ts.map (·.1)) t.name) := by
 unfold addOk
 rw [← nameAt_hasName, List.length_map]
 cases nameAt (namesOf ts) t.name <;> simp
def inRes (N : List (Bs × Nat)) (l : Bs) : Option Nat × Bool := if kOk l = true then (match kRefs l with | [] => (none, true) | n :: _ => (nameAt N n, (nameAt N n).isSome)) else (none, false)
set_option maxHeartbeats 4000000 in
theorem i_typeIn (p m : Nat) (v : Value) (N : List (Bs × Nat)) (l : Bs) (w : World) (hk : Blk w p 110 #[v, .map (some m)]) (hm : NMap w m N) (hs : l.length ≤ 2000000) (hn : ∀ n ∈ kRefs l, n.length ≤ 2000000) :
  Calls Tryz.prog 69 #[.pointer (some ⟨p, 0, none⟩), .string (S l)] w fun e w' => e = .returned (.tuple #[ptrV (inRes N l).1, .bool (inRes N l).2]) ∧ Below w.heap.size w w' := by
 have HR := Lib.hid (fun w => i_KindRefs l w (by omega))
 have HK := Lib.hid hk; have HM := Lib.hid hm; clear hk hm
 have HI : inRes N l = if kOk l = true then (match kRefs l with | [] => (none, true) | n :: _ => (nameAt N n, (nameAt N n).isSome)) else (none, false) := rfl
 generalize inRes N l = res at *
 cases hok : kOk l with
 | false =>
  rw [hok] at HI HR
  have HF := Lib.hid (show res = (none, false) by rw [HI]; rfl)
  clear HI hok hn
  go_enter Tryz.func69, Tryz.ntmps69
  go_wp2_with fail
  refine (HR.out _).mono ?_
  rintro e w1 ⟨u, rfl, hu, hb⟩
  obtain ⟨ao, cap, rfl, -, -⟩ := hu.form
  go_wp2_with fail
  refine bodyPost_ret (v := .tuple #[.pointer none, .bool false]) (by simp [results, Tryz.results69]) rfl ?_
  exact ⟨by rw [HF.out]; rfl, hb⟩
 | true =>
  rw [hok] at HI HR
  cases hr : kRefs l with
  | nil =>
   rw [hr] at HI HR
   have HF := Lib.hid (show res = (none, true) by rw [HI]; rfl)
   clear HI hok hr hn
   go_enter Tryz.func69, Tryz.ntmps69
   go_wp2_with fail
   refine (HR.out _).mono ?_
   rintro e w1 ⟨u, rfl, hu, hb⟩
   obtain ⟨ao, cap, rfl, -, -⟩ := hu.form
   simp only [List.length_nil] at *
   go_wp2_with fail
   refine bodyPost_ret (v := .tuple #[.pointer none, .bool true]) (by simp [results, Tryz.results69]) rfl ?_
   exact ⟨by rw [HF.out]; rfl, hb⟩
  | cons n r =>
   rw [hr] at HI HR hn
   have hnl := hn n (by simp)
   have HF := Lib.hid (show res = (nameAt N n, (nameAt N n).isSome) by rw [HI]; rfl)
   clear HI hok hr hn
   go_enter Tryz.func69, Tryz.ntmps69
   go_wp2_with fail
   refine (HR.out _).mono ?_
   rintro e w1 ⟨u, rfl, hu, hb⟩
   obtain ⟨ao, cap, rfl, hcap, hao⟩ := hu.form
   obtain ⟨g, rfl, -, -⟩ : ∃ g, ao = some ⟨g, 0, none⟩ ∧ w.heap.size ≤ g ∧ g < w1.heap.size := by
    rcases hao with ⟨_, h0⟩ | h0
    ·cases h0
    ·exact h0
   have x0 := hu.cell 0 (by simp)
   have k1 := (HK.out.keep hb).cell 1
   have hlook := NMap.look_ok (show NMap w1.drew m N from World.ownsMap.drew (HM.out.below hb)) n hnl
   simp at x0 k1
   have hlen : (((n :: r).length : Int) == 0) = false := by simp only [List.length_cons, beq_eq_false_iff_ne]; omega
   have hpos : (0 : Int) < ((n :: r).length : Int) := by simp only [List.length_cons]; omega
   obtain ⟨q, hq⟩ : ∃ q, nameAt N n = q := ⟨_, rfl⟩
   rw [hq] at hlook HF
   generalize (n :: r).length = z at *
   clear hu hao hcap hq
   have HB := Lib.hid hb; clear hb
   go_wp2_with fail
   go_region
   go_wp2_with fail
   refine bodyPost_ret (v := .tuple #[ptrV q, .bool q.isSome]) (by simp [results, Tryz.results69]) rfl ?_
   exact ⟨by rw [HF.out], by have := HB.out; (repeat (first | with_reducible exact Below.refl _ _ | with_reducible apply below_drew | with_reducible apply below_draws | with_reducible apply below_alloc | with_reducible apply below_set | (with_reducible refine below_trans ?_ (by assumption)) | (with_reducible refine Below.trans ?_ (by assumption)) | exact Nat.le_refl _ | omega | (simp <;> omega)))⟩
structure Ent where
 t : Ty
 b : Nat
 v : Value
def Tv (w : World) (B : Nat) (e : Ent) (ps : List PF) : Prop :=
 (∃ c : UInt8, e.t.sort = (c.toNat : Int) ∧ Blk w e.b 115 #[.string (S [c]), .string (S e.t.name), e.v]) ∧ PFlds w B e.v ps ∧ B ≤ e.b
theorem Tv.below {w w' : World} {B : Nat} {e : Ent} {ps : List PF} (h : Tv w B e ps) (hb : Below w.heap.size w w') : Tv w' B e ps := by
 obtain ⟨⟨c, hc, hk⟩, hp, hB⟩ := h
 exact ⟨⟨c, hc, hk.keep hb⟩, hp.below hb, hB⟩
theorem PFlds.keepTF {w w' : World} {B : Nat} {v : Value} {fs : List PF} (h : PFlds w B v fs) (hk : KeepTF w w') : PFlds w' B v fs := by
 refine ⟨h.1, ?_⟩
 rcases h.2 with hn | ⟨g, cap, cur, hv, hb, hg, rest⟩
 ·exact .inl hn
 ·exact .inr ⟨g, cap, cur, hv, hb, hk g _ _ _ (.inl rfl) hg, rest⟩
theorem Tv.keepTF {w w' : World} {B : Nat} {e : Ent} {ps : List PF} (h : Tv w B e ps) (hk : KeepTF w w') : Tv w' B e ps := by
 obtain ⟨⟨c, hc, hk'⟩, hp, hB⟩ := h
 exact ⟨⟨c, hc, hk _ _ _ _ (.inr rfl) hk'⟩, hp.keepTF hk, hB⟩
def Far (x y : Ent) : Prop := x.b ≠ y.b ∧ ∀ g, x.v.ownBlock = some g → y.v.ownBlock ≠ some g
theorem Far.symm {x y : Ent} (h : Far x y) : Far y x := ⟨fun e => h.1 e.symm, fun g hg e => h.2 g e hg⟩
def namesE (es : List Ent) : List (Bs × Nat) := es.map fun e => (e.t.name, e.b)
def SetE (w : World) (B p : Nat) (es : List Ent) : Prop := ∃ ov m, Blk w p 110 #[ov, .map (some m)] ∧ Ptrs w B ov (es.map (·.b)) ∧ NMap w m (namesE es) ∧ (∀ e ∈ es, Tv w B e (un e.t.fields)) ∧ es.Pairwise Far ∧ B ≤ p ∧ B ≤ m
theorem SetE.at {w : World} {B p : Nat} {es : List Ent} (h : SetE w B p es) : SetAt w B p (es.map fun e => (e.t, e.b)) := by
 obtain ⟨ov, m, hk, hp, hm, ht, -, h1, h2⟩ := h
 refine ⟨ov, m, hk, ?_, ?_, ?_, h1, h2⟩
 ·rw [List.map_map]; exact hp
 ·rw [List.map_map]; exact hm
 ·intro x hx
  obtain ⟨e, he, rfl⟩ := List.mem_map.1 hx
  obtain ⟨⟨c, hc, hk⟩, hp, hB⟩ := ht e he
  exact ⟨c, e.v, hc, hk, hp, hB⟩
theorem SetE.below {w w' : World} {B p : Nat} {es : List Ent} (h : SetE w B p es) (hb : Below w.heap.size w w') : SetE w' B p es := by
 obtain ⟨ov, m, hk, hp, hm, ht, hf, h⟩ := h
 exact ⟨ov, m, hk.keep hb, hp.below hb, hm.below hb, fun e he => (ht e he).below hb, hf, h⟩
theorem SetE.add {w w1 w2 : World} {B p b : Nat} {es : List Ent} {t : Ty} (h : SetE w B p es) (hb : Below w.heap.size w w1) (ht : TypeAt w1 w.heap.size b t) (hs : SetAt w2 B p ((es.map fun e => (e.t, e.b)) ++ [(t, b)])) (hk : KeepTF w1 w2) (hB : B ≤ w.heap.size) :
  ∃ e : Ent, e.t = t ∧ SetE w2 B p (es ++ [e]) := by
 obtain ⟨c, v, hc, hkt, hp, hbb⟩ := ht
 refine ⟨⟨t, b, v⟩, rfl, ?_⟩
 obtain ⟨ov, m, h1, h2, h3, -, h5, h6⟩ := hs
 obtain ⟨_, _, -, -, -, g4, g5, -⟩ := h
 refine ⟨ov, m, h1, ?_, ?_, ?_, ?_, h5, h6⟩
 ·rw [List.map_append, List.map_map] at h2
  rw [List.map_append]; exact h2
 ·rw [List.map_append, List.map_map] at h3
  unfold namesE; rw [List.map_append]; exact h3
 ·intro e he
  rcases List.mem_append.1 he with he | he
  ·exact ((g4 e he).below hb).keepTF hk
  ·simp at he; subst he
   exact ⟨⟨c, hc, hk _ _ _ _ (.inr rfl) hkt⟩, (hp.keepTF hk).mono hB, Nat.le_trans hB hbb⟩
 ·rw [List.pairwise_append]
  refine ⟨g5, List.pairwise_singleton _ _, ?_⟩
  intro x hx y hy
  simp at hy; subst hy
  obtain ⟨⟨c', -, hk'⟩, hp', -⟩ := g4 x hx
  refine ⟨?_, ?_⟩
  ·have := hk'.lt; intro e; simp at e; omega
  ·intro g hg e
   have h1 := (World.ownsRow.lt hp' g hg).2
   have h2 := (World.ownsRow.lt hp g e).1
   omega
def lkA (N : List (Bs × Nat)) (f : Fl) : Option Addr := (inRes N f.kind).1.map fun b => ⟨b, 0, none⟩
def lkF (N : List (Bs × Nat)) (f : Fl) : PF := (f, lkA N f)
def lkP (N : List (Bs × Nat)) (t : Ty) : List PF := if t.sort = 69 then un t.fields else t.fields.map (lkF N)
def lkTo (N : List (Bs × Nat)) (i : Nat) (fs : List Fl) : List PF := (fs.take i).map (lkF N) ++ un (fs.drop i)
theorem lkTo_0 (N : List (Bs × Nat)) (fs : List Fl) : lkTo N 0 fs = un fs := by simp [lkTo]
theorem lkTo_all (N : List (Bs × Nat)) (fs : List Fl) {i : Nat} (h : fs.length ≤ i) : lkTo N i fs = fs.map (lkF N) := by
 unfold lkTo; rw [List.take_of_length_le h, List.drop_of_length_le h]; simp [un]
theorem lkTo_len (N : List (Bs × Nat)) (fs : List Fl) (i : Nat) : (lkTo N i fs).length = fs.length := by
 unfold lkTo; rw [List.length_append, List.length_map, un_len, List.length_take, List.length_drop]; omega
theorem lkTo_fst (N : List (Bs × Nat)) (fs : List Fl) (i : Nat) : (lkTo N i fs).map (·.1) = fs := by
 unfold lkTo
 rw [List.map_append, un_fst, List.map_map]
 rw [show ((fun x : PF => x.1) ∘ lkF N) = id from rfl, List.map_id, List.take_append_drop]
theorem lkTo_at (N : List (Bs × Nat)) (fs : List Fl) (i j : Nat) (h : j < (lkTo N i fs).length) (h2 : j < fs.length) : ((lkTo N i fs)[j]).1 = fs[j] := by
 have e : ((lkTo N i fs).map (·.1))[j]? = fs[j]? := by rw [lkTo_fst]
 rw [List.getElem?_map, List.getElem?_eq_getElem h, List.getElem?_eq_getElem h2] at e
 injection e
theorem lkTo_set (N : List (Bs × Nat)) (fs : List Fl) (i : Nat) (h : i < fs.length) : (lkTo N i fs).set i (lkF N fs[i]) = lkTo N (i + 1) fs := by
 unfold lkTo
 have hl : ((fs.take i).map (lkF N)).length = i := by rw [List.length_map, List.length_take]; omega
 rw [List.set_append_right _ _ (by omega), hl, Nat.sub_self, List.drop_eq_getElem_cons h]
 rw [show un (fs[i] :: fs.drop (i + 1)) = (fs[i], none) :: un (fs.drop (i + 1)) from rfl, List.set_cons_zero, List.take_succ_eq_append_getElem h, List.map_append]
 simp
theorem flat_set (ps : List PF) (i : Nat) (h : i < ps.length) (a : Option Addr) : (ps.flatMap pfCells).set (i * 5 + 4) (.pointer a) = (ps.set i (ps[i].1, a)).flatMap pfCells := by
 induction ps generalizing i with
 | nil => simp at h
 | cons p r ih =>
  cases i with
  | zero => rw [List.set_cons_zero, List.flatMap_cons, List.flatMap_cons]; rfl
  | succ i =>
   rw [List.set_cons_succ, List.flatMap_cons, List.flatMap_cons, List.set_append_right _ _ (by rw [pfCells_len]; omega), pfCells_len, show (i + 1) * 5 + 4 - 5 = i * 5 + 4 from by omega, ih i (by simpa using h)]
   rfl
theorem PFlds.stored {w : World} {B g n cap : Nat} {ps : List PF} (h : PFlds w B (.slice (some ⟨g, 0, none⟩) n cap) ps) (i : Nat) (hi : i < ps.length) (a : Option Addr) :
  PFlds (w.setCell ⟨g, i * 5 + 4, none⟩ (.pointer a)) B (.slice (some ⟨g, 0, none⟩) n cap) (ps.set i (ps[i].1, a)) ∧ w.grownBy (w.setCell ⟨g, i * 5 + 4, none⟩ (.pointer a)) (some g) := by
 obtain rfl := h.same
 have h2 := World.ownsRow.stored h (i * 5 + 4) (.pointer a)
 refine ⟨?_, h2.2⟩
 unfold PFlds
 rw [List.length_set, ← flat_set ps i hi]
 exact h2.1
theorem PFlds.block {w : World} {B g n cap : Nat} {ps : List PF} (h : PFlds w B (.slice (some ⟨g, 0, none⟩) n cap) ps) : ∃ cur, w.heap[g]? = some (.cells cur 55 (0, 0)) := by
 rcases h.2 with ⟨e, -⟩ | ⟨g', cap', cur, e, hb, hg, -⟩
 ·cases e
 ·injection e with e _ _; injection e with e; injection e with e _ _
  subst e
  exact ⟨cur, hg⟩
def LinkAt (w : World) (B p m : Nat) (ov : Value) (N : List (Bs × Nat)) (es : List Ent) (q : Nat → List PF) : Prop :=
 Blk w p 110 #[ov, .map (some m)] ∧ Ptrs w B ov (es.map (·.b)) ∧ NMap w m N ∧ ∀ j (h : j < es.length), Tv w B es[j] (q j)
theorem LinkAt.below {w w' : World} {B p m : Nat} {ov : Value} {N : List (Bs × Nat)} {es : List Ent} {q : Nat → List PF} (h : LinkAt w B p m ov N es q) (hb : Below w.heap.size w w') : LinkAt w' B p m ov N es q := by
 obtain ⟨h1, h2, h3, h4⟩ := h
 exact ⟨h1.keep hb, h2.below hb, h3.below hb, fun j hj => (h4 j hj).below hb⟩
theorem LinkAt.congr {w : World} {B p m : Nat} {ov : Value} {N : List (Bs × Nat)} {es : List Ent} {q q' : Nat → List PF} (h : LinkAt w B p m ov N es q) (e : ∀ j, j < es.length → q' j = q j) : LinkAt w B p m ov N es q' := by
 obtain ⟨h1, h2, h3, h4⟩ := h
 exact ⟨h1, h2, h3, fun j hj => by rw [e j hj]; exact h4 j hj⟩
theorem far_at {es : List Ent} (hf : es.Pairwise Far) {i j : Nat} (hi : i < es.length) (hj : j < es.length) (h : i ≠ j) : Far es[i] es[j] := by
 rcases Nat.lt_or_gt_of_ne h with hlt | hgt
 ·exact List.pairwise_iff_getElem.1 hf i j hi hj hlt
 ·exact (List.pairwise_iff_getElem.1 hf j i hj hi hgt).symm
theorem LinkAt.store {w : World} {B p m : Nat} {ov : Value} {N : List (Bs × Nat)} {es : List Ent} {q : Nat → List PF} (h : LinkAt w B p m ov N es q) (hf : es.Pairwise Far) (k : Nat) (hk : k < es.length) (g n cap : Nat) (hv : es[k].v = .slice (some ⟨g, 0, none⟩) n cap)
  (i : Nat) (hi : i < (q k).length) (a : Option Addr) (q' : Nat → List PF) (hq : ∀ j, q' j = if j = k then (q k).set i ((q k)[i].1, a) else q j) : LinkAt (w.setCell ⟨g, i * 5 + 4, none⟩ (.pointer a)) B p m ov N es q' := by
 obtain ⟨h1, h2, h3, h4⟩ := h
 have hp := (h4 k hk).2.1
 rw [hv] at hp
 obtain ⟨s1, s2⟩ := hp.stored i hi a
 obtain ⟨cur, hcur⟩ := hp.block
 have ne : ∀ {b : Nat} {ty : TypeId} {cs : Array Value}, Blk w b ty cs → ty ≠ 55 → some b ≠ some g := by
  intro b ty cs hb ht e
  injection e with e; subst e
  unfold Blk at hb; rw [hcur] at hb; injection hb with hb; injection hb with _ hb _; exact ht hb.symm
 refine ⟨h1.row s2 (ne h1 (by decide)), ?_, ?_, ?_⟩
 ·refine World.ownsRow.kept h2 s2 ?_
  rcases h2.2 with ⟨e, -⟩ | ⟨g', cap', cur', e, hb, hg, -⟩
  ·rw [e]; exact .inl rfl
  ·rw [e]; right; intro e2; injection e2 with e2
   have e3 : g' = g := e2
   rw [e3, hcur] at hg; injection hg with hg; injection hg with _ hg _; exact absurd hg (by decide)
 ·refine h3.kept s2 ?_
  obtain ⟨es', clock, hb, -⟩ := h3
  intro e; injection e with e; subst e
  rw [hcur] at hb; injection hb with hb; cases hb
 ·intro j hj
  rw [hq j]
  obtain ⟨⟨c, hc, hb⟩, hp2, hB⟩ := h4 j hj
  by_cases e : j = k
  ·rw [if_pos e]
   subst e
   exact ⟨⟨c, hc, hb.row s2 (ne hb (by decide))⟩, by rw [hv]; exact s1, hB⟩
  ·rw [if_neg e]
   refine ⟨⟨c, hc, hb.row s2 (ne hb (by decide))⟩, World.ownsRow.kept hp2 s2 (.inr ?_), hB⟩
   intro e2
   exact (far_at hf hk hj (Ne.symm e)).2 g (by rw [hv]; rfl) e2
def qst (N : List (Bs × Nat)) (T : List Ty) (k i j : Nat) : List PF := if j < k then lkP N (T.getD j default) else if j = k then lkTo N i (T.getD j default).fields else un (T.getD j default).fields
theorem qst_store (N : List (Bs × Nat)) (T : List Ty) (k i : Nat) (hi : i < (T.getD k default).fields.length) (h : i < (qst N T k i k).length) (j : Nat) :
  qst N T k (i + 1) j = if j = k then (qst N T k i k).set i ((qst N T k i k)[i].1, lkA N ((T.getD k default).fields[i])) else qst N T k i j := by
 by_cases e : j = k
 ·subst e
  rw [if_pos rfl]
  have e1 : ∀ i, qst N T j i j = lkTo N i (T.getD j default).fields := by intro i; unfold qst; rw [if_neg (by omega), if_pos rfl]
  rw [e1 (i + 1), ← lkTo_set N _ i hi]
  simp only [e1]
  rw [lkTo_at N _ i i _ hi]
  rfl
 ·rw [if_neg e]; unfold qst; rw [if_neg e, if_neg e]
theorem qst_next (N : List (Bs × Nat)) (T : List Ty) (k : Nat) (h : (T.getD k default).sort ≠ 69) (i : Nat) (hi : (T.getD k default).fields.length ≤ i) (j : Nat) : qst N T (k + 1) 0 j = qst N T k i j := by
 unfold qst
 by_cases h1 : j < k
 ·rw [if_pos h1, if_pos (by omega)]
 ·rw [if_neg h1]
  by_cases h2 : j = k
  ·subst h2; rw [if_pos (by omega), if_pos rfl, lkTo_all N _ hi]; unfold lkP; rw [if_neg h]
  ·rw [if_neg h2, if_neg (by omega)]
   by_cases h3 : j = k + 1
   ·rw [if_pos h3, lkTo_0]
   ·rw [if_neg h3]
theorem qst_enum (N : List (Bs × Nat)) (T : List Ty) (k : Nat) (h : (T.getD k default).sort = 69) (j : Nat) : qst N T (k + 1) 0 j = qst N T k 0 j := by
 unfold qst
 by_cases h1 : j < k
 ·rw [if_pos h1, if_pos (by omega)]
 ·rw [if_neg h1]
  by_cases h2 : j = k
  ·subst h2; rw [if_pos (by omega), if_pos rfl, lkTo_0]; unfold lkP; rw [if_pos h]
  ·rw [if_neg h2, if_neg (by omega)]
   by_cases h3 : j = k + 1
   ·rw [if_pos h3, lkTo_0]
   ·rw [if_neg h3]
def linkE (N : List (Bs × Nat)) (T : List Ty) : Bool := T.all fun t => t.sort == 69 || t.fields.all fun f => (inRes N f.kind).2
theorem kRefs_len {l : Bs} (h : kOk l = true) : ∀ n ∈ kRefs l, n.length ≤ 12 := by
 intro n hn
 unfold kRefs at hn
 rcases kind_cases l with hk | ⟨m, d, hk, hl, hd, h1, h2⟩
 ·rw [hk] at hn; simp at hn
 ·rw [hk] at hn
  simp only at hn
  split at hn
  ·simp at hn
  ·simp at hn; subst hn
   rcases h2 with ⟨-, -, h3, -⟩ | ⟨h3, -⟩
   ·have := congrArg List.length h3
    simp at this; omega
   ·rw [h3]; simp
def lkOk (N : List (Bs × Nat)) (t : Ty) : Bool := t.sort == 69 || t.fields.all fun f => (inRes N f.kind).2
theorem linkE_in (N : List (Bs × Nat)) (T : List Ty) (k : Nat) (h : k < T.length) : linkE N (T.drop k) = (lkOk N T[k] && linkE N (T.drop (k + 1))) := by
 unfold linkE; rw [List.drop_eq_getElem_cons h, List.all_cons]; rfl
theorem linkE_end (N : List (Bs × Nat)) (T : List Ty) (k : Nat) (h : T.length ≤ k) : linkE N (T.drop k) = true := by
 unfold linkE; rw [List.drop_of_length_le h]; rfl
def oksF (N : List (Bs × Nat)) (fs : List Fl) : Bool := fs.all fun f => (inRes N f.kind).2
theorem oksF_in (N : List (Bs × Nat)) (fs : List Fl) (i : Nat) (h : i < fs.length) : oksF N (fs.drop i) = ((inRes N fs[i].kind).2 && oksF N (fs.drop (i + 1))) := by
 unfold oksF; rw [List.drop_eq_getElem_cons h, List.all_cons]
theorem oksF_end (N : List (Bs × Nat)) (fs : List Fl) (i : Nat) (h : fs.length ≤ i) : oksF N (fs.drop i) = true := by
 unfold oksF; rw [List.drop_of_length_le h]; rfl
theorem qst_at (N : List (Bs × Nat)) (T : List Ty) (k i : Nat) : qst N T k i k = lkTo N i (T.getD k default).fields := by unfold qst; rw [if_neg (by omega), if_pos rfl]
theorem below_mono_size {B : Nat} {w x y : World} (h : Below B w x) (hB : B ≤ w.heap.size) (k : Below x.heap.size x y) : Below B w y := h.trans (k.mono (Nat.le_trans hB h.size))
set_option maxHeartbeats 8000000 in
theorem i_link (p m B : Nat) (ov : Value) (N : List (Bs × Nat)) (es : List Ent) (T : List Ty) (w : World) (hL : LinkAt w B p m ov N es (qst N T 0 0)) (hf : es.Pairwise Far) (hT : es.map (·.t) = T) (hg : ∀ t ∈ T, GoodT t) (hB : B ≤ w.heap.size) (h8 : T.length ≤ 8) :
  Calls Tryz.prog 91 #[.pointer (some ⟨p, 0, none⟩)] w fun e w' => e = .returned (.bool (linkE N T)) ∧ Below B w w' ∧ (linkE N T = true → LinkAt w' B p m ov N es (fun j => lkP N (T.getD j default))) := by
 obtain ⟨ao, cap, rfl, hc, ho⟩ := hL.2.1.form
 obtain ⟨n, hn⟩ : ∃ n, T.length = n := ⟨_, rfl⟩
 have hn8 : n ≤ 8 := by omega
 have hel : es.length = n := by rw [← hn, ← hT, List.length_map]
 have hbl : (es.map (·.b)).length = n := by rw [List.length_map, hel]
 rw [hbl] at hL hc ⊢
 obtain ⟨r, hr⟩ : ∃ r, linkE N T = r := ⟨_, rfl⟩
 rw [hr]
 have HN := Lib.hid hn; have HEL := Lib.hid hel; have HBL := Lib.hid hbl; have HO := Lib.hid ho; have HR := Lib.hid hr; have HT := Lib.hid hT; have HG := Lib.hid hg; have HF := Lib.hid hf
 have HL0 := Lib.hid hL
 have c0 := hL.1.cell 0
 simp at c0
 clear hn hel hbl ho hr hT hg hf hL h8
 go_enter Tryz.func91, Tryz.ntmps91
 go_wp2_with fail
 clear c0
 go_loopw [14] (fun i wr => ∃ k : Nat, k ≤ n ∧ i = .int .i64 k ∧ Hid (LinkAt wr B p m (.slice ao n cap) N es (qst N T k 0)) ∧ Hid (r = linkE N (T.drop k)) ∧ Hid (Below B w wr)) (fun i _ => n - (intOf i).toNat)
 case atStart => exact ⟨0, by omega, rfl, HL0.out, HR.out.symm, Below.refl _ _⟩
 case round =>
  obtain ⟨k, hk, rfl, hS, hV, hb⟩ := hrel
  by_cases hkn : k < n
  ·have hkT : k < T.length := by rw [HN.out]; exact hkn
   have hkE : k < es.length := by rw [HEL.out]; exact hkn
   have hTd : T.getD k default = T[k] := by rw [List.getD_eq_getElem?_getD, List.getElem?_eq_getElem hkT]; rfl
   obtain ⟨g, rfl⟩ : ∃ g, ao = some ⟨g, 0, none⟩ := by
    rcases HO.out with ⟨_, h0⟩ | ⟨g, h0, -⟩
    ·have h1 := HBL.out; rw [h0] at h1; simp at h1; omega
    ·exact ⟨g, h0⟩
   obtain ⟨⟨t, b, v⟩, he⟩ : ∃ e, es[k] = e := ⟨_, rfl⟩
   have htk : T[k] = t := by
    have h1 : (es.map (·.t))[k]? = T[k]? := by rw [HT.out]
    rw [List.getElem?_map, List.getElem?_eq_getElem hkE, List.getElem?_eq_getElem hkT, he] at h1
    injection h1 with h1; exact h1.symm
   have hgt : GoodT t := by rw [← htk]; exact HG.out _ (List.getElem_mem hkT)
   have x0 := hS.out.2.1.cell k (by rw [HBL.out]; exact hkn)
   rw [show (es.map (·.b)).getD k 0 = b by rw [List.getD_eq_getElem?_getD, List.getElem?_map, List.getElem?_eq_getElem hkE, he]; rfl] at x0
   have hTv := hS.out.2.2.2 k hkE
   rw [he, qst_at, hTd, htk, lkTo_0] at hTv
   obtain ⟨⟨c, hc1, hk1⟩, hp1, hB1⟩ := hTv
   simp only at hc1 hk1 hp1 hB1
   obtain ⟨av, cv, rfl, hcv, hav⟩ := hp1.form
   rw [un_len] at hk1 hp1 hcv he
   have y0 := hk1.cell 0
   have y2 := hk1.cell 2
   simp at y0 y2
   have HV := Lib.hid (hV.out.trans (linkE_in N T k hkT))
   rw [htk] at HV
   have HTD := Lib.hid (hTd.trans htk)
   have HE := Lib.hid he
   have HGT := Lib.hid hgt
   have HC1 := Lib.hid hc1
   clear hTd htk he hgt hp1 hk1 hB1 hV hc1
   by_cases h69 : t.sort = 69
   ·have hc69 : (c == 69) = true := by simp; exact UInt8.toNat_inj.1 (by have := HC1.out; show _ = 69; omega)
    have HV2 := Lib.hid (HV.out.trans (by unfold lkOk; rw [h69]; rfl : _ = linkE N (T.drop (k + 1))))
    have HS2 := Lib.hid (hS.out.congr (fun j _ => qst_enum N T k (by rw [HTD.out]; exact h69) j))
    clear hS h69 HV hav hcv
    go_wp2_with fail
    go_roundw
    case rel => exact ⟨k + 1, by omega, by go_num, HS2.out, HV2.out, hb.out⟩
    case measure => simp [intOf]; omega
   ·have hc69 : (c == 69) = false := by
     rw [beq_eq_false_iff_ne]; rintro rfl; exact h69 HC1.out
    have h69f : (t.sort == 69) = false := by simp [h69]
    have HV1 := Lib.hid (HV.out.trans (by unfold lkOk; rw [h69f, Bool.false_or]; rfl : _ = (oksF N t.fields && linkE N (T.drop (k + 1)))))
    obtain ⟨l, hl⟩ : ∃ l, t.fields.length = l := ⟨_, rfl⟩
    have HLN := Lib.hid hl
    have HS0 := Lib.hid hS.out
    rw [hl] at y2 hcv HE
    have hl8 : l ≤ 8 := by rw [← hl]; exact HGT.out.2.2.1
    have H69 := Lib.hid h69
    have HAV := Lib.hid hav
    obtain ⟨wo, rfl⟩ : ∃ wo : World, wo = wr := ⟨_, rfl⟩
    clear hl hS h69 h69f HV hav hcv
    go_wp2_with fail
    clear x0 y0 y2
    go_loopw [28] (fun i wr => ∃ j : Nat, j ≤ l ∧ i = .int .i64 j ∧ Hid (LinkAt wr B p m (.slice (some ⟨g, 0, none⟩) n cap) N es (qst N T k j)) ∧ Hid (r = (oksF N (t.fields.drop j) && linkE N (T.drop (k + 1)))) ∧ Hid (Below B w wr)) (fun i _ => l - (intOf i).toNat)
    case atStart => exact ⟨0, by omega, rfl, HS0.out, HV1.out, hb.out⟩
    case round =>
     obtain ⟨j, hj, rfl, hS, hV, hb2⟩ := hrel
     by_cases hjl : j < l
     ·have hjf : j < t.fields.length := by rw [HLN.out]; exact hjl
      obtain ⟨gf, rfl, hBgf⟩ : ∃ gf, av = some ⟨gf, 0, none⟩ ∧ B ≤ gf := by
       rcases HAV.out with ⟨_, h0⟩ | ⟨gf, h0, h1, -⟩
       ·have h1 : t.fields.length = 0 := by rw [← un_len, h0]; rfl
        omega
       ·exact ⟨gf, h0, h1⟩
      have hTv := hS.out.2.2.2 k hkE
      rw [HE.out, qst_at, HTD.out] at hTv
      obtain ⟨⟨c', hc1, hk1⟩, hp1, hB1⟩ := hTv
      simp only at hc1 hk1 hp1 hB1
      have y2 := hk1.cell 2
      simp at y2
      have hjt : j < (lkTo N j t.fields).length := by rw [lkTo_len]; exact hjf
      obtain ⟨-, -, z2, -, -⟩ := hp1.cells5 j hjt
      rw [lkTo_at N t.fields j j hjt hjf] at z2
      have HPX := Lib.hid hp1
      have hjq : j < (qst N T k j k).length := by rw [qst_at, HTD.out]; exact hjt
      have hjT : j < (T.getD k default).fields.length := by rw [HTD.out]; exact hjf
      have hgf := HGT.out.2.2.2.2 _ (List.getElem_mem hjf)
      have hko := hgf.2.2.2.2.2.1 H69.out
      obtain ⟨f, hf⟩ : ∃ f, t.fields[j] = f := ⟨_, rfl⟩
      have HST := Lib.hid (fun (w1 : World) (h : LinkAt w1 B p m (.slice (some ⟨g, 0, none⟩) n cap) N es (qst N T k j)) => h.store HF.out k hkE gf l cv (by rw [HE.out]) j hjq (lkA N f) (qst N T k (j + 1)) (by
       intro j'; rw [qst_store N T k j hjT hjq j']
       have e : (T.getD k default).fields[j] = f := by rw [← hf]; congr 1; rw [HTD.out]
       rw [e]))
      have HV3 := Lib.hid (hV.out.trans (by rw [oksF_in N t.fields j hjf] : _ = (((inRes N t.fields[j].kind).2 && oksF N (t.fields.drop (j + 1))) && linkE N (T.drop (k + 1)))))
      rw [hf] at z2 hko hgf HV3
      have HTI := Lib.hid (i_typeIn p m (.slice (some ⟨g, 0, none⟩) n cap) N f.kind wr hS.out.1 hS.out.2.2.1 (by have := hgf.2.2.2.2.1; omega) (fun n hn => by have := kRefs_len hko n hn; omega))
      have HSX := Lib.hid hS.out
      unfold ptrV at HTI
      have hAA : lkA N f = (inRes N f.kind).1.map fun b => ⟨b, 0, none⟩ := rfl
      rw [← hAA] at HTI
      generalize lkA N f = qa at *
      obtain ⟨u, hu⟩ : ∃ u, (inRes N f.kind).2 = u := ⟨_, rfl⟩
      rw [hu] at HTI HV3
      clear hf hV hS hgf hko hk1 hp1 hc1 hB1 hAA hjT hu
      cases u with
      | false =>
       have HF0 := Lib.hid (show r = false from HV3.out.trans (by simp))
       go_wp2_with fail
       refine HTI.out.mono ?_
       rintro e w1 ⟨rfl, hb1⟩
       go_wp2_with fail
       go_ret
       exact ⟨ret_b HF0.out.symm, below_mono_size hb2.out hB hb1, fun hh => absurd (HF0.out.symm.trans hh) (by decide)⟩
      | true =>
       have HV4 := Lib.hid (HV3.out.trans (by rw [Bool.true_and] : _ = (oksF N (t.fields.drop (j + 1)) && linkE N (T.drop (k + 1)))))
       go_wp2_with fail
       refine HTI.out.mono ?_
       rintro e w1 ⟨rfl, hb1⟩
       have HB1 := Lib.hid (below_mono_size hb2.out hB hb1)
       have HS1 := Lib.hid (HST.out w1 (HSX.out.below hb1))
       obtain ⟨-, -, -, -, z4⟩ := (HPX.out.below hb1).cells5 j hjt
       have z5 := (HPX.out.below hb1).nofreeze (j * 5 + 4)
       generalize (lkTo N j t.fields)[j].2 = qo at z4
       have HBS := Lib.hid (show Below B w (w1.setCell ⟨gf, j * 5 + 4, none⟩ (.pointer qa)) from HB1.out.setCell (Nat.le_trans hBgf (Nat.le_refl _)) _)
       go_wp2_with fail
       go_roundw
       case rel => exact ⟨j + 1, by omega, by go_num, HS1.out, HV4.out, HBS.out⟩
       case measure => simp [intOf]; omega
     ·obtain rfl : j = l := by omega
      have HV4 := Lib.hid (hV.out.trans (by rw [oksF_end N t.fields j (by rw [HLN.out]; exact Nat.le_refl _), Bool.true_and] : _ = linkE N (T.drop (k + 1))))
      have HS2 := Lib.hid (hS.out.congr (fun j' _ => qst_next N T k (by rw [HTD.out]; exact H69.out) j (by rw [HTD.out, HLN.out]; exact Nat.le_refl _) j'))
      clear hS hV
      go_wp2_with fail
      go_roundw
      case rel => exact ⟨k + 1, by omega, by go_num, HS2.out, HV4.out, hb2.out⟩
      case measure => simp [intOf]; omega
  ·obtain rfl : n = k := by omega
   have HRR := Lib.hid (hV.out.trans (linkE_end N T n (by rw [HN.out]; exact Nat.le_refl _)))
   have HS2 := Lib.hid (show LinkAt wr B p m (.slice ao n cap) N es (fun j => lkP N (T.getD j default)) from hS.out.congr (fun j hj => by
    have : j < n := by have := HEL.out; omega
    unfold qst; rw [if_pos this]))
   clear hS hV
   go_wp2_with fail
   go_ret
   exact ⟨ret_b HRR.out.symm, hb.out, fun _ => HS2.out⟩
end Go.Proofs.YtcjooeklehggaaaGreatDoor
