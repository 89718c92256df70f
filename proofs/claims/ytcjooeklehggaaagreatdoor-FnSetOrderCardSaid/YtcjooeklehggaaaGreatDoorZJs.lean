/- Lemmas of this seat. -/
import Derived.Deep.LoopGhost
import Derived.Test.YtcjooeklehggaaaGreatDoorZAs
import Derived.Test.YtcjooeklehggaaaGreatDoorZBs
import Derived.Test.YtcjooeklehggaaaGreatDoorZIs
set_option linter.unusedVariables false
set_option linter.unusedSimpArgs false
set_option maxRecDepth 100000
namespace Go.Proofs.YtcjooeklehggaaaGreatDoor
open Go.ChangeShapes Go.WideShapes Go.ChangeAt Go.RowKit M
open Go.Maps
def boolR (v : Value) : Option (DataW Empty × List MemPlace) :=
 match v with
 | .bool x => some (.lit (.bool x), [])
 | _ => none
theorem boolR_inv {v : Value} {x : Bool} {ps : List MemPlace} (h : boolR v = some (.lit (.bool x), ps)) : v = .bool x := by
 unfold boolR at h
 split at h
 ·simp only [Option.some.injEq, Prod.mk.injEq] at h
  have h1 := h.1
  injection h1 with h1; injection h1 with h1; rw [h1]
 ·cases h
def seenD (L : List Bs) : DataW Empty := L.foldl (fun D n => D.put (.string n) (.lit (.bool true))) (.map [])
theorem foldB_at (L : List Bs) (n : Bs) (D : DataW Empty) (hD : IsMap D) :
  (L.foldl (fun D n => D.put (.string n) (.lit (.bool true))) D).atKey (.string n) (.lit (.bool false)) = if L.contains n = true then .lit (.bool true) else D.atKey (.string n) (.lit (.bool false)) := by
 induction L generalizing D with
 | nil => rfl
 | cons p L ih =>
  rw [List.foldl_cons, ih _ (hD.put _ _), List.contains_cons]
  by_cases h : L.contains n = true
  ·rw [if_pos h, if_pos (by rw [h, Bool.or_true])]
  ·rw [if_neg h]
   by_cases e : n = p
   ·rw [if_pos (by simp [e]), e]; exact atKey_put_same (k := .string p) hD trivial _ _
   ·rw [if_neg (by intro hh; rw [Bool.or_eq_true] at hh; rcases hh with hh | hh; exact e (by simpa using hh); exact h hh)]
    exact atKey_put_other (by intro e2; injection e2 with e2; exact e e2) _ _
theorem seenD_at (L : List Bs) (n : Bs) : (seenD L).atKey (.string n) (.lit (.bool false)) = .lit (.bool (L.contains n)) := by
 unfold seenD
 rw [foldB_at L n _ isMap_empty]
 cases L.contains n <;> rfl
theorem seenD_put (L : List Bs) (n : Bs) : (seenD L).put (.string n) (.lit (.bool true)) = seenD (L ++ [n]) := by unfold seenD; rw [List.foldl_append]; rfl
def BMap (w : World) (b : Nat) (L : List Bs) : Prop := w.ownsMap Tryz.prog 9 boolR b L.length (seenD L)
theorem BMap.new (w : World) : BMap (w.alloc (.map #[] 0)) w.heap.size [] := World.ownsMap_made w Tryz.prog _ _
theorem BMap.look {w : World} {b : Nat} {L : List Bs} (h : BMap w b L) (n : Bs) (hn : n.length ≤ 2000000) :
  (Instr.lookup 198 (.map (some b)) (.string (S n)) false).run Tryz.prog w = .ok (.bool (L.contains n)) w := by
 obtain ⟨v, ps, hrun, hv⟩ := World.ownsMap.lookup (t := 198) h str_keyed Tryz.underlying198 (z := .bool false) (by simp [zeroValue]; rfl) (show boolR (.bool false) = some (.lit (.bool false), []) from rfl) (S_key n hn)
 rw [seenD_at] at hv
 rw [hrun, boolR_inv hv]
theorem BMap.put {w : World} {b : Nat} {L : List Bs} (h : BMap w b L) (n : Bs) (hn : n.length ≤ 2000000) (hL : L.length ≤ 1000) :
  ∃ w', (Instr.mapUpdate 198 (.map (some b)) (.string (S n)) (.bool true)).run Tryz.prog w = .ok () w' ∧ BMap w' b (L ++ [n]) ∧ w.grownBy w' (some b) := by
 obtain ⟨w', hrun, h1, h2⟩ := World.ownsMap.update (t := 198) h str_keyed Tryz.underlying198 (by unfold maxLen; omega) (S_key n hn) (show boolR (.bool true) = some (.lit (.bool true), []) from rfl)
 rw [seenD_put] at h1
 exact ⟨w', hrun, (by unfold BMap; simpa using h1), h2⟩
def findE (es : List Ent) (n : Bs) : Option Ent := es.find? fun e => e.t.name == n
def leadE (es : List Ent) (k : Bs) : Option Ent := match kRefs k with | [] => none | n :: _ => findE es n
theorem find_map (es : List Ent) (n : Bs) : find (es.map (·.t)) n = (findE es n).map (·.t) := by
 unfold find findE; rw [List.find?_map]; rfl
theorem findE_mem {es : List Ent} {n : Bs} {e : Ent} (h : findE es n = some e) : e ∈ es ∧ e.t.name = n := by
 unfold findE at h
 exact ⟨List.mem_of_find?_eq_some h, by simpa using List.find?_some h⟩
theorem nameAt_absent (es : List Ent) (n : Bs) (h : n ∉ es.map (fun e => e.t.name)) : nameAt (namesE es) n = none := by
 induction es with
 | nil => rfl
 | cons e r ih =>
  rw [List.map_cons, List.mem_cons, not_or] at h
  rw [show namesE (e :: r) = (e.t.name, e.b) :: namesE r from rfl, nameAt, ih h.2]
  simp only
  rw [if_neg (fun h2 => h.1 h2.symm)]
theorem nameAt_findE (es : List Ent) (hu : (es.map (fun e => e.t.name)).Nodup) (n : Bs) : nameAt (namesE es) n = (findE es n).map (·.b) := by
 induction es with
 | nil => rfl
 | cons e r ih =>
  rw [List.map_cons, List.nodup_cons] at hu
  rw [show namesE (e :: r) = (e.t.name, e.b) :: namesE r from rfl, nameAt]
  unfold findE
  rw [List.find?_cons]
  by_cases h : e.t.name = n
  ·rw [nameAt_absent r n (by rw [← h]; exact hu.1)]
   simp [h]
  ·rw [show (e.t.name == n) = false by simp [h]]
   simp only
   rw [ih hu.2]
   unfold findE
   cases List.find? (fun e => e.t.name == n) r <;> simp [h]
theorem inRes_lead (es : List Ent) (hu : (es.map (fun e => e.t.name)).Nodup) (k : Bs) (hk : kOk k = true) : (inRes (namesE es) k).1 = (leadE es k).map (·.b) := by
 unfold inRes leadE
 rw [if_pos hk]
 cases kRefs k with
 | nil => rfl
 | cons n r => simp only; exact nameAt_findE es hu n
theorem leadE_mem {es : List Ent} {k : Bs} {e : Ent} (h : leadE es k = some e) : e ∈ es := by
 unfold leadE at h
 split at h
 ·cases h
 ·exact (findE_mem h).1
theorem refT_lead (es : List Ent) (k : Bs) : refT (es.map (·.t)) k = if kDeep k = 0 then (leadE es k).map (·.t) else none := by
 rw [refT_refs]
 unfold leadE
 by_cases h : kDeep k = 0
 ·rw [if_pos h, if_pos h]
  cases kRefs k with
  | nil => rfl
  | cons n r => simp only; rw [find_map]
 ·rw [if_neg h, if_neg h]
def Graph (w : World) (B : Nat) (es : List Ent) : Prop := ∀ e ∈ es, Tv w B e (lkP (namesE es) e.t)
theorem Graph.below {w w' : World} {B : Nat} {es : List Ent} (h : Graph w B es) (hb : Below w.heap.size w w') : Graph w' B es := fun e he => (h e he).below hb
structure GoodE (es : List Ent) : Prop where
 good : ∀ e ∈ es, GoodT e.t
 uniq : (es.map (fun e => e.t.name)).Nodup
 len : es.length ≤ 8
def ptrE (o : Option Ent) : Value := ptrV (o.map (·.b))
theorem lkA_lead {es : List Ent} (hg : GoodE es) {f : Fl} (hk : kOk f.kind = true) : Value.pointer (lkA (namesE es) f) = ptrE (leadE es f.kind) := by
 unfold lkA ptrE ptrV
 rw [inRes_lead es hg.uniq f.kind hk]
theorem Graph.first {w : World} {B : Nat} {es : List Ent} (h : Graph w B es) (hg : GoodE es) {e : Ent} (he : e ∈ es) (h85 : e.t.sort = 85) :
  ∃ (g n cap : Nat) (f : Fl) (r : List Fl), e.v = .slice (some ⟨g, 0, none⟩) n cap ∧ 0 < n ∧ e.t.fields = f :: r ∧ kOk f.kind = true ∧ f.kind.length ≤ 12 ∧
   w.cell? ⟨g, 0, none⟩ = some (.int .i64 f.tag) ∧ w.cell? ⟨g, 1, none⟩ = some (.string (S f.name)) ∧ w.cell? ⟨g, 2, none⟩ = some (.string (S f.kind)) ∧ w.cell? ⟨g, 3, none⟩ = some (.string (S f.stand)) ∧ w.cell? ⟨g, 4, none⟩ = some (ptrE (leadE es f.kind)) := by
 obtain ⟨-, -, -, h1, h2⟩ := hg.good e he
 obtain ⟨f, r, hf⟩ : ∃ f r, e.t.fields = f :: r := by
  cases hfs : e.t.fields with
  | nil => exact absurd hfs (h1 (by omega))
  | cons f r => exact ⟨f, r, rfl⟩
 have hgf := h2 f (by rw [hf]; simp)
 have hko := hgf.2.2.2.2.2.1 (by omega)
 obtain ⟨-, hp, -⟩ := h e he
 have hl : lkP (namesE es) e.t = (f, lkA (namesE es) f) :: r.map (lkF (namesE es)) := by unfold lkP; rw [if_neg (by omega), hf]; rfl
 rw [hl] at hp
 obtain ⟨ao, cap, hv, hc, ho⟩ := hp.form
 obtain ⟨g, rfl⟩ : ∃ g, ao = some ⟨g, 0, none⟩ := by
  rcases ho with ⟨_, h0⟩ | ⟨g, h0, -⟩
  ·cases h0
  ·exact ⟨g, h0⟩
 rw [hv] at hp
 obtain ⟨x0, x1, x2, x3, x4⟩ := hp.cells5 0 (by simp)
 simp at x0 x1 x2 x3 x4
 exact ⟨g, _, cap, f, r, hv, by simp, hf, hko, hgf.2.2.2.2.1, x0, x1, x2, x3, by rw [← lkA_lead hg hko]; exact x4⟩
def RetCB (w : World) (X : List Ty) (t : Ty) (e : Ending) (w' : World) : Prop := ∃ bl, e = .returned (.bool bl) ∧ M.Comes X [] (some t) bl ∧ Below w.heap.size w w'
set_option maxHeartbeats 8000000 in
theorem i_comesBack (es : List Ent) (B : Nat) (e0 : Ent) (w : World) (hG : Graph w B es) (hg : GoodE es) (h0 : e0 ∈ es) :
  Calls Tryz.prog 117 #[.pointer (some ⟨e0.b, 0, none⟩)] w (RetCB w (es.map (·.t)) e0.t) := by
 obtain ⟨n, hn⟩ : ∃ n, es.length = n := ⟨_, rfl⟩
 have hn8 : n ≤ 8 := by rw [← hn]; exact hg.len
 have HN := Lib.hid hn; have HG := Lib.hid hg; have HGR := Lib.hid hG
 have HC0 := Lib.hid (show ∀ bl, M.Comes (es.map (·.t)) [] ((some e0).map (·.t)) bl → M.Comes (es.map (·.t)) [] (some e0.t) bl from fun _ h => h)
 have H0 := Lib.hid h0
 clear hn hg hG h0
 have hmm := @run_makeMap Tryz.prog
 go_enter Tryz.func117, Tryz.ntmps117
 go_wp2_with fail
 clear hmm
 go_loopg [0] (n + 1) (fun k x wr => ∃ (s : List Ty) (o : Option Ent), k + s.length = n + 1 ∧ x = ptrE o ∧ (∀ e, o = some e → e ∈ es) ∧ (s.map (·.name)).Nodup ∧ (∀ t ∈ s, t ∈ es.map (·.t)) ∧ Hid (BMap wr w.heap.size (s.map (·.name)).reverse) ∧ Hid (Below w.heap.size w wr) ∧ w.heap.size < wr.heap.size ∧ Hid (∀ bl, M.Comes (es.map (·.t)) s (o.map (·.t)) bl → M.Comes (es.map (·.t)) [] (some e0.t) bl))
 case atStart => exact ⟨[], some e0, by simp, rfl, (by intro e he; injection he with he; subst he; exact H0.out), by simp, by simp, BMap.new w, by (show Below w.heap.size w _; (repeat (first | exact Below.refl _ _ | apply below_drew | apply below_draws | apply below_alloc | (refine below_trans ?_ (by assumption)) | (refine Below.trans ?_ (by assumption))))), by simp, HC0.out⟩
 case round =>
  obtain ⟨s, o, hk, rfl, ho, hnd, hsub, hM, hb, hlt, hC⟩ := hrel
  cases o with
  | none =>
   have HF := Lib.hid (hC.out false (M.Comes.nil s))
   clear hC hM ho hnd hsub
   unfold ptrE ptrV
   simp only [Option.map_none]
   go_wp2_with fail
   go_ret
   exact ⟨false, rfl, HF.out, hb.out⟩
  | some e =>
   have he := ho e rfl
   have hGw := (HGR.out.below hb.out) e he
   obtain ⟨⟨c, hc, hk1⟩, -, -⟩ := hGw
   have y0 := hk1.cell 0
   have y1 := hk1.cell 1
   have y2 := hk1.cell 2
   simp at y0 y1 y2
   unfold ptrE ptrV
   simp only [Option.map_some]
   by_cases h85 : e.t.sort = 85
   ·have hc85 : (c == 85) = true := by simp; exact UInt8.toNat_inj.1 (by show _ = 85; omega)
    have hnl : e.t.name.length ≤ 2000000 := by
     have := isName_len (HG.out.good e he).2.1; omega
    have hlook := BMap.look (w := wr) hM.out e.t.name hnl
    rw [List.contains_reverse] at hlook
    cases hs : (s.map (·.name)).contains e.t.name with
    | true =>
     rw [hs] at hlook
     have HF := Lib.hid (hC.out true (M.Comes.back s e.t h85 (by simpa using hs)))
     clear hC hM ho hnd hsub hs
     go_wp2_with fail
     go_ret
     exact ⟨true, rfl, HF.out, hb.out⟩
    | false =>
     rw [hs] at hlook
     have hsn : e.t.name ∉ s.map (·.name) := by simpa using hs
     have hnd2 : ((e.t :: s).map (·.name)).Nodup := by rw [List.map_cons, List.nodup_cons]; exact ⟨hsn, hnd⟩
     have hsub2 : ∀ t ∈ e.t :: s, t ∈ es.map (·.t) := by
      intro t ht
      rcases List.mem_cons.1 ht with rfl | ht
      ·exact List.mem_map.2 ⟨e, he, rfl⟩
      ·exact hsub t ht
     have hpg : s.length + 1 ≤ n := by
      have := pigeon ((e.t :: s).map (·.name)) ((es.map (·.t)).map (·.name)) hnd2 (by
       intro x hx
       obtain ⟨u, hu, rfl⟩ := List.mem_map.1 hx
       exact List.mem_map.2 ⟨u, hsub2 u hu, rfl⟩)
      have h2 := HN.out
      simp at this; omega
     obtain ⟨w2, hput, hM2, hg2⟩ := BMap.put (w := wr) hM.out e.t.name hnl (by simp; omega)
     have hb2 : Below w.heap.size w w2 := hb.out.grown hg2 hb.out.size (fun k e => by injection e with e; omega)
     have hG2 := HGR.out.below hb2
     obtain ⟨g, m, cap, f, r, hv, hm0, hf, hko, hkl, x0, x1, x2, x3, x4⟩ := hG2.first HG.out he h85
     obtain ⟨⟨c', hc', hk2⟩, -, -⟩ := hG2 e he
     have z2 := hk2.cell 2
     rw [hv] at z2
     simp at z2
     have hlt2 : w.heap.size < w2.heap.size := by have := hg2.size; omega
     have HM2 := Lib.hid (show BMap w2 w.heap.size (((e.t :: s).map (·.name)).reverse) by rw [List.map_cons, List.reverse_cons]; exact hM2)
     have HB2 := Lib.hid hb2
     have HST := Lib.hid (show M.stepT (es.map (·.t)) e.t = (if kDeep f.kind = 0 then (leadE es f.kind).map (·.t) else none) by
      unfold M.stepT; rw [if_pos h85, hf]; exact refT_lead es f.kind)
     have HON := Lib.hid (fun bl h => hC.out bl (M.Comes.on s e.t bl h85 hsn h))
     have HKD := Lib.hid (fun w => i_KindDeep f.kind w (by omega))
     have HND := Lib.hid hnd2; have HSUB := Lib.hid hsub2
     have hkd0 : 0 ≤ kDeep f.kind := by
      unfold kOk at hko; unfold kDeep
      cases hkr : kindR f.kind with
      | none => rw [hkr] at hko; cases hko
      | some x => simp only; omega
     obtain ⟨d, hd⟩ : ∃ d, kDeep f.kind = d := ⟨_, rfl⟩
     rw [hd] at HKD HST hkd0
     obtain ⟨q, hq⟩ : ∃ q, leadE es f.kind = q := ⟨_, rfl⟩
     rw [hq] at x4 HST
     have HQ := Lib.hid hq
     unfold ptrE ptrV at x4
     clear hC hM ho hnd hsub hs hsn hM2 hg2 hb2 hG2 hv hf hko hk2 hc' hnd2 hsub2 hk1 hd hq
     by_cases hd0 : 0 < d
     ·go_wp2_with (go_at_call 146; refine (HKD.out _).mono ?_; rintro e w' ⟨rfl, rfl⟩)
      go_roundg (gk - 1)
      case measure => omega
      case rel => exact ⟨e.t :: s, none, by simp; omega, rfl, (by intro e' h; cases h), HND.out, HSUB.out, World.ownsMap.alloc HM2.out _, below_alloc HB2.out _, by simp; omega, (fun bl h => HON.out bl (by rw [HST.out, if_neg (by omega)]; exact h))⟩
     ·have d0 : d = 0 := by omega
      subst d0
      go_wp2_with (go_at_call 146; refine (HKD.out _).mono ?_; rintro e w' ⟨rfl, rfl⟩)
      go_roundg (gk - 1)
      case measure => omega
      case rel => exact ⟨e.t :: s, q, by simp; omega, by unfold ptrE ptrV; rw [Option.map_map], (by intro e' h; subst h; exact leadE_mem HQ.out), HND.out, HSUB.out, World.ownsMap.alloc HM2.out _, below_alloc HB2.out _, by simp; omega, (fun bl h => HON.out bl (by rw [HST.out]; simpa using h))⟩
   ·have hc85 : (c == 85) = false := by
     rw [beq_eq_false_iff_ne]; rintro rfl; exact h85 hc
    have HF := Lib.hid (hC.out false (M.Comes.other s e.t h85))
    clear hC hM ho hnd hsub
    go_wp2_with fail
    go_ret
    exact ⟨false, rfl, HF.out, hb.out⟩
set_option maxHeartbeats 8000000 in
theorem i_haveValues (p B m : Nat) (ov : Value) (es : List Ent) (w : World) (hk : Blk w p 110 #[ov, .map (some m)]) (ho : Ptrs w B ov (es.map (·.b))) (hG : Graph w B es) (hg : GoodE es) :
  Calls Tryz.prog 92 #[.pointer (some ⟨p, 0, none⟩)] w fun e w' => e = .returned (.bool ((es.map (·.t)).all (endsB (es.map (·.t))))) ∧ Below w.heap.size w w' := by
 obtain ⟨ao, cap, rfl, hc, hf⟩ := ho.form
 obtain ⟨n, hn⟩ : ∃ n, es.length = n := ⟨_, rfl⟩
 have hn8 : n ≤ 8 := by rw [← hn]; exact hg.len
 have hbl : (es.map (·.b)).length = n := by rw [List.length_map, hn]
 rw [hbl] at ho hk hc
 have hU : Uniq (es.map (·.t)) := by
  intro t ht u hu e
  obtain ⟨x, hx, rfl⟩ := List.mem_map.1 ht
  obtain ⟨y, hy, rfl⟩ := List.mem_map.1 hu
  obtain ⟨i, hi, rfl⟩ := List.mem_iff_getElem.1 hx
  obtain ⟨j, hj, rfl⟩ := List.mem_iff_getElem.1 hy
  have hi2 : i < (es.map fun e : Ent => e.t.name).length := by simpa using hi
  have hj2 : j < (es.map fun e : Ent => e.t.name).length := by simpa using hj
  have := (List.getElem_inj (h₀ := hi2) (h₁ := hj2) hg.uniq).1 (by simpa using e)
  subst this; rfl
 obtain ⟨X, hX⟩ : ∃ X, es.map (·.t) = X := ⟨_, rfl⟩
 have HC := Lib.hid (fun (w' : World) (e0 : Ent) (hb : Below w.heap.size w w') (h0 : e0 ∈ es) => i_comesBack es B e0 w' (hG.below hb) hg h0)
 rw [hX] at hU HC
 rw [hX]
 have hXl : X.length = n := by rw [← hX, List.length_map, hn]
 have HXX := Lib.hid (fun (k : Nat) (hk : k < es.length) (hk2 : k < X.length) => show X[k] = es[k].t from by
  have : (es.map (·.t))[k]? = X[k]? := by rw [hX]
  rw [List.getElem?_map, List.getElem?_eq_getElem hk, List.getElem?_eq_getElem hk2] at this
  injection this with this; exact this.symm)
 obtain ⟨r, hr⟩ : ∃ r, X.all (endsB X) = r := ⟨_, rfl⟩
 rw [hr]
 have HR := Lib.hid hr; have HN := Lib.hid hn; have HU := Lib.hid hU; have HP := Lib.hid ho; have HF := Lib.hid hf; have HBL := Lib.hid hbl; have HXL := Lib.hid hXl
 have c0 := hk.cell 0
 simp at c0
 clear hr hn hU ho hf hbl hXl hX hG hg hk
 go_enter Tryz.func92, Tryz.ntmps92
 go_wp2_with fail
 go_loopw [10] (fun i wr => ∃ k : Nat, k ≤ n ∧ i = .int .i64 k ∧ Hid (r = (X.drop k).all (endsB X)) ∧ Hid (Below w.heap.size w wr)) (fun i _ => n - (intOf i).toNat)
 case atStart => exact ⟨0, by omega, rfl, HR.out.symm, Below.refl _ _⟩
 case round =>
  obtain ⟨k, hk, rfl, hV, hb⟩ := hrel
  by_cases hkn : k < n
  ·have hkE : k < es.length := by rw [HN.out]; exact hkn
   have hkX : k < X.length := by rw [HXL.out]; exact hkn
   obtain ⟨g, rfl⟩ : ∃ g, ao = some ⟨g, 0, none⟩ := by
    rcases HF.out with ⟨_, h0⟩ | ⟨g, h0, -⟩
    ·have h1 := HBL.out; rw [h0] at h1; simp at h1; omega
    ·exact ⟨g, h0⟩
   have x0 := (HP.out.below hb.out).cell k (by rw [HBL.out]; exact hkn)
   obtain ⟨e, he⟩ : ∃ e, es[k] = e := ⟨_, rfl⟩
   rw [show (es.map (·.b)).getD k 0 = e.b by rw [List.getD_eq_getElem?_getD, List.getElem?_map, List.getElem?_eq_getElem hkE, he]; rfl] at x0
   have hXk := HXX.out k hkE hkX
   rw [he] at hXk
   have HCB := Lib.hid (HC.out wr e hb.out (by rw [← he]; exact List.getElem_mem hkE))
   have HV := Lib.hid (hV.out.trans (by rw [List.drop_eq_getElem_cons hkX, List.all_cons, hXk] : _ = (endsB X e.t && (X.drop (k + 1)).all (endsB X))))
   have HM := Lib.hid (show e.t ∈ X by rw [← hXk]; exact List.getElem_mem hkX)
   clear hV hXk he hkX hkE
   go_wp2_with fail
   refine HCB.out.mono ?_
   rintro e' w1 ⟨bl, rfl, hcb, hb1⟩
   have hcb2 := comes_endsB HU.out HM.out hcb
   cases bl with
   | true =>
    have HF0 := Lib.hid (show r = false by
     rw [HV.out]
     have : endsB X e.t = false := by cases h : endsB X e.t with | false => rfl | true => rw [h] at hcb2; cases hcb2
     rw [this]; rfl)
    clear hcb hcb2
    go_wp2_with fail
    go_ret
    exact ⟨ret_b HF0.out.symm, hb.out.trans (hb1.mono hb.out.size)⟩
   | false =>
    have HV2 := Lib.hid (show r = (X.drop (k + 1)).all (endsB X) by
     rw [HV.out]
     have : endsB X e.t = true := by cases h : endsB X e.t with | true => rfl | false => rw [h] at hcb2; cases hcb2
     rw [this]; rfl)
    have HB2 := Lib.hid (hb.out.trans (hb1.mono hb.out.size))
    clear hcb hcb2
    go_wp2_with fail
    go_roundw
    case rel => exact ⟨k + 1, by omega, by go_num, HV2.out, HB2.out⟩
    case measure => simp [intOf]; omega
  ·have HRR := Lib.hid (hV.out.trans (by rw [List.drop_of_length_le (by rw [HXL.out]; omega)]; rfl : _ = true))
   clear hV
   go_wp2_with fail
   go_ret
   exact ⟨ret_b HRR.out.symm, hb.out⟩
def lin (s : Bs) (P : List Ty) : Option (List Ty) := linesP (s.length + 1) s P
theorem lin_eq (f : Nat) (s : Bs) (P : List Ty) (hf : s.length < f) (hP : P.length ≤ 8) : linesP f s P = lin s P := by
 unfold lin; rw [linesP_eq f s P hf hP, linesP_eq (s.length + 1) s P (by omega) hP]
theorem lin_nil (P : List Ty) : lin [] P = some P := by unfold lin; rw [linesP, if_pos rfl]
theorem lin_open {s : Bs} {P : List Ty} (hs : s ≠ []) (h : cutHas 10 s = false) : lin s P = none := by
 unfold lin; rw [linesP, if_neg hs, if_neg (by rw [h]; decide)]
theorem lin_bad {s : Bs} {P : List Ty} (hs : s ≠ []) (ht : typeP (cutA 10 s) = none) : lin s P = none := by
 unfold lin; rw [linesP, if_neg hs, ht]; split <;> rfl
theorem lin_no {s : Bs} {P : List Ty} {t : Ty} (hs : s ≠ []) (ht : typeP (cutA 10 s) = some t) (h2 : (decide (P.length = 8) || hasName P t.name) = true) : lin s P = none := by
 unfold lin; rw [linesP, if_neg hs, ht]
 split
 ·simp only; rw [if_pos (by simpa using h2)]
 ·rfl
theorem lin_on {s : Bs} {P : List Ty} {t : Ty} (hs : s ≠ []) (h : cutHas 10 s = true) (ht : typeP (cutA 10 s) = some t) (h2 : (decide (P.length = 8) || hasName P t.name) = false) (hP : P.length ≤ 8) : lin s P = lin (cutB 10 s) (P ++ [t]) := by
 have hl := cutB_lt 10 s h
 have hp8 : P.length ≠ 8 := by simp at h2; exact h2.1
 rw [← lin_eq s.length (cutB 10 s) (P ++ [t]) hl (by simp; omega)]
 unfold lin; rw [linesP, if_neg hs, if_pos h, ht]
 simp only
 rw [if_neg (by simp at h2; simp [h2])]
def RetSet (w : World) (o : Option (List Ty)) (e : Ending) (w' : World) : Prop := Below w.heap.size w w' ∧
  ((o = none ∧ e = .returned (.tuple #[.agg #[.slice none 0 0, .map none], .bool false])) ∨
   ∃ (es : List Ent) (ov : Value) (m : Nat), o = some (es.map (·.t)) ∧ GoodE es ∧ Graph w' w.heap.size es ∧ Ptrs w' w.heap.size ov (es.map (·.b)) ∧ NMap w' m (namesE es) ∧ e = .returned (.tuple #[.agg #[ov, .map (some m)], .bool true]))
theorem RetSet.no {w w' : World} {o : Option (List Ty)} (h : o = none) (hb : Below w.heap.size w w') : RetSet w o (.returned (.tuple #[.agg #[.slice none 0 0, .map none], .bool false])) w' := ⟨hb, .inl ⟨h, rfl⟩⟩
theorem linkE_linkB (es : List Ent) (hg : GoodE es) : linkE (namesE es) (es.map (·.t)) = linkB (es.map (·.t)) (es.map (·.t)) := by
 unfold linkE linkB
 rw [Bool.eq_iff_iff, List.all_eq_true, List.all_eq_true]
 have key : ∀ t ∈ es.map (·.t), (t.sort == 69 || t.fields.all fun f => (inRes (namesE es) f.kind).2) = (t.sort == 69 || t.fields.all (fieldOk (es.map (·.t)))) := by
  intro t ht
  obtain ⟨e, he, rfl⟩ := List.mem_map.1 ht
  by_cases h69 : e.t.sort = 69
  ·simp [h69]
  ·congr 1
   rw [Bool.eq_iff_iff, List.all_eq_true, List.all_eq_true]
   have hg2 := (hg.good e he).2.2.2.2
   have k2 : ∀ f ∈ e.t.fields, (inRes (namesE es) f.kind).2 = fieldOk (es.map (·.t)) f := by
    intro f hf
    have hko := (hg2 f hf).2.2.2.2.2.1 h69
    unfold inRes fieldOk
    rw [if_pos hko, coreName_refs]
    cases kRefs f.kind with
    | nil => rfl
    | cons n r => simp only [List.head?_cons]; rw [nameAt_findE es hg.uniq n, find_map]; cases findE es n <;> rfl
   exact ⟨fun h f hf => by rw [← k2 f hf]; exact h f hf, fun h f hf => by rw [k2 f hf]; exact h f hf⟩
 exact ⟨fun h t ht => by rw [← key t ht]; exact h t ht, fun h t ht => by rw [key t ht]; exact h t ht⟩
theorem SetE.link {w : World} {B p : Nat} {es : List Ent} (h : SetE w B p es) : ∃ ov m, LinkAt w B p m ov (namesE es) es (qst (namesE es) (es.map (·.t)) 0 0) ∧ es.Pairwise Far := by
 obtain ⟨ov, m, hk, hp, hm, ht, hf, -⟩ := h
 refine ⟨ov, m, ⟨hk, hp, hm, fun j hj => ?_⟩, hf⟩
 have h1 := ht es[j] (List.getElem_mem hj)
 have hd : (es.map (·.t)).getD j default = es[j].t := by rw [List.getD_eq_getElem?_getD, List.getElem?_map, List.getElem?_eq_getElem hj]; rfl
 have : qst (namesE es) (es.map (·.t)) 0 0 j = un es[j].t.fields := by
  unfold qst; rw [if_neg (by omega), hd]; split
  ·rw [lkTo_0]
  ·rfl
 rw [this]; exact h1
theorem LinkAt.graph {w : World} {B p m : Nat} {ov : Value} {es : List Ent} (h : LinkAt w B p m ov (namesE es) es (fun j => lkP (namesE es) ((es.map (·.t)).getD j default))) : Graph w B es := by
 intro e he
 obtain ⟨j, hj, rfl⟩ := List.mem_iff_getElem.1 he
 have hd : (es.map (·.t)).getD j default = es[j].t := by rw [List.getD_eq_getElem?_getD, List.getElem?_map, List.getElem?_eq_getElem hj]; rfl
 have := h.2.2.2 j hj
 simp only at this
 rw [hd] at this; exact this
theorem GoodE.add {es : List Ent} {e : Ent} (h : GoodE es) (he : GoodT e.t) (h2 : (decide ((es.map (·.t)).length = 8) || hasName (es.map (·.t)) e.t.name) = false) : GoodE (es ++ [e]) := by
 simp at h2
 refine ⟨?_, ?_, ?_⟩
 ·intro x hx
  rcases List.mem_append.1 hx with hx | hx
  ·exact h.good x hx
  ·simp at hx; subst hx; exact he
 ·rw [List.map_append, List.nodup_append]
  refine ⟨h.uniq, by simp, ?_⟩
  intro a ha b hb
  simp at hb; subst hb
  obtain ⟨x, hx, rfl⟩ := List.mem_map.1 ha
  exact hasName_no h2.2 x.t (List.mem_map.2 ⟨x, hx, rfl⟩)
 ·have := h.len; simp; omega
theorem GoodE.nil : GoodE [] := ⟨by simp, by simp, by simp⟩
set_option maxHeartbeats 8000000 in
theorem i_readSchema_long (s : Bs) (w : World) (hs : 400 < s.length) (hs2 : s.length ≤ 4000000) : Calls Tryz.prog 65 #[.string (S s)] w (RetSet w (ofP s)) := by
 have HF := Lib.hid (show ofP s = none by unfold ofP; rw [if_neg (by omega)])
 generalize ofP s = o at *
 go_enter Tryz.func65, Tryz.ntmps65
 go_wp2_with fail
 refine bodyPost_ret (v := .tuple #[.agg #[.slice none 0 0, .map none], .bool false]) (by simp [results, Tryz.results65, go_sem]) rfl ?_
 exact RetSet.no HF.out (by (repeat (first | with_reducible exact Below.refl _ _ | with_reducible apply below_drew | with_reducible apply below_draws | with_reducible apply below_alloc | with_reducible apply below_set | (with_reducible refine below_trans ?_ (by assumption)) | (with_reducible refine Below.trans ?_ (by assumption)) | exact Nat.le_refl _ | omega | (simp <;> omega))))
theorem ofP_short {s : Bs} (h : s.length ≤ 400) : ofP s = match lin s [] with | none => none | some X => if (linkB X X && X.all (endsB X)) = true then some X else none := by
 unfold ofP lin; rw [if_pos h]; cases linesP (s.length + 1) s [] <;> rfl
theorem RetPT.no_b {w w' : World} {o : Option Ty} {e : Ending} (h : RetPT w o e w') (ho : o = none) : e = .returned (.tuple #[.pointer none, .bool false]) ∧ Below w.heap.size w w' := by
 obtain ⟨hb, ⟨-, h⟩ | ⟨t, b, h, -⟩⟩ := h
 ·exact ⟨h, hb⟩
 ·rw [ho] at h; cases h
theorem RetPT.some_b {w w' : World} {o : Option Ty} {e : Ending} {t : Ty} (h : RetPT w o e w') (ho : o = some t) : Below w.heap.size w w' ∧ ∃ b, e = .returned (.tuple #[.pointer (some ⟨b, 0, none⟩), .bool true]) ∧ TypeAt w' w.heap.size b t := by
 obtain ⟨hb, ⟨h, -⟩ | ⟨t', b, h, he, ht⟩⟩ := h
 ·rw [ho] at h; cases h
 ·rw [ho] at h; injection h with h; subst h; exact ⟨hb, b, he, ht⟩
theorem TypeAt.mono {w : World} {B B' b : Nat} {t : Ty} (h : TypeAt w B b t) (hb : B' ≤ B) : TypeAt w B' b t := by
 obtain ⟨c, v, hc, hk, hp, hB⟩ := h
 exact ⟨c, v, hc, hk, hp.mono hb, Nat.le_trans hb hB⟩
theorem RetPT.form {w w' : World} {o : Option Ty} {e : Ending} (h : RetPT w o e w') : Below w.heap.size w w' ∧ ∃ (q : Option Addr) (ok : Bool), e = .returned (.tuple #[.pointer q, .bool ok]) := by
 obtain ⟨hb, ⟨-, h⟩ | ⟨t', b, -, he, -⟩⟩ := h
 ·exact ⟨hb, _, _, h⟩
 ·exact ⟨hb, _, _, he⟩
theorem Blk.set2 {w : World} {g : Nat} {t : TypeId} {a b : Value} (h : Blk w g t #[a, b]) (a' b' : Value) : Blk ((w.setCell ⟨g, 0, none⟩ a').setCell ⟨g, 1, none⟩ b') g t #[a', b'] := by
 have h1 := (h.set_ 0 a').set_ 1 b'
 simpa using h1
theorem Tv.mono {w : World} {B B' : Nat} {e : Ent} {ps : List PF} (h : Tv w B e ps) (hb : B' ≤ B) : Tv w B' e ps := by
 obtain ⟨hk, hp, hB⟩ := h
 exact ⟨hk, hp.mono hb, Nat.le_trans hb hB⟩
theorem zero_end {w w2 : World} {a b : Value} (h : Blk w2 w.heap.size 110 #[a, b]) (hb : Below w.heap.size w w2) (a' b' : Value) : ∃ W, ((w2.setCell ⟨w.heap.size, 0, none⟩ a').setCell ⟨w.heap.size, 1, none⟩ b') = W ∧ Blk W w.heap.size 110 #[a', b'] ∧ Below w.heap.size w W :=
 ⟨_, rfl, h.set2 a' b', below_set (below_set hb (Nat.le_refl _) _) (Nat.le_refl _) _⟩
set_option maxHeartbeats 16000000 in
theorem i_readSchema_short (s : Bs) (w : World) (hs : s.length ≤ 400) : Calls Tryz.prog 65 #[.string (S s)] w (RetSet w (ofP s)) := by
 have HO := Lib.hid (ofP_short hs)
 generalize ofP s = o at *
 have hmm := @run_makeMap Tryz.prog
 go_enter Tryz.func65, Tryz.ntmps65
 go_wp2_with fail
 clear hmm
 go_loopw [0] (fun x wr => ∃ (l : Bs) (es : List Ent), x = .string (S l) ∧ l.length ≤ 400 ∧ Hid (SetE wr (w.heap.size + 1) (w.heap.size + 1 + 1) es) ∧ Hid (GoodE es) ∧ Hid (lin s [] = lin l (es.map (·.t))) ∧ Hid (Below w.heap.size w wr) ∧ Hid (Blk wr w.heap.size 110 #[.slice none 0 0, .map none])) (fun x _ => match x with | .string s => s.size | _ => 0)
 case atStart =>
  refine ⟨s, [], rfl, hs, ?_, GoodE.nil, rfl, ?_, ?_⟩
  ·refine ⟨.slice none 0 0, w.heap.size + 1, ?_, World.ownsRow_nil _ _ _ 1, ?_, by simp, by simp, by omega, by omega⟩
   ·have h1 : (((w.alloc (.cells #[.slice none 0 0, .map none] 110)).alloc (.map #[] 0))).heap.size = w.heap.size + 1 + 1 := by simp
    have h2 := Blk.new ((w.alloc (.cells #[.slice none 0 0, .map none] 110)).alloc (.map #[] 0)) 110 #[.slice none 0 0, .map (some (w.heap.size + 1))]
    rw [h1] at h2; exact h2
   ·have h1 : (w.alloc (.cells #[.slice none 0 0, .map none] 110)).heap.size = w.heap.size + 1 := by simp
    have h2 := NMap.new (w.alloc (.cells #[.slice none 0 0, .map none] 110))
    rw [h1] at h2; exact h2.alloc _
  ·show Below w.heap.size w _; (repeat (first | exact Below.refl _ _ | apply below_drew | apply below_draws | apply below_alloc | (refine below_trans ?_ (by assumption)) | (refine Below.trans ?_ (by assumption))))
  ·exact ((Blk.new w 110 #[.slice none 0 0, .map none]).alloc _).alloc _
 case round =>
  obtain ⟨l, es, rfl, hl, hS, hG, hV, hb, hR⟩ := hrel
  have hwr : w.heap.size + 1 ≤ wr.heap.size := hR.out.lt
  by_cases hl0 : l = []
  ·subst hl0
   have HO2 := Lib.hid (show o = if (linkB (es.map (·.t)) (es.map (·.t)) && (es.map (·.t)).all (endsB (es.map (·.t)))) = true then some (es.map (·.t)) else none by
    rw [HO.out, hV.out, lin_nil])
   obtain ⟨ov, m, hL, hfar⟩ := hS.out.link
   have HLK := Lib.hid (i_link (w.heap.size + 1 + 1) m (w.heap.size + 1) ov (namesE es) es (es.map (·.t)) wr hL hfar rfl (by
    intro t ht; obtain ⟨e, he, rfl⟩ := List.mem_map.1 ht; exact hG.out.good e he) hwr (by rw [List.length_map]; exact hG.out.len))
   rw [linkE_linkB es hG.out] at HLK
   obtain ⟨u, hu⟩ : ∃ u, linkB (es.map (·.t)) (es.map (·.t)) = u := ⟨_, rfl⟩
   rw [hu] at HLK HO2
   clear hu hV hL hfar hS
   cases u with
   | false =>
    have HF := Lib.hid (show o = none by rw [HO2.out]; simp)
    go_wp2_with fail
    refine HLK.out.mono ?_
    rintro e w1 ⟨rfl, hb1, -⟩
    have hR1 := hR.out.below hb1 (by omega)
    have hB1 := hb.out.trans (hb1.mono (by omega))
    have c0 := hR1.cell 0; have c1 := hR1.cell 1; have f0 := hR1.frozen 0; have f1 := hR1.frozen 1
    simp at c0 c1
    go_wp2_with fail
    obtain ⟨W, hW, hWB, hWb⟩ := zero_end hR1 hB1 (.slice none 0 0) (.map none)
    rw [hW]
    clear hW c0 c1 f0 f1
    have c0 := hWB.cell 0; have c1 := hWB.cell 1; have f0 := hWB.frozen 0; have f1 := hWB.frozen 1
    simp at c0 c1
    refine bodyPost_ret (v := .tuple #[.agg #[.slice none 0 0, .map none], .bool false]) (by simp [results, Tryz.results65, go_sem, c0, c1, f0, f1]) rfl ?_
    exact RetSet.no HF.out hWb
   | true =>
    obtain ⟨z, hz⟩ : ∃ z, (es.map (·.t)).all (endsB (es.map (·.t))) = z := ⟨_, rfl⟩
    rw [hz] at HO2
    have HZ := Lib.hid hz; clear hz
    have HHV := Lib.hid (fun (w1 : World) (h : LinkAt w1 (w.heap.size + 1) (w.heap.size + 1 + 1) m ov (namesE es) es (fun j => lkP (namesE es) ((es.map (·.t)).getD j default))) => i_haveValues (w.heap.size + 1 + 1) (w.heap.size + 1) m ov es w1 h.1 h.2.1 h.graph hG.out)
    rw [HZ.out] at HHV
    cases z with
    | false =>
     have HF := Lib.hid (show o = none by rw [HO2.out]; simp)
     go_wp2_with (first | (go_at_call 91; refine HLK.out.mono ?_; rintro e w1 ⟨rfl, hb1, hlk⟩; have HL1 := Lib.hid (hlk rfl); clear hlk) | (go_at_call 92; refine (HHV.out w1 HL1.out).mono ?_; rintro e w2 ⟨rfl, hb2⟩; have HR2 := Lib.hid ((hR.out.below hb1 (by omega)).keep hb2); have HB2 := Lib.hid ((hb.out.trans (hb1.mono (by omega))).trans (hb2.mono (Nat.le_trans hb.out.size hb1.size))); have c0 := ((hR.out.below hb1 (by omega)).keep hb2).cell 0; have c1 := ((hR.out.below hb1 (by omega)).keep hb2).cell 1; have f0 := ((hR.out.below hb1 (by omega)).keep hb2).frozen 0; have f1 := ((hR.out.below hb1 (by omega)).keep hb2).frozen 1; simp at c0 c1))
     obtain ⟨W, hW, hWB, hWb⟩ := zero_end HR2.out HB2.out (.slice none 0 0) (.map none)
     rw [hW]
     clear hW c0 c1 f0 f1
     have c0 := hWB.cell 0; have c1 := hWB.cell 1; have f0 := hWB.frozen 0; have f1 := hWB.frozen 1
     simp at c0 c1
     refine bodyPost_ret (v := .tuple #[.agg #[.slice none 0 0, .map none], .bool false]) (by simp [results, Tryz.results65, go_sem, c0, c1, f0, f1]) rfl ?_
     exact RetSet.no HF.out hWb
    | true =>
     have HF := Lib.hid (show o = some (es.map (·.t)) by rw [HO2.out]; simp)
     go_wp2_with (first | (go_at_call 91; refine HLK.out.mono ?_; rintro e w1 ⟨rfl, hb1, hlk⟩; have HL1 := Lib.hid (hlk rfl); clear hlk) | (go_at_call 92; refine (HHV.out w1 HL1.out).mono ?_; rintro e w2 ⟨rfl, hb2⟩; have HR2 := Lib.hid ((hR.out.below hb1 (by omega)).keep hb2); have HB2 := Lib.hid ((hb.out.trans (hb1.mono (by omega))).trans (hb2.mono (Nat.le_trans hb.out.size hb1.size))); have HL2 := Lib.hid (HL1.out.below hb2); obtain ⟨ao, cap, hov, -, -⟩ := HL1.out.2.1.form; subst hov; have c0 := ((hR.out.below hb1 (by omega)).keep hb2).cell 0; have c1 := ((hR.out.below hb1 (by omega)).keep hb2).cell 1; have f0 := ((hR.out.below hb1 (by omega)).keep hb2).frozen 0; have f1 := ((hR.out.below hb1 (by omega)).keep hb2).frozen 1; have d0 := HL2.out.1.cell 0; have d1 := HL2.out.1.cell 1; simp at c0 c1 d0 d1))
     obtain ⟨W, hW, hWB, hWb⟩ := zero_end HR2.out HB2.out (.slice ao es.length cap) (.map (some m))
     have hg1 : w2.grownBy W (some w.heap.size) := by rw [← hW]; exact grown_set (grown_set (grown_self _ _))
     have hK : KeepTF w2 W := KeepTF.grown hg1 (fun r o e ho cs s => by
      injection e with e; subst e
      have h2 := HR2.out; unfold Blk at h2
      rw [h2] at ho; injection ho with ho; subst ho
      exact ⟨fun h => (by injection h with _ h _; cases h), fun h => (by injection h with _ h _; cases h)⟩)
     have HGW := Lib.hid (show Graph W w.heap.size es from fun e he => ((HL2.out.graph e he).keepTF hK).mono (by omega))
     have HPW := Lib.hid (show Ptrs W w.heap.size (.slice ao es.length cap) (es.map (·.b)) by
      have h1 : Ptrs w2 (w.heap.size + 1) (.slice ao es.length cap) (es.map (·.b)) := by have := HL2.out.2.1; simpa using this
      exact (World.ownsRow.kept h1 hg1 (.inr (fun e => by have := World.ownsRow.lt h1 _ e; omega))).mono (by omega))
     have HNW := Lib.hid (show NMap W m (namesE es) from HL2.out.2.2.1.kept hg1 (HL2.out.2.2.1.ne HR2.out))
     rw [hW]
     clear hW c0 c1 d0 d1 hg1 hK
     have c0 := hWB.cell 0; have c1 := hWB.cell 1; have f0 := hWB.frozen 0; have f1 := hWB.frozen 1
     simp at c0 c1
     refine bodyPost_ret (v := .tuple #[.agg #[.slice ao es.length cap, .map (some m)], .bool true]) (by simp [results, Tryz.results65, go_sem, c0, c1, f0, f1]) rfl ?_
     exact ⟨hWb, .inr ⟨es, _, m, HF.out, hG.out, HGW.out, HPW.out, HNW.out, rfl⟩⟩
  ·have hle : l.isEmpty = false := by cases l <;> simp_all
   have hal := cutA_len 10 l
   have hbl := cutB_len 10 l
   have HC := Lib.hid (fun w => i_Cut l 10 w (by omega))
   rw [show ((10 : UInt8).toNat : Int) = 10 from rfl] at HC
   have HT := Lib.hid (fun w => i_readType (cutA 10 l) w (by omega))
   cases hh : cutHas 10 l with
   | false =>
    have HF := Lib.hid (show o = none by rw [HO.out, hV.out, lin_open hl0 hh])
    rw [hh] at HC
    clear hh hV hl0 hS
    generalize cutA 10 l = a at *
    generalize cutB 10 l = b at *
    go_wp2_with (first | (go_at_call 88; refine (HC.out _).mono ?_; rintro e w1 ⟨rfl, hb1⟩) | (go_at_call 89; refine (HT.out _).mono ?_; intro e w2 hret; obtain ⟨hb2, q, ok, rfl⟩ := hret.form; have HR2 := Lib.hid ((hR.out.keep hb1).keep hb2); have HB2 := Lib.hid ((hb.out.trans (hb1.mono hb.out.size)).trans (hb2.mono (Nat.le_trans hb.out.size hb1.size))); have c0 := ((hR.out.keep hb1).keep hb2).cell 0; have c1 := ((hR.out.keep hb1).keep hb2).cell 1; have f0 := ((hR.out.keep hb1).keep hb2).frozen 0; have f1 := ((hR.out.keep hb1).keep hb2).frozen 1; simp at c0 c1; clear hret))
    obtain ⟨W, hW, hWB, hWb⟩ := zero_end HR2.out HB2.out (.slice none 0 0) (.map none)
    rw [hW]
    clear hW c0 c1 f0 f1
    have c0 := hWB.cell 0; have c1 := hWB.cell 1; have f0 := hWB.frozen 0; have f1 := hWB.frozen 1
    simp at c0 c1
    refine bodyPost_ret (v := .tuple #[.agg #[.slice none 0 0, .map none], .bool false]) (by simp [results, Tryz.results65, go_sem, c0, c1, f0, f1]) rfl ?_
    exact RetSet.no HF.out hWb
   | true =>
    rw [hh] at HC
    cases ht : typeP (cutA 10 l) with
    | none =>
     have HF := Lib.hid (show o = none by rw [HO.out, hV.out, lin_bad hl0 ht])
     rw [ht] at HT
     clear hh hV hl0 hS ht
     generalize cutA 10 l = a at *
     generalize cutB 10 l = b at *
     go_wp2_with (first | (go_at_call 88; refine (HC.out _).mono ?_; rintro e w1 ⟨rfl, hb1⟩) | (go_at_call 89; refine (HT.out _).mono ?_; intro e w2 hret; obtain ⟨rfl, hb2⟩ := hret.no_b rfl; have HR2 := Lib.hid ((hR.out.keep hb1).keep hb2); have HB2 := Lib.hid ((hb.out.trans (hb1.mono hb.out.size)).trans (hb2.mono (Nat.le_trans hb.out.size hb1.size))); have c0 := ((hR.out.keep hb1).keep hb2).cell 0; have c1 := ((hR.out.keep hb1).keep hb2).cell 1; have f0 := ((hR.out.keep hb1).keep hb2).frozen 0; have f1 := ((hR.out.keep hb1).keep hb2).frozen 1; simp at c0 c1; clear hret))
     obtain ⟨W, hW, hWB, hWb⟩ := zero_end HR2.out HB2.out (.slice none 0 0) (.map none)
     rw [hW]
     clear hW c0 c1 f0 f1
     have c0 := hWB.cell 0; have c1 := hWB.cell 1; have f0 := hWB.frozen 0; have f1 := hWB.frozen 1
     simp at c0 c1
     refine bodyPost_ret (v := .tuple #[.agg #[.slice none 0 0, .map none], .bool false]) (by simp [results, Tryz.results65, go_sem, c0, c1, f0, f1]) rfl ?_
     exact RetSet.no HF.out hWb
    | some t =>
     have hgt : GoodT t := readType_good (by rw [← typeP_eq]; exact ht)
     have hnl : t.name.length ≤ 2000000 := by have := isName_len hgt.2.1; omega
     rw [ht] at HT
     have hE8 : (es.map fun e => (e.t, e.b)).length ≤ 8 := by rw [List.length_map]; exact hG.out.len
     obtain ⟨v, hv⟩ : ∃ v, addOk (es.map fun e => (e.t, e.b)) t = v := ⟨_, rfl⟩
     have hv2 := addOk_eq (es.map fun e => (e.t, e.b)) t
     rw [hv, List.map_map, show ((fun x : Ty × Nat => x.1) ∘ fun e : Ent => (e.t, e.b)) = (fun e : Ent => e.t) from rfl] at hv2
     have HADD := Lib.hid (fun (w1 w2 : World) (b : Nat) (h1 : SetE w1 (w.heap.size + 1) (w.heap.size + 1 + 1) es) (hb : Below w1.heap.size w1 w2) (ht : TypeAt w2 w1.heap.size b t) (hB : w.heap.size + 1 ≤ w1.heap.size) =>
      i_add (w.heap.size + 1 + 1) b (w.heap.size + 1) t (es.map fun e => (e.t, e.b)) w2 (h1.below hb).at (TypeAt.mono ht hB) hE8 (Nat.le_trans hB hb.size) hnl)
     rw [hv] at HADD
     cases v with
     | false =>
      have HF := Lib.hid (show o = none by
       rw [HO.out, hV.out, lin_no hl0 ht (by cases h : (decide ((es.map (·.t)).length = 8) || hasName (es.map (·.t)) t.name) with | true => rfl | false => rw [h] at hv2; cases hv2)])
      clear hh hV hl0 hv hv2 ht hgt hE8
      generalize cutA 10 l = a at *
      generalize cutB 10 l = b at *
      go_wp2_with (first | (go_at_call 88; refine (HC.out _).mono ?_; rintro e w1 ⟨rfl, hb1⟩) | (go_at_call 89; refine (HT.out _).mono ?_; intro e w2 hret; obtain ⟨hb2, b0, rfl, hta⟩ := hret.some_b rfl; clear hret; have HTA := Lib.hid hta; clear hta) | (go_at_call 90; refine (HADD.out w1 w2 b0 (hS.out.below hb1) hb2 HTA.out (Nat.le_trans hwr hb1.size)).mono ?_; rintro e w3 ⟨rfl, hb3, -, -⟩; have HR2 := Lib.hid (((hR.out.keep hb1).keep hb2).below hb3 (by omega)); have HB2 := Lib.hid (((hb.out.trans (hb1.mono hb.out.size)).trans (hb2.mono (Nat.le_trans hb.out.size hb1.size))).trans (hb3.mono (by omega))); have c0 := (((hR.out.keep hb1).keep hb2).below hb3 (by omega)).cell 0; have c1 := (((hR.out.keep hb1).keep hb2).below hb3 (by omega)).cell 1; have f0 := (((hR.out.keep hb1).keep hb2).below hb3 (by omega)).frozen 0; have f1 := (((hR.out.keep hb1).keep hb2).below hb3 (by omega)).frozen 1; simp at c0 c1))
      obtain ⟨W, hW, hWB, hWb⟩ := zero_end HR2.out HB2.out (.slice none 0 0) (.map none)
      rw [hW]
      clear hW c0 c1 f0 f1
      have c0 := hWB.cell 0; have c1 := hWB.cell 1; have f0 := hWB.frozen 0; have f1 := hWB.frozen 1
      simp at c0 c1
      refine bodyPost_ret (v := .tuple #[.agg #[.slice none 0 0, .map none], .bool false]) (by simp [results, Tryz.results65, go_sem, c0, c1, f0, f1]) rfl ?_
      exact RetSet.no HF.out hWb
     | true =>
      have hv3 : (decide ((es.map (·.t)).length = 8) || hasName (es.map (·.t)) t.name) = false := by cases h : (decide ((es.map (·.t)).length = 8) || hasName (es.map (·.t)) t.name) with | false => rfl | true => rw [h] at hv2; cases hv2
      have HV2 := Lib.hid (hV.out.trans (lin_on hl0 hh ht hv3 (by rw [List.length_map]; exact hG.out.len)))
      have hblt := cutB_lt 10 l hh
      have HGT := Lib.hid (And.intro hgt hv3)
      clear hh hV hl0 hv hv2 ht hgt hE8 hv3
      generalize cutA 10 l = a at *
      generalize cutB 10 l = b at *
      go_wp2_with (first | (go_at_call 88; refine (HC.out _).mono ?_; rintro e w1 ⟨rfl, hb1⟩) | (go_at_call 89; refine (HT.out _).mono ?_; intro e w2 hret; obtain ⟨hb2, b0, rfl, hta⟩ := hret.some_b rfl; clear hret; have HTA := Lib.hid hta; clear hta) | (go_at_call 90; refine (HADD.out w1 w2 b0 (hS.out.below hb1) hb2 HTA.out (Nat.le_trans hwr hb1.size)).mono ?_; rintro e w3 ⟨rfl, hb3, hs3, hk3⟩; have HR2 := Lib.hid (((hR.out.keep hb1).keep hb2).below hb3 (by omega)); have HB2 := Lib.hid (((hb.out.trans (hb1.mono hb.out.size)).trans (hb2.mono (Nat.le_trans hb.out.size hb1.size))).trans (hb3.mono (by omega))); have HS3 := Lib.hid (And.intro (hs3 trivial) hk3); have HBB := Lib.hid (And.intro hb1 hb2); clear hs3 hk3))
      obtain ⟨e1, he1, hs4⟩ := SetE.add (hS.out.below HBB.out.1) HBB.out.2 HTA.out HS3.out.1 HS3.out.2 (Nat.le_trans hwr HBB.out.1.size)
      have hg4 := hG.out.add (e := e1) (by rw [he1]; exact HGT.out.1) (by rw [he1]; exact HGT.out.2)
      have HV4 := HV2.out
      rw [show (es.map (·.t)) ++ [t] = (es ++ [e1]).map (·.t) by rw [List.map_append, ← he1]; rfl] at HV4
      have HH := Lib.hid (And.intro hs4 (And.intro hg4 HV4))
      clear hs4 hg4 HV4
      go_roundw
      case rel => exact ⟨b, es ++ [e1], rfl, by omega, HH.out.1, HH.out.2.1, HH.out.2.2, HB2.out, HR2.out⟩
      case measure => show (S b).size < (S l).size; rw [S_size, S_size]; omega
theorem i_readSchema (s : Bs) (w : World) (hs : s.length ≤ 4000000) : Calls Tryz.prog 65 #[.string (S s)] w (RetSet w (ofS s)) := by
 rw [← ofP_eq]
 by_cases h : s.length ≤ 400
 ·exact i_readSchema_short s w h
 ·exact i_readSchema_long s w (by omega) hs
theorem lkP_len (N : List (Bs × Nat)) (t : Ty) : (lkP N t).length = t.fields.length := by
 unfold lkP; split
 ·exact un_len _
 ·simp
theorem lkP_fst (N : List (Bs × Nat)) (t : Ty) : (lkP N t).map (·.1) = t.fields := by
 unfold lkP; split
 ·exact un_fst _
 ·rw [List.map_map]; exact List.map_id _
theorem lkP_at (N : List (Bs × Nat)) (t : Ty) (j : Nat) (h : j < (lkP N t).length) (h2 : j < t.fields.length) : ((lkP N t)[j]).1 = t.fields[j] := by
 have e : ((lkP N t).map (·.1))[j]? = t.fields[j]? := by rw [lkP_fst]
 rw [List.getElem?_map, List.getElem?_eq_getElem h, List.getElem?_eq_getElem h2] at e
 injection e
end Go.Proofs.YtcjooeklehggaaaGreatDoor
