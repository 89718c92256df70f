/- Lemmas of this seat. -/
import Derived.Test.YtcjooeklehggaaaGreatDoorYEs
import Derived.Test.YtcjooeklehggaaaGreatDoorYGs
set_option linter.unusedVariables false
set_option linter.unusedSimpArgs false
set_option maxRecDepth 100000
namespace Go.Proofs.YtcjooeklehggaaaGreatDoor
open Go.ChangeShapes Go.WideShapes Go.ChangeAt Go.RowKit M
theorem k_named (v : Value) (tps : List (Ty × Value)) (B d : Nat) (IH : IRead v tps B d) (IREC : IRecord v tps B d) (hg : ∀ t ∈ tps.map (·.1), GoodT t) (hl8 : tps.length ≤ 8) (hd : d ≤ 100) : INamed v tps B d := by
 intro s k w hs hs0 hk h64 hT hB
 cases hr : refT (tps.map (·.1)) k with
 | none => exact k_nm_none v tps B d hl8 s k w hs hk hr hT hB
 | some t =>
  have hgt := hg t (refT_mem0 hr)
  rw [namedO_some hr]
  rcases named_ways (X := tps.map (·.1)) hgt (fun s k => readF (tps.map (·.1)) d s k) k s with ⟨h1, h2, h3⟩ | ⟨h1, h2, h3⟩ | ⟨h1, h2, h3⟩ | ⟨h3, hw⟩
  ·exact k_nm_record v tps B d IREC hl8 t hgt s k w hs hs0 hk hr hT hB h1 h2 _ h3
  ·exact k_nm_enum v tps B d hl8 t hgt s k w hs hs0 hk hr hT hB h1 h2 _ h3
  ·exact k_nm_union v tps B d hl8 t hgt s k w hs hs0 hk hr hT hB IH hd h1 h2 _ h3
  ·exact k_nm_no v tps B d hl8 t s k w hs hs0 hk hr hT hB hw _ h3
theorem k_read (v : Value) (tps : List (Ty × Value)) (B : Nat) (hg : ∀ t ∈ tps.map (·.1), GoodT t) (hl8 : tps.length ≤ 8) (hrec : ∀ d, d ≤ 100 → IRead v tps B d → IRecord v tps B d) (h0 : IRead v tps B 0) (d : Nat) (hd : d ≤ 101) : IRead v tps B d := by
 induction d with
 | zero => exact h0
 | succ d ih =>
  have IH := ih (by omega)
  exact k_read_step v tps B d (by omega) IH (k_named v tps B d IH (hrec d (by omega) IH) hg hl8 (by omega))
theorem k_read_zero (v : Value) (tps : List (Ty × Value)) (B : Nat) : IRead v tps B 0 := by
 intro s k w hs hk hT hB
 have HF := Lib.hid (show readF (tps.map (·.1)) 0 s k = none from rfl)
 generalize readF (tps.map (·.1)) 0 s k = o at *
 clear hT
 unfold rv
 by_cases hs0 : 0 < s.length
 ·have hb1 : s.isEmpty = false := by cases s with | nil => simp at hs0 | cons _ _ => rfl
  have hb2 : (s == []) = false := by cases s with | nil => simp at hs0 | cons _ _ => rfl
  go_enter Tryz.func59, Tryz.ntmps59
  go_wp2_with fail
  go_ret3
  exact RetV.no HF.out (by (repeat (first | with_reducible exact Below.refl _ _ | with_reducible apply below_drew | with_reducible apply below_draws | with_reducible apply below_alloc | with_reducible apply below_set | (with_reducible refine below_trans ?_ (by assumption)) | (with_reducible refine Below.trans ?_ (by assumption)) | exact Nat.le_refl _ | omega | (simp <;> omega))))
 ·obtain rfl : s = [] := List.eq_nil_of_length_eq_zero (by omega)
  go_enter Tryz.func59, Tryz.ntmps59
  go_wp2_with fail
  go_ret3
  exact RetV.no HF.out (by (repeat (first | with_reducible exact Below.refl _ _ | with_reducible apply below_drew | with_reducible apply below_draws | with_reducible apply below_alloc | with_reducible apply below_set | (with_reducible refine below_trans ?_ (by assumption)) | (with_reducible refine Below.trans ?_ (by assumption)) | exact Nat.le_refl _ | omega | (simp <;> omega))))
def IReadAll : Prop := ∀ (v : Value) (tps : List (Ty × Value)) (B : Nat), (∀ t ∈ tps.map (·.1), GoodT t) → validB (tps.map (·.1)) = true → tps.length ≤ 8 → IRead v tps B 12
def wholeV : Option (V × Bs) → Option V | none => none | some x => if x.2 = [] then some x.1 else none
def of4 (l k s : Bs) : Option (List Ty × V) := match kindS l k with
 | none => none
 | some X => if s.length ≤ 400 then (wholeV (readF X 12 s k)).map fun v => (X, v) else none
theorem of4_no {l k s : Bs} (h : kindS l k = none) : of4 l k s = none := by unfold of4; rw [h]
theorem of4_long {l k s : Bs} (h : ¬ s.length ≤ 400) : of4 l k s = none := by
 unfold of4
 cases kindS l k with
 | none => rfl
 | some X => exact if_neg h
theorem of4_on {l k s : Bs} {X : List Ty} (h : kindS l k = some X) (h2 : s.length ≤ 400) {o : Option (V × Bs)} (ho : readF X 12 s k = o) : of4 l k s = (wholeV o).map fun v => (X, v) := by
 unfold of4; rw [h, ← ho]; exact if_pos h2
def RetOf (w : World) (o : Option (List Ty × V)) (e : Ending) (w' : World) : Prop := ∃ (xv : Value) (pv : Option Addr), e = .returned (.tuple #[xv, .pointer pv, .bool o.isSome]) ∧ Below w.heap.size w w' ∧
 ∀ y, o = some y → ∃ (ps : List (Ty × Value)) (p : Nat), ps.map (·.1) = y.1 ∧ Tys w' w.heap.size xv ps ∧ ps.length ≤ 8 ∧ pv = some ⟨p, 0, none⟩ ∧ VAt w' (fun b => w.heap.size ≤ b) y.2 p
theorem RetOf.no {w w' : World} {o : Option (List Ty × V)} {xv : Value} {pv : Option Addr} (h : o = none) (hb : Below w.heap.size w w') : RetOf w o (.returned (.tuple #[xv, .pointer pv, .bool false])) w' := ⟨xv, pv, by rw [h]; rfl, hb, by rw [h]; intro y hy; cases hy⟩
set_option maxHeartbeats 4000000 in
theorem k_l4Of (HR : IReadAll) (l k s : Bs) (w : World) (hl : l.length ≤ 2000000) (hk : k.length ≤ 2000000) (hs : s.length ≤ 2000000) :
  Calls Tryz.prog 47 #[.string (S l), .string (S k), .string (S s)] w (RetOf w (of4 l k s)) := by
 have HC := Lib.hid (fun w => k_l3Kind l k w hl hk)
 have HRd := Lib.hid HR; clear HR
 obtain ⟨o, ho⟩ : ∃ o, of4 l k s = o := ⟨_, rfl⟩
 rw [ho]
 have HO := Lib.hid ho; clear ho
 go_enter Tryz.func47, Tryz.ntmps47
 go_wp2_with fail
 refine (HC.out _).mono ?_
 rintro e w1 ⟨v, ps, rfl, hT, hX, hl8, hb⟩
 obtain ⟨a, c, rfl, -, -⟩ := hT.form
 cases hks : kindS l k with
 | none =>
  have HN := Lib.hid (show o = none by rw [← HO.out, of4_no hks])
  clear hks hX HO
  go_wp2_with fail
  go_ret3
  exact RetOf.no HN.out hb
 | some X =>
  by_cases h400 : s.length ≤ 400
  ·obtain ⟨hof, hko, -⟩ := kindS_some hks
   obtain ⟨hg, -, hva⟩ := ofS_some hof
   have hXX := hX X hks
   obtain ⟨o2, ho2⟩ : ∃ o2, readF X 12 s k = o2 := ⟨_, rfl⟩
   have HN := Lib.hid (show o = (wholeV o2).map fun v => (X, v) by rw [← HO.out, of4_on hks h400 ho2])
   have HL := Lib.hid (HRd.out _ ps w.heap.size (by rw [hXX]; exact hg) (by rw [hXX]; exact hva) hl8 s k w1 (by omega) hko hT hb.size)
   rw [hXX, ho2] at HL
   have HT := Lib.hid hT
   have HX := Lib.hid hXX
   have h4 : ¬ (400 < (s.length : Int)) := by omega
   clear hks hX hXX HO hof hko hg hva ho2 hT
   unfold rv at HL
   go_wp2_with fail
   refine HL.out.mono ?_
   rintro e w2 ⟨pv, r, rfl, hb2, hx2⟩
   have HT2 := Lib.hid (HT.out.below hb2)
   have hbw : Below w.heap.size w w2 := below_trans hb hb2
   have hbz := hb.size
   cases o2 with
   | none =>
    have HN2 := Lib.hid (show o = none by rw [HN.out]; rfl)
    clear hx2 HN hb2
    go_wp2_with fail
    go_ret3
    exact RetOf.no HN2.out hbw
   | some y =>
    obtain ⟨x, r'⟩ := y
    obtain ⟨rfl, p, rfl, hv⟩ := hx2 _ rfl
    have HV := Lib.hid (hv.imp (N' := fun b => w.heap.size ≤ b) (by intro b _ h; have h2 : _ ≤ b := h; omega))
    clear hx2 hv hb2
    cases r with
    | nil =>
     have HN2 := Lib.hid (show o = some (X, x) by rw [HN.out]; rfl)
     clear HN
     go_wp2_with fail
     go_ret3
     exact ⟨_, _, by rw [HN2.out]; rfl, hbw, by rw [HN2.out]; intro y hy; injection hy with hy; subst hy; exact ⟨ps, p, HX.out, HT2.out, hl8, rfl, HV.out⟩⟩
    | cons q r =>
     have HN2 := Lib.hid (show o = none by rw [HN.out]; rfl)
     clear HN
     go_wp2_with fail
     go_ret3
     exact RetOf.no HN2.out hbw
  ·have HN := Lib.hid (show o = none by rw [← HO.out, of4_long h400])
   have h4 : (400 : Int) < (s.length : Int) := by omega
   clear hks hX HO h400
   go_wp2_with fail
   go_ret3
   exact RetOf.no HN.out hb
def backO (s : Bs) (o : Option V) : Option Bs := if s.length ≤ 400 then (match o with | none => none | some _ => some s) else none
def RetSB (w : World) (o : Option Bs) (e : Ending) (w' : World) : Prop := e = .returned (.tuple #[.string (S (o.getD [])), .bool o.isSome]) ∧ Below w.heap.size w w'
theorem k_l4Back (v : Value) (tps : List (Ty × Value)) (B : Nat) (HR : IRead v tps B 12) (k s : Bs) (w : World) (hk : kOk k = true) (hs : s.length ≤ 2000000) (hT : Tys w B v tps) (hB : B ≤ w.heap.size) :
  Calls Tryz.prog 60 #[v, .string (S k), .string (S s)] w (RetSB w (backO s (wholeV (readF (tps.map (·.1)) 12 s k)))) := by
 obtain ⟨a, c, rfl, -, -⟩ := hT.form
 by_cases h400 : s.length ≤ 400
 ·obtain ⟨o2, ho2⟩ : ∃ o2, readF (tps.map (·.1)) 12 s k = o2 := ⟨_, rfl⟩
  have HL := Lib.hid (HR s k w (by omega) hk hT hB)
  rw [ho2] at HL ⊢
  obtain ⟨o, ho⟩ : ∃ o, backO s (wholeV o2) = o := ⟨_, rfl⟩
  have HO := Lib.hid (show o = match wholeV o2 with | none => none | some _ => some s by rw [← ho]; exact if_pos h400)
  rw [ho]
  have h4 : ¬ (400 < (s.length : Int)) := by omega
  clear ho ho2 hT hk HR
  unfold rv at HL
  go_enter Tryz.func60, Tryz.ntmps60
  go_wp2_with fail
  refine HL.out.mono ?_
  rintro e w2 ⟨pv, r, rfl, hb2, hx2⟩
  cases o2 with
  | none =>
   have HN2 := Lib.hid (show o = none by rw [HO.out]; rfl)
   clear hx2 HO
   go_wp2_with fail
   go_ret2
   exact ⟨by rw [HN2.out]; rfl, hb2⟩
  | some y =>
   obtain ⟨x, r'⟩ := y
   obtain ⟨rfl, p, rfl, hv⟩ := hx2 _ rfl
   clear hx2 hv
   cases r with
   | nil =>
    have HN2 := Lib.hid (show o = some s by rw [HO.out]; rfl)
    clear HO
    go_wp2_with fail
    go_ret2
    exact ⟨by rw [HN2.out]; rfl, hb2⟩
   | cons q r =>
    have HN2 := Lib.hid (show o = none by rw [HO.out]; rfl)
    clear HO
    go_wp2_with fail
    go_ret2
    exact ⟨by rw [HN2.out]; rfl, hb2⟩
 ·have HN := Lib.hid (show backO s (wholeV (readF (tps.map (·.1)) 12 s k)) = none from if_neg h400)
  generalize backO s (wholeV (readF (tps.map (·.1)) 12 s k)) = o at *
  have h4 : (400 : Int) < (s.length : Int) := by omega
  clear h400 hT HR
  go_enter Tryz.func60, Tryz.ntmps60
  go_wp2_with fail
  go_ret2
  exact ⟨by rw [HN.out]; rfl, Below.refl _ _⟩
theorem k_record (v : Value) (tps : List (Ty × Value)) (B d : Nat) (hg : ∀ t ∈ tps.map (·.1), GoodT t) (hva : validB (tps.map (·.1)) = true) (hl8 : tps.length ≤ 8) (hd : d ≤ 100) (IH : IRead v tps B d) : IRecord v tps B d := by
 intro t a c s k w hgt h69 hs hT hB hF
 by_cases h125 : at_ s 0 = 125
 ·exact k_record_nil v _ _ t a c s k _ w hs h125
 ·exact k_record_on v tps B d IH hg hva hl8 t hgt h69 a c _ s k w hs hd hT hB hF h125
theorem k_readAll : IReadAll := fun v tps B hg hva hl8 => k_read v tps B hg hl8 (fun d hd IH => k_record v tps B d hg hva hl8 hd IH) (k_read_zero v tps B) 12 (by omega)
end Go.Proofs.YtcjooeklehggaaaGreatDoor
