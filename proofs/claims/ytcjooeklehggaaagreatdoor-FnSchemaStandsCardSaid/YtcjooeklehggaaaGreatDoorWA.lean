/- Lemmas that the laws of this seat use, texts laid behind one another: W5a. -/
import Derived.Test.YtcjooeklehggaaaGreatDoorZP
import Derived.Test.YtcjooeklehggaaaGreatDoorYP
import Derived.Test.YtcjooeklehggaaaGreatDoorLA
import Derived.Test.YtcjooeklehggaaaGreatDoorDA
set_option linter.unusedVariables false
set_option linter.unusedSimpArgs false
/-! The laws of chapter 3 on what stands, over drawn schemas. -/
namespace Go.Proofs.YtcjooeklehggaaaGreatDoor
open Go.ChangeShapes Go.WideShapes Go.ChangeAt Go.RowKit M

theorem fldS_Q (l n : Bs) (tag : Int) : fldS l n tag = fldP l n tag := rfl
theorem f1_q (o : Option (Bs × Bs × Bs)) : f1 o = g1 o ∧ f2 o = g2 o ∧ f3 o = g3 o := ⟨rfl, rfl, rfl⟩
set_option maxRecDepth 100000 in
set_option maxHeartbeats 2000000 in
theorem walk_FnSchemaField (a0 : Option Addr) (len0 cap0 : Nat) (z0 : List Int) (w : World) (h0 : IsRow .u8 w a0 len0 cap0 z0) (hT : Tab w) :
    Calls Tryz.prog 3 #[.slice a0 len0 cap0] w fun e w' => e = .returned (.bool true) ∧ Below w.heap.size w w' := by
  have H := Lib.hid h0; clear h0
  have HTB := Lib.hid hT; clear hT
  by_cases hl : len0 ≤ 1048576
  case neg =>
    go_enter Tryz.func3, Tryz.ntmps3
    go_wp2_with fail
    go_ret
    exact ⟨rfl, by (repeat (first | exact Below.refl _ _ | apply below_drew | apply below_draws | apply below_alloc | (refine below_trans ?_ (by assumption)) | (refine Below.trans ?_ (by assumption))))⟩
  go_enter Tryz.func3, Tryz.ntmps3
  go_wp2_with fail
  refine (d_DrawSchemaField H.out).mono ?_
  rintro e w1 ⟨l, n, g, rfl, hl2, hn2, g0, g7, hb1⟩
  have HI := Lib.hid (i_SchemaField l n g w1 (by omega) (by omega) (HTB.out.below hb1))
  have HS := Lib.hid (fun w => k_SchemaField l n g w (by omega))
  rw [fldS_Q, (f1_q _).1, (f1_q _).2.1, (f1_q _).2.2] at HS
  have HLAW := Lib.hid (fun r (h : fldP l n g = some r) => law_schemaField h)
  have HV := Lib.hid (fun (a c : Bs) (w' : World) (hb : Below w.heap.size w w') (ha : a.length ≤ 12) (hc : c.length ≤ 100) => i_ValueOk l a c w' (by omega) (by omega) (by omega) (HTB.out.below hb))
  obtain ⟨o, ho⟩ : ∃ o, fldP l n g = o := ⟨_, rfl⟩
  rw [ho] at HI HS HLAW
  clear ho
  cases o with
  | none =>
    rw [show g1 none = [] from rfl, show g2 none = [] from rfl, show g3 none = [] from rfl] at HI HS
    clear HLAW HV
    go_wp2_with fail
    refine HI.out.mono ?_
    rintro e w2 ⟨rfl, hb2⟩
    go_wp2_with fail
    refine (HS.out _).mono ?_
    rintro e w3 ⟨rfl, hb3⟩
    go_wp2_with fail
    go_ret
    exact ⟨rfl, by (repeat (first | exact Below.refl _ _ | apply below_drew | apply below_draws | apply below_alloc | (refine below_trans ?_ (by assumption)) | (refine Below.trans ?_ (by assumption))))⟩
  | some r =>
    obtain ⟨r1, r2, r3⟩ := r
    rw [show g1 (some (r1, r2, r3)) = r1 from rfl, show g2 (some (r1, r2, r3)) = r2 from rfl, show g3 (some (r1, r2, r3)) = r3 from rfl] at HI HS
    obtain ⟨hd, hr2, hr3⟩ := HLAW.out _ rfl
    simp only at hd hr2 hr3
    clear HLAW
    rcases hd with ⟨rfl, rfl⟩ | ⟨hne, hok⟩
    · clear HV
      go_wp2_with fail
      refine HI.out.mono ?_
      rintro e w2 ⟨rfl, hb2⟩
      go_wp2_with fail
      refine (HS.out _).mono ?_
      rintro e w3 ⟨rfl, hb3⟩
      go_wp2_with fail
      go_ret
      exact ⟨rfl, by (repeat (first | exact Below.refl _ _ | apply below_drew | apply below_draws | apply below_alloc | (refine below_trans ?_ (by assumption)) | (refine Below.trans ?_ (by assumption))))⟩
    · have q1 : (r2 == []) = false := by simpa using hne
      have q2 : r2.isEmpty = false := by simpa using hne
      have HV2 := Lib.hid (fun w' hb => HV.out r2 r3 w' hb hr2 hr3)
      rw [hok] at HV2
      clear HV hne hok
      go_wp2_with fail
      refine HI.out.mono ?_
      rintro e w2 ⟨rfl, hb2⟩
      go_wp2_with fail
      refine (HS.out _).mono ?_
      rintro e w3 ⟨rfl, hb3⟩
      go_wp2_with fail
      refine (HV2.out _ (by (repeat (first | exact Below.refl _ _ | apply below_drew | apply below_draws | apply below_alloc | (refine below_trans ?_ (by assumption)) | (refine Below.trans ?_ (by assumption)))))).mono ?_
      rintro e w4 ⟨rfl, hb4⟩
      go_wp2_with fail
      go_ret
      exact ⟨rfl, by (repeat (first | exact Below.refl _ _ | apply below_drew | apply below_draws | apply below_alloc | (refine below_trans ?_ (by assumption)) | (refine Below.trans ?_ (by assumption))))⟩
set_option maxRecDepth 100000 in
set_option maxHeartbeats 2000000 in
theorem walk_FnSchemaStands (a0 : Option Addr) (len0 cap0 : Nat) (z0 : List Int) (w : World) (h0 : IsRow .u8 w a0 len0 cap0 z0) (hT : Tab w) :
    Calls Tryz.prog 4 #[.slice a0 len0 cap0] w fun e w' => e = .returned (.bool true) ∧ Below w.heap.size w w' := by
  have H := Lib.hid h0; clear h0
  have HTB := Lib.hid hT; clear hT
  by_cases hl : len0 ≤ 1048576
  case neg =>
    go_enter Tryz.func4, Tryz.ntmps4
    go_wp2_with fail
    go_ret
    exact ⟨rfl, by (repeat (first | exact Below.refl _ _ | apply below_drew | apply below_draws | apply below_alloc | (refine below_trans ?_ (by assumption)) | (refine Below.trans ?_ (by assumption))))⟩
  go_enter Tryz.func4, Tryz.ntmps4
  go_wp2_with fail
  refine (d_DrawSchemaStands H.out).mono ?_
  rintro e w1 ⟨l, k, rfl, hl2, hk2, hb1⟩
  have HI := Lib.hid (i_SchemaStands l k w1 (by omega) (by omega) (HTB.out.below hb1))
  have HS := Lib.hid (fun w => k_SchemaStands l k w (by omega) (by omega))
  rw [show standS l k = standP l k from rfl] at HS
  have HLAW := Lib.hid (fun X (h : kindS l k = some X) => law_stands h)
  have HV := Lib.hid (fun (c : Bs) (w' : World) (hb : Below w.heap.size w w') (hc : c.length ≤ 100) => i_ValueOk l k c w' (by omega) (by omega) (by omega) (HTB.out.below hb))
  have HZ := Lib.hid (fun (c : Bs) (w' : World) (hb : Below w.heap.size w w') (hc : c.length ≤ 100) => i_ValueSize l k c w' (by omega) (by omega) (by omega) (HTB.out.below hb))
  obtain ⟨o, ho⟩ : ∃ o, kindS l k = o := ⟨_, rfl⟩
  rw [ho] at HI HS HLAW
  obtain ⟨c, hc⟩ : ∃ c, standP l k = c := ⟨_, rfl⟩
  rw [hc] at HI HS HLAW
  clear ho hc
  cases o with
  | none =>
    clear HLAW HV HZ
    go_wp2_with fail
    refine HI.out.mono ?_
    rintro e w2 ⟨rfl, hb2⟩
    go_wp2_with fail
    refine (HS.out _).mono ?_
    rintro e w3 ⟨rfl, hb3⟩
    go_wp2_with fail
    go_ret
    exact ⟨rfl, by (repeat (first | exact Below.refl _ _ | apply below_drew | apply below_draws | apply below_alloc | (refine below_trans ?_ (by assumption)) | (refine Below.trans ?_ (by assumption))))⟩
  | some X =>
    obtain ⟨y, y1, y2, y3⟩ := HLAW.out X rfl
    have HV2 := Lib.hid (fun w' hb => HV.out c w' hb y3)
    have HZ2 := Lib.hid (fun w' hb => HZ.out c w' hb y3)
    rw [y1] at HV2 HZ2
    have e1 : numP sizeV (some y) = ((sizeV y : Nat) : Int) := rfl
    rw [e1] at HZ2
    generalize sizeV y = sz at *
    have hsz : (sz : Int) ≤ 1 := by omega
    clear HLAW HV HZ y1 e1
    go_wp2_with fail
    refine HI.out.mono ?_
    rintro e w2 ⟨rfl, hb2⟩
    go_wp2_with fail
    refine (HS.out _).mono ?_
    rintro e w3 ⟨rfl, hb3⟩
    go_wp2_with fail
    refine (HV2.out _ (by (repeat (first | exact Below.refl _ _ | apply below_drew | apply below_draws | apply below_alloc | (refine below_trans ?_ (by assumption)) | (refine Below.trans ?_ (by assumption)))))).mono ?_
    rintro e w4 ⟨rfl, hb4⟩
    go_wp2_with fail
    refine (HZ2.out _ (by (repeat (first | exact Below.refl _ _ | apply below_drew | apply below_draws | apply below_alloc | (refine below_trans ?_ (by assumption)) | (refine Below.trans ?_ (by assumption)))))).mono ?_
    rintro e w5 ⟨rfl, hb5⟩
    go_wp2_with fail
    go_ret
    exact ⟨rfl, by (repeat (first | exact Below.refl _ _ | apply below_drew | apply below_draws | apply below_alloc | (refine below_trans ?_ (by assumption)) | (refine Below.trans ?_ (by assumption))))⟩
end Go.Proofs.YtcjooeklehggaaaGreatDoor
