/- Lemmas that the laws of this seat use, texts laid behind one another: D4. -/
import Derived.Test.YtcjooeklehggaaaGreatDoorZM
import Derived.Test.YtcjooeklehggaaaGreatDoorRI
set_option linter.unusedVariables false
set_option linter.unusedSimpArgs false
/-! What the laws of chapter 4, and two of chapter 3, draw. -/
namespace Go.Proofs.YtcjooeklehggaaaGreatDoor
open Go.ChangeShapes Go.WideShapes Go.ChangeAt Go.RowKit M

theorem results_tmp4d {fn : Func} {t u v x : Tmp} (h : fn.results = #[.tmp t, .tmp u, .tmp v, .tmp x]) (tmps : Array Value) (P : Program) (w : World) :
    (results fn tmps).run P w = .ok (.tuple #[tmps.getD t undef, tmps.getD u undef, tmps.getD v undef, tmps.getD x undef]) w := by
  simp [results, h]
theorem results_tmp5d {fn : Func} {t u v x y : Tmp} (h : fn.results = #[.tmp t, .tmp u, .tmp v, .tmp x, .tmp y]) (tmps : Array Value) (P : Program) (w : World) :
    (results fn tmps).run P w = .ok (.tuple #[tmps.getD t undef, tmps.getD u undef, tmps.getD v undef, tmps.getD x undef, tmps.getD y undef]) w := by
  simp [results, h]
/-- What a law's draw of two strings and a number leaves. -/
def DrewSSI (N : Nat) (t : Int) (w : World) (e : Ending) (w' : World) : Prop := ∃ (l n : Bs) (g : Int), e = .returned (.tuple #[.string (S l), .string (S n), .int .i64 g]) ∧ l.length ≤ N ∧ n.length ≤ N ∧ 0 ≤ g ∧ g < t ∧ Below w.heap.size w w'
/-- What a law's draw of a schema, a kind and a value leaves. -/
def Drew3 (w : World) (e : Ending) (w' : World) : Prop := ∃ (l k s : Bs), e = .returned (.tuple #[.string (S l), .string (S k), .string (S s)]) ∧ l.length ≤ 1000 ∧ k.length ≤ 1000 ∧ s.length ≤ 700000 ∧ Below w.heap.size w w'
def Drew4 (t : Int) (w : World) (e : Ending) (w' : World) : Prop := ∃ (l k s : Bs) (g : Int), e = .returned (.tuple #[.string (S l), .string (S k), .string (S s), .int .i64 g]) ∧ l.length ≤ 1000 ∧ k.length ≤ 1000 ∧ s.length ≤ 700000 ∧ 0 ≤ g ∧ g < t ∧ Below w.heap.size w w'
def Drew5 (t : Int) (w : World) (e : Ending) (w' : World) : Prop := ∃ (l k s : Bs) (g : Int) (u : Bs), e = .returned (.tuple #[.string (S l), .string (S k), .string (S s), .int .i64 g, .string (S u)]) ∧ l.length ≤ 1000 ∧ k.length ≤ 1000 ∧ s.length ≤ 700000 ∧ 0 ≤ g ∧ g < t ∧ u.length ≤ 700000 ∧ Below w.heap.size w w'
theorem d_DrawSchemaField {w : World} {ao : Option Addr} {len cap : Nat} {z : List Int} (h : IsRow .u8 w ao len cap z) :
    Calls Tryz.prog 10 #[.slice ao len cap] w (DrewSSI 1000 8 w) := by
  have H := Lib.hid h; clear h
  go_enter Tryz.func10, Tryz.ntmps10
  go_wp2_with fail
  refine (l6open_any H.out).mono ?_
  rintro e w1 ⟨len', rfl, hr, rfl⟩
  have HR := Lib.hid hr; clear hr
  go_wp2_with fail
  refine (l91Schema (HR.out.below (by (repeat (first | exact Below.refl _ _ | apply below_drew | apply below_draws | apply below_alloc | (refine below_trans ?_ (by assumption)) | (refine Below.trans ?_ (by assumption)))))) (by omega)).mono ?_
  rintro e w2 ⟨l, p2, rfl, hl, hp, hp', HR2, hg2⟩
  have HG2 := Lib.hid hg2; clear hg2
  have hsz : w.heap.size + 1 ≤ w2.heap.size := by have := HG2.out.size; simpa using this
  go_wp2_with fail
  refine (l91Name HR2.out (by omega)).mono ?_
  rintro e w3 ⟨n, p3, rfl, hn, hp3, hp3', HR3, hg3⟩
  have HG3 := Lib.hid (only_trans HG2.out hg3)
  clear hg3
  go_wp2_with fail
  refine (pick_g HR3.out (by omega) _ (by omega) (by omega)).mono ?_
  rintro e w4 ⟨v, rfl, v0, v1, HR4, hz4, hc4, hf4, hg4⟩
  have HB := Lib.hid (show Below w.heap.size w w4 from (below_alloc (Below.refl _ w) _).trans (below_of_only (only_trans HG3.out hg4.out) (Nat.le_refl _) (by simp)))
  clear hg4 hc4 hf4 hz4
  go_wp2_with fail
  go_ret3
  exact ⟨l, n, v, rfl, hl, by omega, v0, v1, HB.out⟩
theorem d_DrawSchemaStands {w : World} {ao : Option Addr} {len cap : Nat} {z : List Int} (h : IsRow .u8 w ao len cap z) :
    Calls Tryz.prog 14 #[.slice ao len cap] w (DrewSS 1000 w) := by
  have H := Lib.hid h; clear h
  go_enter Tryz.func14, Tryz.ntmps14
  go_wp2_with fail
  refine (l6open_any H.out).mono ?_
  rintro e w1 ⟨len', rfl, hr, rfl⟩
  have HR := Lib.hid hr; clear hr
  go_wp2_with fail
  refine (l91Schema (HR.out.below (by (repeat (first | exact Below.refl _ _ | apply below_drew | apply below_draws | apply below_alloc | (refine below_trans ?_ (by assumption)) | (refine Below.trans ?_ (by assumption)))))) (by omega)).mono ?_
  rintro e w2 ⟨l, p2, rfl, hl, hp, hp', HR2, hg2⟩
  have HG2 := Lib.hid hg2; clear hg2
  have hsz : w.heap.size + 1 ≤ w2.heap.size := by have := HG2.out.size; simpa using this
  go_wp2_with fail
  refine (l91Some l (by omega) HR2.out (by omega)).mono ?_
  rintro e w3 ⟨n, p3, rfl, hn, hp3, hp3', HR3, hg3⟩
  have HB := Lib.hid (show Below w.heap.size w w3 from (below_alloc (Below.refl _ w) _).trans (below_of_only (only_trans HG2.out hg3) (Nat.le_refl _) (by simp)))
  clear hg3
  go_wp2_with fail
  go_ret2
  exact ⟨l, n, rfl, hl, by omega, HB.out⟩
theorem d_DrawValueOk {w : World} {ao : Option Addr} {len cap : Nat} {z : List Int} (h : IsRow .u8 w ao len cap z) :
    Calls Tryz.prog 18 #[.slice ao len cap] w (Drew3 w) := by
  have H := Lib.hid h; clear h
  go_enter Tryz.func18, Tryz.ntmps18
  go_wp2_with fail
  refine (l6open_any H.out).mono ?_
  rintro e w1 ⟨len', rfl, hr, rfl⟩
  have HR := Lib.hid hr; clear hr
  go_wp2_with fail
  refine (l91Three (HR.out.below (by (repeat (first | exact Below.refl _ _ | apply below_drew | apply below_draws | apply below_alloc | (refine below_trans ?_ (by assumption)) | (refine Below.trans ?_ (by assumption)))))) (by omega)).mono ?_
  rintro e w2 ⟨l, k, s, p2, rfl, hl, hk, hs, hp, HR2, hg2⟩
  have HB := Lib.hid (show Below w.heap.size w w2 from (below_alloc (Below.refl _ w) _).trans (below_of_only hg2 (Nat.le_refl _) (by simp)))
  clear hg2
  go_wp2_with fail
  go_ret3
  exact ⟨l, k, s, rfl, hl, by omega, hs, HB.out⟩
theorem d_DrawValueDeep {w : World} {ao : Option Addr} {len cap : Nat} {z : List Int} (h : IsRow .u8 w ao len cap z) :
    Calls Tryz.prog 20 #[.slice ao len cap] w (Drew3 w) := by
  have H := Lib.hid h; clear h
  go_enter Tryz.func20, Tryz.ntmps20
  go_wp2_with fail
  refine (l6open_any H.out).mono ?_
  rintro e w1 ⟨len', rfl, hr, rfl⟩
  have HR := Lib.hid hr; clear hr
  go_wp2_with fail
  refine (l91Three (HR.out.below (by (repeat (first | exact Below.refl _ _ | apply below_drew | apply below_draws | apply below_alloc | (refine below_trans ?_ (by assumption)) | (refine Below.trans ?_ (by assumption)))))) (by omega)).mono ?_
  rintro e w2 ⟨l, k, s, p2, rfl, hl, hk, hs, hp, HR2, hg2⟩
  have HB := Lib.hid (show Below w.heap.size w w2 from (below_alloc (Below.refl _ w) _).trans (below_of_only hg2 (Nat.le_refl _) (by simp)))
  clear hg2
  go_wp2_with fail
  go_ret3
  exact ⟨l, k, s, rfl, hl, by omega, hs, HB.out⟩
theorem d_DrawValueField {w : World} {ao : Option Addr} {len cap : Nat} {z : List Int} (h : IsRow .u8 w ao len cap z) :
    Calls Tryz.prog 23 #[.slice ao len cap] w (Drew4 7 w) := by
  have H := Lib.hid h; clear h
  go_enter Tryz.func23, Tryz.ntmps23
  go_wp2_with fail
  refine (l6open_any H.out).mono ?_
  rintro e w1 ⟨len', rfl, hr, rfl⟩
  have HR := Lib.hid hr; clear hr
  go_wp2_with fail
  refine (l91Three (HR.out.below (by (repeat (first | exact Below.refl _ _ | apply below_drew | apply below_draws | apply below_alloc | (refine below_trans ?_ (by assumption)) | (refine Below.trans ?_ (by assumption)))))) (by omega)).mono ?_
  rintro e w2 ⟨l, k, s, p2, rfl, hl, hk, hs, hp, HR2, hg2⟩
  have HG2 := Lib.hid hg2; clear hg2
  have hsz : w.heap.size + 1 ≤ w2.heap.size := by have := HG2.out.size; simpa using this
  go_wp2_with fail
  refine (pick_g HR2.out (by omega) _ (by omega) (by omega)).mono ?_
  rintro e w4 ⟨v, rfl, v0, v1, HR4, hz4, hc4, hf4, hg4⟩
  have HB := Lib.hid (show Below w.heap.size w w4 from (below_alloc (Below.refl _ w) _).trans (below_of_only (only_trans HG2.out hg4.out) (Nat.le_refl _) (by simp)))
  clear hg4 hc4 hf4 hz4
  go_wp2_with fail
  refine bodyPost_ret (results_tmp4d rfl _ _ _) rfl ?_
  exact ⟨l, k, s, v, rfl, hl, by omega, hs, v0, v1, HB.out⟩
end Go.Proofs.YtcjooeklehggaaaGreatDoor
