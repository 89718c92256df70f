/- The first law of chapter 1: numbers are read back, whatever is behind. -/
import Derived.Test.YtpacnjoggecfhaaI1b
import Derived.Test.YtpacnjoggecfhaaM1c
import Derived.Test.YtpacnjoggecfhaaD1
namespace Go.Proofs.Ytpacnjoggecfhaa
open Go.ChangeShapes Go.WideShapes Go.ChangeAt Go.RowKit M

theorem conv_zero (W : World) (ao : Option Addr) (cap : Nat) : (convert 22 9 (.slice ao 0 cap)).run Try.prog W = .ok (.string (S [])) W := by
  cases ao with
  | none => exact run_convert_bytes_nil W 22 5 Try.underlying22 Try.underlying5 0 cap 9 Try.underlying9
  | some a =>
    rw [run_convert_bytes_string W 22 9 5 (some a) 0 cap Try.underlying22 Try.underlying5 Try.underlying9]
    exact run_bytesToString W a 0 cap [] (by simp [loadCells, loadCellsFrom])
/-- A slice of bytes that came in, as a string, in whatever world that has kept it. -/
theorem conv_row {w : World} {ao : Option Addr} {len cap : Nat} {z : List Int} (h : IsRow .u8 w ao len cap z) :
    ∃ L : List UInt8, L.length = len ∧ ∀ W, Below w.heap.size w W → (convert 22 9 (.slice ao len cap)).run Try.prog W = .ok (.string (S L)) W := by
  rcases h with ⟨rfl, rfl, rfl, rfl⟩ | ⟨x, rfl, hl, hm, hz, hcell, hwz⟩
  · exact ⟨[], rfl, fun W _ => conv_zero W none 0⟩
  · by_cases h0 : len = 0
    · subst h0; exact ⟨[], rfl, fun W _ => conv_zero W _ cap⟩
    · obtain ⟨b, off, spot⟩ := x
      have hc := hcell 0 (by omega)
      have hspot : spot = none := by simpa [Addr.add] using World.cell?_spot hc
      subst hspot
      have hb := World.block_lt_of_cell? w _ hc
      refine ⟨(z.take len).map fun n => UInt8.ofNat n.toNat, by simp; omega, fun W hW => ?_⟩
      exact run_convert_bytes_arg (P := Try.prog) W 22 5 Try.underlying22 Try.underlying5 b off len cap (z.take len) (by simp; omega) (fun i hi => by
        have h1 := hcell i (by omega)
        rw [Addr.add_lit] at h1
        rw [hW.cell (p := ⟨b, off + i, none⟩) hb, h1]
        simp [hi]) 9 Try.underlying9

theorem walk_FnNumPut (a0 : Option Addr) (len0 cap0 : Nat) (z0 : List Int) (a1 : Option Addr) (len1 cap1 : Nat) (z1 : List Int) (w : World) (h0 : IsRow .u8 w a0 len0 cap0 z0) (h1 : IsRow .u8 w a1 len1 cap1 z1) :
    Calls Try.prog 3 #[.slice a0 len0 cap0, .slice a1 len1 cap1] w fun e w' => e = .returned (.bool true) ∧ Below w.heap.size w w' := by
  have H := Lib.hid h0; clear h0
  obtain ⟨L, hL, hconv⟩ := conv_row h1
  have HC := Lib.hid hconv; clear hconv h1
  by_cases hl : len0 ≤ 1048576
  · by_cases hl1 : len1 ≤ 1048576
    · have hLL : L.length ≤ 1048576 := by omega
      clear hL
      go_enter Try.func3, Try.ntmps3
      go_wp2_with fail
      refine (drawNumPut H.out).mono ?_
      rintro e w1 ⟨⟨n, rfl⟩, hb⟩
      have hsz := numPut_len n
      have hs : (S (numPut n ++ L)).size ≤ 2000000 := by rw [S_size, List.length_append]; omega
      have hcat := cat_run (numPut n) L (by omega)
      cases hf : M.isTold n with
      | true =>
        have hg := numGet_put n hf L
        have hn := numSize_len n hf
        have S1 := Lib.hid (And.intro hf (And.intro hg hn)); clear hf hg hn
        go_wp2_with (first | (go_at_call 15; refine (specNumPut _ _).mono ?_; rw [S1.out.1]; rintro e w' ⟨rfl, hb⟩; have hcv := HC.out w' (by (repeat (first | exact Below.refl _ _ | apply below_drew | apply below_draws | apply below_alloc | (refine below_trans ?_ (by assumption)) | (refine Below.trans ?_ (by assumption)))))) | (go_at_call 14; refine (implNumPut _ _).mono ?_; rw [S1.out.1]; rintro e w' ⟨rfl, hb⟩) | (go_at_call 16; refine (implNumGet _ _ hs).mono ?_; rw [S_toList, S1.out.2.1]; rintro e w' ⟨rfl, hb⟩; have hcv := HC.out w' (by (repeat (first | exact Below.refl _ _ | apply below_drew | apply below_draws | apply below_alloc | (refine below_trans ?_ (by assumption)) | (refine Below.trans ?_ (by assumption)))))) | (go_at_call 17; refine (implNumSize _ _).mono ?_; rw [← S1.out.2.2, ← S_size]; rintro e w' ⟨rfl, hb⟩))
        go_ret
        exact ⟨rfl, by (repeat (first | exact Below.refl _ _ | apply below_drew | apply below_draws | apply below_alloc | (refine below_trans ?_ (by assumption)) | (refine Below.trans ?_ (by assumption))))⟩
      | false =>
        have S1 := Lib.hid hf; clear hf
        go_wp2_with (first | (go_at_call 15; refine (specNumPut _ _).mono ?_; rw [S1.out]; rintro e w' ⟨rfl, hb⟩) | (go_at_call 14; refine (implNumPut _ _).mono ?_; rw [S1.out]; rintro e w' ⟨rfl, hb⟩))
        go_ret
        exact ⟨rfl, by (repeat (first | exact Below.refl _ _ | apply below_drew | apply below_draws | apply below_alloc | (refine below_trans ?_ (by assumption)) | (refine Below.trans ?_ (by assumption))))⟩
    · go_enter Try.func3, Try.ntmps3
      go_wp2_with fail
      go_ret
      exact ⟨rfl, by (repeat (first | exact Below.refl _ _ | apply below_drew | apply below_draws | apply below_alloc | (refine below_trans ?_ (by assumption)) | (refine Below.trans ?_ (by assumption))))⟩
  · go_enter Try.func3, Try.ntmps3
    go_wp2_with fail
    go_ret
    exact ⟨rfl, by (repeat (first | exact Below.refl _ _ | apply below_drew | apply below_draws | apply below_alloc | (refine below_trans ?_ (by assumption)) | (refine Below.trans ?_ (by assumption))))⟩
end Go.Proofs.Ytpacnjoggecfhaa
