/- What the laws of chapter 2 draw. -/
import Derived.Test.YtgaiagpfnfnnaaaR2
namespace Go.Proofs.Ytgaiagpfnfnnaaa
open Go.ChangeShapes Go.WideShapes Go.ChangeAt Go.RowKit M

theorem d_DrawKindOk {w : World} {ao : Option Addr} {len cap : Nat} {z : List Int} (h : IsRow .u8 w ao len cap z) :
    Calls Try.prog 13 #[.slice ao len cap] w (DrewS 20 w) := by
  have H := Lib.hid h; clear h
  go_enter Try.func13, Try.ntmps13
  go_wp2_with fail
  refine (l6open_any H.out).mono ?_
  rintro e w1 ⟨len', rfl, hr, rfl⟩
  have HR := Lib.hid hr; clear hr
  go_wp2_with fail
  refine (l91Kind (HR.out.below (by (repeat (first | exact Below.refl _ _ | apply below_drew | apply below_draws | apply below_alloc | (refine below_trans ?_ (by assumption)) | (refine Below.trans ?_ (by assumption)))))) (by omega)).mono ?_
  rintro e w2 hd
  obtain ⟨l, rfl, hl, hb⟩ := DrewS.of hd (w := w) (by (repeat (first | exact Below.refl _ _ | apply below_drew | apply below_draws | apply below_alloc | (refine below_trans ?_ (by assumption)) | (refine Below.trans ?_ (by assumption))))) (by omega)
  have HL := Lib.hid (And.intro hl hb); clear hl hb hd
  go_wp2_with fail
  go_ret
  exact ⟨l, rfl, HL.out.1, HL.out.2⟩
theorem d_DrawKindPart {w : World} {ao : Option Addr} {len cap : Nat} {z : List Int} (h : IsRow .u8 w ao len cap z) :
    Calls Try.prog 17 #[.slice ao len cap] w (DrewS 20 w) := by
  have H := Lib.hid h; clear h
  go_enter Try.func17, Try.ntmps17
  go_wp2_with fail
  refine (l6open_any H.out).mono ?_
  rintro e w1 ⟨len', rfl, hr, rfl⟩
  have HR := Lib.hid hr; clear hr
  go_wp2_with fail
  refine (l91Kind (HR.out.below (by (repeat (first | exact Below.refl _ _ | apply below_drew | apply below_draws | apply below_alloc | (refine below_trans ?_ (by assumption)) | (refine Below.trans ?_ (by assumption)))))) (by omega)).mono ?_
  rintro e w2 hd
  obtain ⟨l, rfl, hl, hb⟩ := DrewS.of hd (w := w) (by (repeat (first | exact Below.refl _ _ | apply below_drew | apply below_draws | apply below_alloc | (refine below_trans ?_ (by assumption)) | (refine Below.trans ?_ (by assumption))))) (by omega)
  have HL := Lib.hid (And.intro hl hb); clear hl hb hd
  go_wp2_with fail
  go_ret
  exact ⟨l, rfl, HL.out.1, HL.out.2⟩
theorem d_DrawKindName {w : World} {ao : Option Addr} {len cap : Nat} {z : List Int} (h : IsRow .u8 w ao len cap z) :
    Calls Try.prog 20 #[.slice ao len cap] w (DrewS 20 w) := by
  have H := Lib.hid h; clear h
  go_enter Try.func20, Try.ntmps20
  go_wp2_with fail
  refine (l6open_any H.out).mono ?_
  rintro e w1 ⟨len', rfl, hr, rfl⟩
  have HR := Lib.hid hr; clear hr
  go_wp2_with fail
  refine (l91Kind (HR.out.below (by (repeat (first | exact Below.refl _ _ | apply below_drew | apply below_draws | apply below_alloc | (refine below_trans ?_ (by assumption)) | (refine Below.trans ?_ (by assumption)))))) (by omega)).mono ?_
  rintro e w2 hd
  obtain ⟨l, rfl, hl, hb⟩ := DrewS.of hd (w := w) (by (repeat (first | exact Below.refl _ _ | apply below_drew | apply below_draws | apply below_alloc | (refine below_trans ?_ (by assumption)) | (refine Below.trans ?_ (by assumption))))) (by omega)
  have HL := Lib.hid (And.intro hl hb); clear hl hb hd
  go_wp2_with fail
  go_ret
  exact ⟨l, rfl, HL.out.1, HL.out.2⟩
theorem d_DrawKindRefs {w : World} {ao : Option Addr} {len cap : Nat} {z : List Int} (h : IsRow .u8 w ao len cap z) :
    Calls Try.prog 23 #[.slice ao len cap] w (DrewS 20 w) := by
  have H := Lib.hid h; clear h
  go_enter Try.func23, Try.ntmps23
  go_wp2_with fail
  refine (l6open_any H.out).mono ?_
  rintro e w1 ⟨len', rfl, hr, rfl⟩
  have HR := Lib.hid hr; clear hr
  go_wp2_with fail
  refine (l91Kind (HR.out.below (by (repeat (first | exact Below.refl _ _ | apply below_drew | apply below_draws | apply below_alloc | (refine below_trans ?_ (by assumption)) | (refine Below.trans ?_ (by assumption)))))) (by omega)).mono ?_
  rintro e w2 hd
  obtain ⟨l, rfl, hl, hb⟩ := DrewS.of hd (w := w) (by (repeat (first | exact Below.refl _ _ | apply below_drew | apply below_draws | apply below_alloc | (refine below_trans ?_ (by assumption)) | (refine Below.trans ?_ (by assumption))))) (by omega)
  have HL := Lib.hid (And.intro hl hb); clear hl hb hd
  go_wp2_with fail
  go_ret
  exact ⟨l, rfl, HL.out.1, HL.out.2⟩
theorem d_DrawKindDeep {w : World} {ao : Option Addr} {len cap : Nat} {z : List Int} (h : IsRow .u8 w ao len cap z) :
    Calls Try.prog 27 #[.slice ao len cap] w (DrewS 20 w) := by
  have H := Lib.hid h; clear h
  go_enter Try.func27, Try.ntmps27
  go_wp2_with fail
  refine (l6open_any H.out).mono ?_
  rintro e w1 ⟨len', rfl, hr, rfl⟩
  have HR := Lib.hid hr; clear hr
  go_wp2_with fail
  refine (l91Kind (HR.out.below (by (repeat (first | exact Below.refl _ _ | apply below_drew | apply below_draws | apply below_alloc | (refine below_trans ?_ (by assumption)) | (refine Below.trans ?_ (by assumption)))))) (by omega)).mono ?_
  rintro e w2 hd
  obtain ⟨l, rfl, hl, hb⟩ := DrewS.of hd (w := w) (by (repeat (first | exact Below.refl _ _ | apply below_drew | apply below_draws | apply below_alloc | (refine below_trans ?_ (by assumption)) | (refine Below.trans ?_ (by assumption))))) (by omega)
  have HL := Lib.hid (And.intro hl hb); clear hl hb hd
  go_wp2_with fail
  go_ret
  exact ⟨l, rfl, HL.out.1, HL.out.2⟩
end Go.Proofs.Ytgaiagpfnfnnaaa
