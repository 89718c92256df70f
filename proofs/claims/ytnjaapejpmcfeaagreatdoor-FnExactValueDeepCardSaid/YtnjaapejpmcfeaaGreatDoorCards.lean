/-
  DERIVED. GIVEN WITH THE SEED: THE CARDS: each row of YtnjaapejpmcfeaaGreatDoorRows.lean that lists a variable, with what it lists TIED to the program's text (the seventh form; the later family's looks); each row that meets fmt, with fmt's text TOLD by the authors' own Lean function (tested against real Go, not proved from fmt's source: count such statements apart). THE CARD IS WHAT COUNTS. Prove the row's statement (the work); the ties are given (YtnjaapejpmcfeaaGreatDoorTie.lean); close each card by the builder's one call (the guide's Derived/Test/ToyasCard.lean, 'card_holds'). Laid BY PROGRAM, IN A SANDBOX (cutbox-door.mjs). By AI agents, Wed Nov 11 2026. No macro, syntax, notation, axiom, sorry.
-/
import Derived.Test.YtnjaapejpmcfeaaGreatDoorRows
import GoSem.ClaimSeven
namespace Go.Proofs.YtnjaapejpmcfeaaGreatDoor
namespace Rows

/-- THE TIED CARD OF 'laws.FnExactValueOk'. -/
def fnExactValueOkCard : Claim7 := { stood := { row := fnExactValueOkRow, standIns := [], harness := (true, "851c1f2852fb1edddc99efaf506c490429d641916bbf9f510c8f95c10ec7e4bf"), looks := true }, kinds := [], alts := [], laidByText := true, laidKinds := [.data, .data, .data, .data, .pinned], laidTests := true, laidLooks := .later }
def FnExactValueOkCardSaid : Prop := Claim7.holds Tryz.pinned (.plain (OpenSpec.ofChange fnExactValueOkSpec)) fnExactValueOkCard

/-- THE TIED CARD OF 'laws.FnExactValueSize'. -/
def fnExactValueSizeCard : Claim7 := { stood := { row := fnExactValueSizeRow, standIns := [], harness := (true, "851c1f2852fb1edddc99efaf506c490429d641916bbf9f510c8f95c10ec7e4bf"), looks := true }, kinds := [], alts := [], laidByText := true, laidKinds := [.data, .data, .data, .data, .pinned], laidTests := true, laidLooks := .later }
def FnExactValueSizeCardSaid : Prop := Claim7.holds Tryz.pinned (.plain (OpenSpec.ofChange fnExactValueSizeSpec)) fnExactValueSizeCard

/-- THE TIED CARD OF 'laws.FnExactValueDeep'. -/
def fnExactValueDeepCard : Claim7 := { stood := { row := fnExactValueDeepRow, standIns := [], harness := (true, "851c1f2852fb1edddc99efaf506c490429d641916bbf9f510c8f95c10ec7e4bf"), looks := true }, kinds := [], alts := [], laidByText := true, laidKinds := [.data, .data, .data, .data, .pinned], laidTests := true, laidLooks := .later }
def FnExactValueDeepCardSaid : Prop := Claim7.holds Tryz.pinned (.plain (OpenSpec.ofChange fnExactValueDeepSpec)) fnExactValueDeepCard

/-- THE TIED CARD OF 'laws.FnExactValueField'. -/
def fnExactValueFieldCard : Claim7 := { stood := { row := fnExactValueFieldRow, standIns := [], harness := (true, "851c1f2852fb1edddc99efaf506c490429d641916bbf9f510c8f95c10ec7e4bf"), looks := true }, kinds := [], alts := [], laidByText := true, laidKinds := [.data, .data, .data, .data, .pinned], laidTests := true, laidLooks := .later }
def FnExactValueFieldCardSaid : Prop := Claim7.holds Tryz.pinned (.plain (OpenSpec.ofChange fnExactValueFieldSpec)) fnExactValueFieldCard

/-- THE TIED CARD OF 'laws.FnExactValueSet'. -/
def fnExactValueSetCard : Claim7 := { stood := { row := fnExactValueSetRow, standIns := [], harness := (true, "851c1f2852fb1edddc99efaf506c490429d641916bbf9f510c8f95c10ec7e4bf"), looks := true }, kinds := [], alts := [], laidByText := true, laidKinds := [.data, .data, .data, .data, .pinned], laidTests := true, laidLooks := .later }
def FnExactValueSetCardSaid : Prop := Claim7.holds Tryz.pinned (.plain (OpenSpec.ofChange fnExactValueSetSpec)) fnExactValueSetCard

/-- THE SECOND FORM's CARD OF 'laws.FnExactValueOk'. -/
def fnExactValueOkUptoCard : Claim7 := { stood := { row := fnExactValueOkUptoRow, standIns := [], harness := (true, "851c1f2852fb1edddc99efaf506c490429d641916bbf9f510c8f95c10ec7e4bf"), looks := true }, kinds := [], alts := [], laidByText := true, laidKinds := [.data, .data, .data, .data, .pinned], laidTests := true, laidLooks := .later }
def FnExactValueOkUptoCardSaid : Prop := Claim7.holds Tryz.pinned (.plain (OpenSpec.upto fnExactValueOkSpec)) fnExactValueOkUptoCard

/-- THE SECOND FORM's CARD OF 'laws.FnExactValueSize'. -/
def fnExactValueSizeUptoCard : Claim7 := { stood := { row := fnExactValueSizeUptoRow, standIns := [], harness := (true, "851c1f2852fb1edddc99efaf506c490429d641916bbf9f510c8f95c10ec7e4bf"), looks := true }, kinds := [], alts := [], laidByText := true, laidKinds := [.data, .data, .data, .data, .pinned], laidTests := true, laidLooks := .later }
def FnExactValueSizeUptoCardSaid : Prop := Claim7.holds Tryz.pinned (.plain (OpenSpec.upto fnExactValueSizeSpec)) fnExactValueSizeUptoCard

/-- THE SECOND FORM's CARD OF 'laws.FnExactValueDeep'. -/
def fnExactValueDeepUptoCard : Claim7 := { stood := { row := fnExactValueDeepUptoRow, standIns := [], harness := (true, "851c1f2852fb1edddc99efaf506c490429d641916bbf9f510c8f95c10ec7e4bf"), looks := true }, kinds := [], alts := [], laidByText := true, laidKinds := [.data, .data, .data, .data, .pinned], laidTests := true, laidLooks := .later }
def FnExactValueDeepUptoCardSaid : Prop := Claim7.holds Tryz.pinned (.plain (OpenSpec.upto fnExactValueDeepSpec)) fnExactValueDeepUptoCard

/-- THE SECOND FORM's CARD OF 'laws.FnExactValueField'. -/
def fnExactValueFieldUptoCard : Claim7 := { stood := { row := fnExactValueFieldUptoRow, standIns := [], harness := (true, "851c1f2852fb1edddc99efaf506c490429d641916bbf9f510c8f95c10ec7e4bf"), looks := true }, kinds := [], alts := [], laidByText := true, laidKinds := [.data, .data, .data, .data, .pinned], laidTests := true, laidLooks := .later }
def FnExactValueFieldUptoCardSaid : Prop := Claim7.holds Tryz.pinned (.plain (OpenSpec.upto fnExactValueFieldSpec)) fnExactValueFieldUptoCard

/-- THE SECOND FORM's CARD OF 'laws.FnExactValueSet'. -/
def fnExactValueSetUptoCard : Claim7 := { stood := { row := fnExactValueSetUptoRow, standIns := [], harness := (true, "851c1f2852fb1edddc99efaf506c490429d641916bbf9f510c8f95c10ec7e4bf"), looks := true }, kinds := [], alts := [], laidByText := true, laidKinds := [.data, .data, .data, .data, .pinned], laidTests := true, laidLooks := .later }
def FnExactValueSetUptoCardSaid : Prop := Claim7.holds Tryz.pinned (.plain (OpenSpec.upto fnExactValueSetSpec)) fnExactValueSetUptoCard
end Rows
end Go.Proofs.YtnjaapejpmcfeaaGreatDoor
