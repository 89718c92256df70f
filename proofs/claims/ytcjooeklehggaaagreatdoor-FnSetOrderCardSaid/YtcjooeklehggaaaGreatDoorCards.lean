/-
  DERIVED. GIVEN WITH THE SEED: THE CARDS: each row of YtcjooeklehggaaaGreatDoorRows.lean that lists a variable, with what it lists TIED to the program's text (the seventh form; the later family's looks); each row that meets fmt, with fmt's text TOLD by the authors' own Lean function (tested against real Go, not proved from fmt's source: count such statements apart). THE CARD IS WHAT COUNTS. Prove the row's statement (the work); the ties are given (YtcjooeklehggaaaGreatDoorTie.lean); close each card by the builder's one call (the guide's Derived/Test/ToyasCard.lean, 'card_holds'). Laid BY PROGRAM, IN A SANDBOX (cutbox-door.mjs). By AI agents, Wed Nov 11 2026. No macro, syntax, notation, axiom, sorry.
-/
import Derived.Test.YtcjooeklehggaaaGreatDoorRows
import GoSem.ClaimSeven
namespace Go.Proofs.YtcjooeklehggaaaGreatDoor
namespace Rows

/-- THE TIED CARD OF 'laws.FnSchemaField'. -/
def fnSchemaFieldCard : Claim7 := { stood := { row := fnSchemaFieldRow, standIns := [], harness := (true, "7d076ff8f04f4fb9226f4c5dd599d5b0e6a5fd40eee684523bc3a0e306407d23"), looks := true }, kinds := [], alts := [], laidByText := true, laidKinds := [.data, .data, .data, .data, .pinned], laidTests := true, laidLooks := .later }
def FnSchemaFieldCardSaid : Prop := Claim7.holds Tryz.pinned (.plain (OpenSpec.ofChange fnSchemaFieldSpec)) fnSchemaFieldCard

/-- THE TIED CARD OF 'laws.FnSchemaStands'. -/
def fnSchemaStandsCard : Claim7 := { stood := { row := fnSchemaStandsRow, standIns := [], harness := (true, "7d076ff8f04f4fb9226f4c5dd599d5b0e6a5fd40eee684523bc3a0e306407d23"), looks := true }, kinds := [], alts := [], laidByText := true, laidKinds := [.data, .data, .data, .data, .pinned], laidTests := true, laidLooks := .later }
def FnSchemaStandsCardSaid : Prop := Claim7.holds Tryz.pinned (.plain (OpenSpec.ofChange fnSchemaStandsSpec)) fnSchemaStandsCard

/-- THE TIED CARD OF 'laws.FnValueOk'. -/
def fnValueOkCard : Claim7 := { stood := { row := fnValueOkRow, standIns := [], harness := (true, "7d076ff8f04f4fb9226f4c5dd599d5b0e6a5fd40eee684523bc3a0e306407d23"), looks := true }, kinds := [], alts := [], laidByText := true, laidKinds := [.data, .data, .data, .data, .pinned], laidTests := true, laidLooks := .later }
def FnValueOkCardSaid : Prop := Claim7.holds Tryz.pinned (.plain (OpenSpec.ofChange fnValueOkSpec)) fnValueOkCard

/-- THE TIED CARD OF 'laws.FnValueDeep'. -/
def fnValueDeepCard : Claim7 := { stood := { row := fnValueDeepRow, standIns := [], harness := (true, "7d076ff8f04f4fb9226f4c5dd599d5b0e6a5fd40eee684523bc3a0e306407d23"), looks := true }, kinds := [], alts := [], laidByText := true, laidKinds := [.data, .data, .data, .data, .pinned], laidTests := true, laidLooks := .later }
def FnValueDeepCardSaid : Prop := Claim7.holds Tryz.pinned (.plain (OpenSpec.ofChange fnValueDeepSpec)) fnValueDeepCard

/-- THE TIED CARD OF 'laws.FnValueField'. -/
def fnValueFieldCard : Claim7 := { stood := { row := fnValueFieldRow, standIns := [], harness := (true, "7d076ff8f04f4fb9226f4c5dd599d5b0e6a5fd40eee684523bc3a0e306407d23"), looks := true }, kinds := [], alts := [], laidByText := true, laidKinds := [.data, .data, .data, .data, .pinned], laidTests := true, laidLooks := .later }
def FnValueFieldCardSaid : Prop := Claim7.holds Tryz.pinned (.plain (OpenSpec.ofChange fnValueFieldSpec)) fnValueFieldCard

/-- THE TIED CARD OF 'laws.FnValueSet'. -/
def fnValueSetCard : Claim7 := { stood := { row := fnValueSetRow, standIns := [], harness := (true, "7d076ff8f04f4fb9226f4c5dd599d5b0e6a5fd40eee684523bc3a0e306407d23"), looks := true }, kinds := [], alts := [], laidByText := true, laidKinds := [.data, .data, .data, .data, .pinned], laidTests := true, laidLooks := .later }
def FnValueSetCardSaid : Prop := Claim7.holds Tryz.pinned (.plain (OpenSpec.ofChange fnValueSetSpec)) fnValueSetCard

/-- THE TIED CARD OF 'laws.FnSetOrder'. -/
def fnSetOrderCard : Claim7 := { stood := { row := fnSetOrderRow, standIns := [], harness := (true, "7d076ff8f04f4fb9226f4c5dd599d5b0e6a5fd40eee684523bc3a0e306407d23"), looks := true }, kinds := [], alts := [], laidByText := true, laidKinds := [.data, .data, .data, .data, .pinned], laidTests := true, laidLooks := .later }
def FnSetOrderCardSaid : Prop := Claim7.holds Tryz.pinned (.plain (OpenSpec.ofChange fnSetOrderSpec)) fnSetOrderCard

/-- THE SECOND FORM's CARD OF 'laws.FnSchemaField'. -/
def fnSchemaFieldUptoCard : Claim7 := { stood := { row := fnSchemaFieldUptoRow, standIns := [], harness := (true, "7d076ff8f04f4fb9226f4c5dd599d5b0e6a5fd40eee684523bc3a0e306407d23"), looks := true }, kinds := [], alts := [], laidByText := true, laidKinds := [.data, .data, .data, .data, .pinned], laidTests := true, laidLooks := .later }
def FnSchemaFieldUptoCardSaid : Prop := Claim7.holds Tryz.pinned (.plain (OpenSpec.upto fnSchemaFieldSpec)) fnSchemaFieldUptoCard

/-- THE SECOND FORM's CARD OF 'laws.FnSchemaStands'. -/
def fnSchemaStandsUptoCard : Claim7 := { stood := { row := fnSchemaStandsUptoRow, standIns := [], harness := (true, "7d076ff8f04f4fb9226f4c5dd599d5b0e6a5fd40eee684523bc3a0e306407d23"), looks := true }, kinds := [], alts := [], laidByText := true, laidKinds := [.data, .data, .data, .data, .pinned], laidTests := true, laidLooks := .later }
def FnSchemaStandsUptoCardSaid : Prop := Claim7.holds Tryz.pinned (.plain (OpenSpec.upto fnSchemaStandsSpec)) fnSchemaStandsUptoCard

/-- THE SECOND FORM's CARD OF 'laws.FnValueOk'. -/
def fnValueOkUptoCard : Claim7 := { stood := { row := fnValueOkUptoRow, standIns := [], harness := (true, "7d076ff8f04f4fb9226f4c5dd599d5b0e6a5fd40eee684523bc3a0e306407d23"), looks := true }, kinds := [], alts := [], laidByText := true, laidKinds := [.data, .data, .data, .data, .pinned], laidTests := true, laidLooks := .later }
def FnValueOkUptoCardSaid : Prop := Claim7.holds Tryz.pinned (.plain (OpenSpec.upto fnValueOkSpec)) fnValueOkUptoCard

/-- THE SECOND FORM's CARD OF 'laws.FnValueDeep'. -/
def fnValueDeepUptoCard : Claim7 := { stood := { row := fnValueDeepUptoRow, standIns := [], harness := (true, "7d076ff8f04f4fb9226f4c5dd599d5b0e6a5fd40eee684523bc3a0e306407d23"), looks := true }, kinds := [], alts := [], laidByText := true, laidKinds := [.data, .data, .data, .data, .pinned], laidTests := true, laidLooks := .later }
def FnValueDeepUptoCardSaid : Prop := Claim7.holds Tryz.pinned (.plain (OpenSpec.upto fnValueDeepSpec)) fnValueDeepUptoCard

/-- THE SECOND FORM's CARD OF 'laws.FnValueField'. -/
def fnValueFieldUptoCard : Claim7 := { stood := { row := fnValueFieldUptoRow, standIns := [], harness := (true, "7d076ff8f04f4fb9226f4c5dd599d5b0e6a5fd40eee684523bc3a0e306407d23"), looks := true }, kinds := [], alts := [], laidByText := true, laidKinds := [.data, .data, .data, .data, .pinned], laidTests := true, laidLooks := .later }
def FnValueFieldUptoCardSaid : Prop := Claim7.holds Tryz.pinned (.plain (OpenSpec.upto fnValueFieldSpec)) fnValueFieldUptoCard

/-- THE SECOND FORM's CARD OF 'laws.FnValueSet'. -/
def fnValueSetUptoCard : Claim7 := { stood := { row := fnValueSetUptoRow, standIns := [], harness := (true, "7d076ff8f04f4fb9226f4c5dd599d5b0e6a5fd40eee684523bc3a0e306407d23"), looks := true }, kinds := [], alts := [], laidByText := true, laidKinds := [.data, .data, .data, .data, .pinned], laidTests := true, laidLooks := .later }
def FnValueSetUptoCardSaid : Prop := Claim7.holds Tryz.pinned (.plain (OpenSpec.upto fnValueSetSpec)) fnValueSetUptoCard

/-- THE SECOND FORM's CARD OF 'laws.FnSetOrder'. -/
def fnSetOrderUptoCard : Claim7 := { stood := { row := fnSetOrderUptoRow, standIns := [], harness := (true, "7d076ff8f04f4fb9226f4c5dd599d5b0e6a5fd40eee684523bc3a0e306407d23"), looks := true }, kinds := [], alts := [], laidByText := true, laidKinds := [.data, .data, .data, .data, .pinned], laidTests := true, laidLooks := .later }
def FnSetOrderUptoCardSaid : Prop := Claim7.holds Tryz.pinned (.plain (OpenSpec.upto fnSetOrderSpec)) fnSetOrderUptoCard
end Rows
end Go.Proofs.YtcjooeklehggaaaGreatDoor
