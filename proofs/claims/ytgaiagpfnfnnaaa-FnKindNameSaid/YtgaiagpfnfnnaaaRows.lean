/-
  No cell of these rows narrows 'for every input' (looked for: loops, veiled, ifaces, maps, wideKeys, modest, calm, conditions, laid).
  DERIVED. THE GIVEN ROWS OF THIS SEAT. 10 by the template 'for every input the law returns true; each argument reads behind the call as it read before'; 0 by the template 'total and deterministic' (their statements: YtgaiagpfnfnnaaaTotals.lean).
  GIVEN WITH THE SEED: the statements are not yours to turn. If you find one false, say at which input.
  Laid BY PROGRAM, IN A SANDBOX (cutbox-rows.mjs): the forced cells as the released guide's own fill.sh prints them over the translation 57c0ba43e0f33892… (all of the seat's roots in one cut). By AI agents, Wed Nov 11 2026. No macro, syntax, notation, axiom, sorry.
-/
import Derived.Test.YtgaiagpfnfnnaaaChecked
import GoSem.Claim
import GoSem.ClaimJoined
import GoSem.ClaimMapViews
import Derived.JoinedTies
import Derived.KernelRfl
namespace Go.Proofs.Ytgaiagpfnfnnaaa
/- THE CELL 'sum', in the pinned program and in every row, IS THE sha256 OF THE DUMP (.gsa) THAT YtgaiagpfnfnnaaaProg.lean LOADS. Nothing in Lean hashes anything: it is a label: what it is worth is what the hold of that sum in a sandbox is worth. -/
noncomputable def Try.pinned : Pinned := { name := "ytgaiagpfnfnnaaa", sum := "57c0ba43e0f338925541d1b38448544ab056339664d8c1dea6051e15b0ad3286", checked := Try.checked }
namespace Rows
def none {H : Type} : Left H := { results := [], args := [] }

/-- 'laws.FnKindOk': WHATEVER THE INPUT: true; the input reads as it did. -/
def fnKindOkSpec : ChangeSpec := { name := "fnKindOk", fn := fun _ => fun
  | [d] => { results := [.lit (.bool true)], args := [d] }
  | _ => none }
def fnKindOkRow : OpenClaim := { program := "ytgaiagpfnfnnaaa", sum := "57c0ba43e0f338925541d1b38448544ab056339664d8c1dea6051e15b0ad3286", func := "loop.example/wireforms/laws.FnKindOk", spec := "fnKindOk", recurses := true, apart := false }
def FnKindOkSaid : Prop := fnKindOkRow.holds Try.pinned (OpenSpec.ofChange fnKindOkSpec)

/-- ITS FALSE NEIGHBOUR: 'it returns false'. Refute it at one input. -/
def fnKindOkWrong : ChangeSpec := { name := "fnKindOk", fn := fun _ => fun
  | [d] => { results := [.lit (.bool false)], args := [d] }
  | _ => none }
def FnKindOkWrongFalsely : Prop := fnKindOkRow.holds Try.pinned (OpenSpec.ofChange fnKindOkWrong)

/-- 'laws.FnKindPart': WHATEVER THE INPUT: true; the input reads as it did. -/
def fnKindPartSpec : ChangeSpec := { name := "fnKindPart", fn := fun _ => fun
  | [d] => { results := [.lit (.bool true)], args := [d] }
  | _ => none }
def fnKindPartRow : OpenClaim := { program := "ytgaiagpfnfnnaaa", sum := "57c0ba43e0f338925541d1b38448544ab056339664d8c1dea6051e15b0ad3286", func := "loop.example/wireforms/laws.FnKindPart", spec := "fnKindPart", recurses := true, apart := false }
def FnKindPartSaid : Prop := fnKindPartRow.holds Try.pinned (OpenSpec.ofChange fnKindPartSpec)

/-- ITS FALSE NEIGHBOUR: 'it returns false'. Refute it at one input. -/
def fnKindPartWrong : ChangeSpec := { name := "fnKindPart", fn := fun _ => fun
  | [d] => { results := [.lit (.bool false)], args := [d] }
  | _ => none }
def FnKindPartWrongFalsely : Prop := fnKindPartRow.holds Try.pinned (OpenSpec.ofChange fnKindPartWrong)

/-- 'laws.FnKindName': WHATEVER THE INPUT: true; the input reads as it did. -/
def fnKindNameSpec : ChangeSpec := { name := "fnKindName", fn := fun _ => fun
  | [d] => { results := [.lit (.bool true)], args := [d] }
  | _ => none }
def fnKindNameRow : OpenClaim := { program := "ytgaiagpfnfnnaaa", sum := "57c0ba43e0f338925541d1b38448544ab056339664d8c1dea6051e15b0ad3286", func := "loop.example/wireforms/laws.FnKindName", spec := "fnKindName", recurses := true, apart := false }
def FnKindNameSaid : Prop := fnKindNameRow.holds Try.pinned (OpenSpec.ofChange fnKindNameSpec)

/-- ITS FALSE NEIGHBOUR: 'it returns false'. Refute it at one input. -/
def fnKindNameWrong : ChangeSpec := { name := "fnKindName", fn := fun _ => fun
  | [d] => { results := [.lit (.bool false)], args := [d] }
  | _ => none }
def FnKindNameWrongFalsely : Prop := fnKindNameRow.holds Try.pinned (OpenSpec.ofChange fnKindNameWrong)

/-- 'laws.FnKindRefs': WHATEVER THE INPUT: true; the input reads as it did. -/
def fnKindRefsSpec : ChangeSpec := { name := "fnKindRefs", fn := fun _ => fun
  | [d] => { results := [.lit (.bool true)], args := [d] }
  | _ => none }
def fnKindRefsRow : OpenClaim := { program := "ytgaiagpfnfnnaaa", sum := "57c0ba43e0f338925541d1b38448544ab056339664d8c1dea6051e15b0ad3286", func := "loop.example/wireforms/laws.FnKindRefs", spec := "fnKindRefs", recurses := true, apart := false }
def FnKindRefsSaid : Prop := fnKindRefsRow.holds Try.pinned (OpenSpec.ofChange fnKindRefsSpec)

/-- ITS FALSE NEIGHBOUR: 'it returns false'. Refute it at one input. -/
def fnKindRefsWrong : ChangeSpec := { name := "fnKindRefs", fn := fun _ => fun
  | [d] => { results := [.lit (.bool false)], args := [d] }
  | _ => none }
def FnKindRefsWrongFalsely : Prop := fnKindRefsRow.holds Try.pinned (OpenSpec.ofChange fnKindRefsWrong)

/-- 'laws.FnKindDeep': WHATEVER THE INPUT: true; the input reads as it did. -/
def fnKindDeepSpec : ChangeSpec := { name := "fnKindDeep", fn := fun _ => fun
  | [d] => { results := [.lit (.bool true)], args := [d] }
  | _ => none }
def fnKindDeepRow : OpenClaim := { program := "ytgaiagpfnfnnaaa", sum := "57c0ba43e0f338925541d1b38448544ab056339664d8c1dea6051e15b0ad3286", func := "loop.example/wireforms/laws.FnKindDeep", spec := "fnKindDeep", recurses := true, apart := false }
def FnKindDeepSaid : Prop := fnKindDeepRow.holds Try.pinned (OpenSpec.ofChange fnKindDeepSpec)

/-- ITS FALSE NEIGHBOUR: 'it returns false'. Refute it at one input. -/
def fnKindDeepWrong : ChangeSpec := { name := "fnKindDeep", fn := fun _ => fun
  | [d] => { results := [.lit (.bool false)], args := [d] }
  | _ => none }
def FnKindDeepWrongFalsely : Prop := fnKindDeepRow.holds Try.pinned (OpenSpec.ofChange fnKindDeepWrong)

/-- 'laws.FnExactKindOk': WHATEVER THE INPUT: true; the input reads as it did. -/
def fnExactKindOkSpec : ChangeSpec := { name := "fnExactKindOk", fn := fun _ => fun
  | [d] => { results := [.lit (.bool true)], args := [d] }
  | _ => none }
def fnExactKindOkRow : OpenClaim := { program := "ytgaiagpfnfnnaaa", sum := "57c0ba43e0f338925541d1b38448544ab056339664d8c1dea6051e15b0ad3286", func := "loop.example/wireforms/laws.FnExactKindOk", spec := "fnExactKindOk", recurses := true, apart := false }
def FnExactKindOkSaid : Prop := fnExactKindOkRow.holds Try.pinned (OpenSpec.ofChange fnExactKindOkSpec)

/-- ITS FALSE NEIGHBOUR: 'it returns false'. Refute it at one input. -/
def fnExactKindOkWrong : ChangeSpec := { name := "fnExactKindOk", fn := fun _ => fun
  | [d] => { results := [.lit (.bool false)], args := [d] }
  | _ => none }
def FnExactKindOkWrongFalsely : Prop := fnExactKindOkRow.holds Try.pinned (OpenSpec.ofChange fnExactKindOkWrong)

/-- 'laws.FnExactKindPart': WHATEVER THE INPUT: true; the input reads as it did. -/
def fnExactKindPartSpec : ChangeSpec := { name := "fnExactKindPart", fn := fun _ => fun
  | [d] => { results := [.lit (.bool true)], args := [d] }
  | _ => none }
def fnExactKindPartRow : OpenClaim := { program := "ytgaiagpfnfnnaaa", sum := "57c0ba43e0f338925541d1b38448544ab056339664d8c1dea6051e15b0ad3286", func := "loop.example/wireforms/laws.FnExactKindPart", spec := "fnExactKindPart", recurses := true, apart := false }
def FnExactKindPartSaid : Prop := fnExactKindPartRow.holds Try.pinned (OpenSpec.ofChange fnExactKindPartSpec)

/-- ITS FALSE NEIGHBOUR: 'it returns false'. Refute it at one input. -/
def fnExactKindPartWrong : ChangeSpec := { name := "fnExactKindPart", fn := fun _ => fun
  | [d] => { results := [.lit (.bool false)], args := [d] }
  | _ => none }
def FnExactKindPartWrongFalsely : Prop := fnExactKindPartRow.holds Try.pinned (OpenSpec.ofChange fnExactKindPartWrong)

/-- 'laws.FnExactKindName': WHATEVER THE INPUT: true; the input reads as it did. -/
def fnExactKindNameSpec : ChangeSpec := { name := "fnExactKindName", fn := fun _ => fun
  | [d] => { results := [.lit (.bool true)], args := [d] }
  | _ => none }
def fnExactKindNameRow : OpenClaim := { program := "ytgaiagpfnfnnaaa", sum := "57c0ba43e0f338925541d1b38448544ab056339664d8c1dea6051e15b0ad3286", func := "loop.example/wireforms/laws.FnExactKindName", spec := "fnExactKindName", recurses := true, apart := false }
def FnExactKindNameSaid : Prop := fnExactKindNameRow.holds Try.pinned (OpenSpec.ofChange fnExactKindNameSpec)

/-- ITS FALSE NEIGHBOUR: 'it returns false'. Refute it at one input. -/
def fnExactKindNameWrong : ChangeSpec := { name := "fnExactKindName", fn := fun _ => fun
  | [d] => { results := [.lit (.bool false)], args := [d] }
  | _ => none }
def FnExactKindNameWrongFalsely : Prop := fnExactKindNameRow.holds Try.pinned (OpenSpec.ofChange fnExactKindNameWrong)

/-- 'laws.FnExactKindRefs': WHATEVER THE INPUT: true; the input reads as it did. -/
def fnExactKindRefsSpec : ChangeSpec := { name := "fnExactKindRefs", fn := fun _ => fun
  | [d] => { results := [.lit (.bool true)], args := [d] }
  | _ => none }
def fnExactKindRefsRow : OpenClaim := { program := "ytgaiagpfnfnnaaa", sum := "57c0ba43e0f338925541d1b38448544ab056339664d8c1dea6051e15b0ad3286", func := "loop.example/wireforms/laws.FnExactKindRefs", spec := "fnExactKindRefs", recurses := true, apart := false }
def FnExactKindRefsSaid : Prop := fnExactKindRefsRow.holds Try.pinned (OpenSpec.ofChange fnExactKindRefsSpec)

/-- ITS FALSE NEIGHBOUR: 'it returns false'. Refute it at one input. -/
def fnExactKindRefsWrong : ChangeSpec := { name := "fnExactKindRefs", fn := fun _ => fun
  | [d] => { results := [.lit (.bool false)], args := [d] }
  | _ => none }
def FnExactKindRefsWrongFalsely : Prop := fnExactKindRefsRow.holds Try.pinned (OpenSpec.ofChange fnExactKindRefsWrong)

/-- 'laws.FnExactKindDeep': WHATEVER THE INPUT: true; the input reads as it did. -/
def fnExactKindDeepSpec : ChangeSpec := { name := "fnExactKindDeep", fn := fun _ => fun
  | [d] => { results := [.lit (.bool true)], args := [d] }
  | _ => none }
def fnExactKindDeepRow : OpenClaim := { program := "ytgaiagpfnfnnaaa", sum := "57c0ba43e0f338925541d1b38448544ab056339664d8c1dea6051e15b0ad3286", func := "loop.example/wireforms/laws.FnExactKindDeep", spec := "fnExactKindDeep", recurses := true, apart := false }
def FnExactKindDeepSaid : Prop := fnExactKindDeepRow.holds Try.pinned (OpenSpec.ofChange fnExactKindDeepSpec)

/-- ITS FALSE NEIGHBOUR: 'it returns false'. Refute it at one input. -/
def fnExactKindDeepWrong : ChangeSpec := { name := "fnExactKindDeep", fn := fun _ => fun
  | [d] => { results := [.lit (.bool false)], args := [d] }
  | _ => none }
def FnExactKindDeepWrongFalsely : Prop := fnExactKindDeepRow.holds Try.pinned (OpenSpec.ofChange fnExactKindDeepWrong)

/- THE SECOND FORM. 'bulk': how many values and letters a reading holds, each counted each time it is reached (what is shared counts as often as it is met; a slice's spare places count too). A statement '..UptoSaid' is the law's where the arguments, and the package variables that the reading takes, are together of bulk at most 1048576: NARROWER than '..Said'. Prove '..Said' where nothing that the law and all that it calls make is longer than what came in: it says more and counts as full. Else prove '..UptoSaid'. A law counts once. -/
mutual
def uptoBulk {H : Type} : DataW H → Nat
  | .lit (.string bytes) => bytes.length + 1
  | .lit _ => 1
  | .nil => 1
  | .ptr d => uptoBulk d + 1
  | .slice elems spare => uptoBulkAll elems + uptoBulkAll spare + 1
  | .agg parts => uptoBulkAll parts + 1
  | .iface _ d => uptoBulk d + 1
  | .map entries => uptoBulkEntries entries + 1
  | .held _ => 1
def uptoBulkAll {H : Type} : List (DataW H) → Nat
  | [] => 0
  | d :: r => uptoBulk d + uptoBulkAll r
def uptoBulkEntries {H : Type} : List (Lit × DataW H) → Nat
  | [] => 0
  | x :: r => uptoBulkEntry x + uptoBulkEntries r
def uptoBulkEntry {H : Type} : Lit × DataW H → Nat
  | (.string bytes, d) => bytes.length + uptoBulk d + 1
  | (_, d) => uptoBulk d + 1
 end
def uptoSmall : (H : Type) → List (DataW H) → Bool := fun _ ds => decide (uptoBulkAll ds ≤ 1048576)
def OpenSpec.upto (s : _root_.Go.ChangeSpec) : _root_.Go.OpenSpec := { _root_.Go.OpenSpec.ofChange s with cond := some uptoSmall }

/-- 'laws.FnKindOk', WHERE WHAT IT READS IS OF BULK AT MOST 1048576: true; the input reads as it did. -/
def fnKindOkUptoRow : OpenClaim := { program := "ytgaiagpfnfnnaaa", sum := "57c0ba43e0f338925541d1b38448544ab056339664d8c1dea6051e15b0ad3286", func := "loop.example/wireforms/laws.FnKindOk", spec := "fnKindOk", recurses := true, apart := false, narrowed := true }
def FnKindOkUptoSaid : Prop := fnKindOkUptoRow.holds Try.pinned (OpenSpec.upto fnKindOkSpec)

/-- 'laws.FnKindPart', WHERE WHAT IT READS IS OF BULK AT MOST 1048576: true; the input reads as it did. -/
def fnKindPartUptoRow : OpenClaim := { program := "ytgaiagpfnfnnaaa", sum := "57c0ba43e0f338925541d1b38448544ab056339664d8c1dea6051e15b0ad3286", func := "loop.example/wireforms/laws.FnKindPart", spec := "fnKindPart", recurses := true, apart := false, narrowed := true }
def FnKindPartUptoSaid : Prop := fnKindPartUptoRow.holds Try.pinned (OpenSpec.upto fnKindPartSpec)

/-- 'laws.FnKindName', WHERE WHAT IT READS IS OF BULK AT MOST 1048576: true; the input reads as it did. -/
def fnKindNameUptoRow : OpenClaim := { program := "ytgaiagpfnfnnaaa", sum := "57c0ba43e0f338925541d1b38448544ab056339664d8c1dea6051e15b0ad3286", func := "loop.example/wireforms/laws.FnKindName", spec := "fnKindName", recurses := true, apart := false, narrowed := true }
def FnKindNameUptoSaid : Prop := fnKindNameUptoRow.holds Try.pinned (OpenSpec.upto fnKindNameSpec)

/-- 'laws.FnKindRefs', WHERE WHAT IT READS IS OF BULK AT MOST 1048576: true; the input reads as it did. -/
def fnKindRefsUptoRow : OpenClaim := { program := "ytgaiagpfnfnnaaa", sum := "57c0ba43e0f338925541d1b38448544ab056339664d8c1dea6051e15b0ad3286", func := "loop.example/wireforms/laws.FnKindRefs", spec := "fnKindRefs", recurses := true, apart := false, narrowed := true }
def FnKindRefsUptoSaid : Prop := fnKindRefsUptoRow.holds Try.pinned (OpenSpec.upto fnKindRefsSpec)

/-- 'laws.FnKindDeep', WHERE WHAT IT READS IS OF BULK AT MOST 1048576: true; the input reads as it did. -/
def fnKindDeepUptoRow : OpenClaim := { program := "ytgaiagpfnfnnaaa", sum := "57c0ba43e0f338925541d1b38448544ab056339664d8c1dea6051e15b0ad3286", func := "loop.example/wireforms/laws.FnKindDeep", spec := "fnKindDeep", recurses := true, apart := false, narrowed := true }
def FnKindDeepUptoSaid : Prop := fnKindDeepUptoRow.holds Try.pinned (OpenSpec.upto fnKindDeepSpec)

/-- 'laws.FnExactKindOk', WHERE WHAT IT READS IS OF BULK AT MOST 1048576: true; the input reads as it did. -/
def fnExactKindOkUptoRow : OpenClaim := { program := "ytgaiagpfnfnnaaa", sum := "57c0ba43e0f338925541d1b38448544ab056339664d8c1dea6051e15b0ad3286", func := "loop.example/wireforms/laws.FnExactKindOk", spec := "fnExactKindOk", recurses := true, apart := false, narrowed := true }
def FnExactKindOkUptoSaid : Prop := fnExactKindOkUptoRow.holds Try.pinned (OpenSpec.upto fnExactKindOkSpec)

/-- 'laws.FnExactKindPart', WHERE WHAT IT READS IS OF BULK AT MOST 1048576: true; the input reads as it did. -/
def fnExactKindPartUptoRow : OpenClaim := { program := "ytgaiagpfnfnnaaa", sum := "57c0ba43e0f338925541d1b38448544ab056339664d8c1dea6051e15b0ad3286", func := "loop.example/wireforms/laws.FnExactKindPart", spec := "fnExactKindPart", recurses := true, apart := false, narrowed := true }
def FnExactKindPartUptoSaid : Prop := fnExactKindPartUptoRow.holds Try.pinned (OpenSpec.upto fnExactKindPartSpec)

/-- 'laws.FnExactKindName', WHERE WHAT IT READS IS OF BULK AT MOST 1048576: true; the input reads as it did. -/
def fnExactKindNameUptoRow : OpenClaim := { program := "ytgaiagpfnfnnaaa", sum := "57c0ba43e0f338925541d1b38448544ab056339664d8c1dea6051e15b0ad3286", func := "loop.example/wireforms/laws.FnExactKindName", spec := "fnExactKindName", recurses := true, apart := false, narrowed := true }
def FnExactKindNameUptoSaid : Prop := fnExactKindNameUptoRow.holds Try.pinned (OpenSpec.upto fnExactKindNameSpec)

/-- 'laws.FnExactKindRefs', WHERE WHAT IT READS IS OF BULK AT MOST 1048576: true; the input reads as it did. -/
def fnExactKindRefsUptoRow : OpenClaim := { program := "ytgaiagpfnfnnaaa", sum := "57c0ba43e0f338925541d1b38448544ab056339664d8c1dea6051e15b0ad3286", func := "loop.example/wireforms/laws.FnExactKindRefs", spec := "fnExactKindRefs", recurses := true, apart := false, narrowed := true }
def FnExactKindRefsUptoSaid : Prop := fnExactKindRefsUptoRow.holds Try.pinned (OpenSpec.upto fnExactKindRefsSpec)

/-- 'laws.FnExactKindDeep', WHERE WHAT IT READS IS OF BULK AT MOST 1048576: true; the input reads as it did. -/
def fnExactKindDeepUptoRow : OpenClaim := { program := "ytgaiagpfnfnnaaa", sum := "57c0ba43e0f338925541d1b38448544ab056339664d8c1dea6051e15b0ad3286", func := "loop.example/wireforms/laws.FnExactKindDeep", spec := "fnExactKindDeep", recurses := true, apart := false, narrowed := true }
def FnExactKindDeepUptoSaid : Prop := fnExactKindDeepUptoRow.holds Try.pinned (OpenSpec.upto fnExactKindDeepSpec)

end Rows
end Go.Proofs.Ytgaiagpfnfnnaaa
