/- Lemmas of this seat. -/
import Derived.Test.YtcjooeklehggaaaGreatDoorYHs
import Derived.Test.YtcjooeklehggaaaGreatDoorYLs
set_option linter.unusedVariables false
set_option linter.unusedSimpArgs false
set_option maxRecDepth 100000
namespace Go.Proofs.YtcjooeklehggaaaGreatDoor
open Go.ChangeShapes Go.WideShapes Go.ChangeAt Go.RowKit M
theorem of4_valP (l k s : Bs) : of4 l k s = match kindS l k with | none => none | some X => (wholeP X k s).map fun v => (X, v) := by
 unfold of4
 cases kindS l k with
 | none => rfl
 | some X =>
  simp only
  unfold wholeP wholeV
  split
  ·cases readF X 12 s k with
   | none => rfl
   | some x => rfl
  ·rfl
end Go.Proofs.YtcjooeklehggaaaGreatDoor
