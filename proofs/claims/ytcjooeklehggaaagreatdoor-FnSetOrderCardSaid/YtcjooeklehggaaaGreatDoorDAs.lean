/- Lemmas of this seat. -/
import Derived.Test.YtcjooeklehggaaaGreatDoorZMs
import Derived.Test.YtcjooeklehggaaaGreatDoorRIs
set_option linter.unusedVariables false
set_option linter.unusedSimpArgs false
set_option maxRecDepth 100000
namespace Go.Proofs.YtcjooeklehggaaaGreatDoor
open Go.ChangeShapes Go.WideShapes Go.ChangeAt Go.RowKit M
theorem results_tmp5d {fn : Func} {t u v x y : Tmp} (h : fn.results = #[.tmp t, .tmp u, .tmp v, .tmp x, .tmp y]) (tmps : Array Value) (P : Program) (w : World) :
  (results fn tmps).run P w = .ok (.tuple #[tmps.getD t undef, tmps.getD u undef, tmps.getD v undef, tmps.getD x undef, tmps.getD y undef]) w := by
 simp [results, h]
def Drew5 (t : Int) (w : World) (e : Ending) (w' : World) : Prop := ∃ (l k s : Bs) (g : Int) (u : Bs), e = .returned (.tuple #[.string (S l), .string (S k), .string (S s), .int .i64 g, .string (S u)]) ∧ l.length ≤ 1000 ∧ k.length ≤ 1000 ∧ s.length ≤ 700000 ∧ 0 ≤ g ∧ g < t ∧ u.length ≤ 700000 ∧ Below w.heap.size w w'
end Go.Proofs.YtcjooeklehggaaaGreatDoor
