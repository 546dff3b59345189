/- Exact laws of functions whose first result is a list of integers: two calls that answer alike. -/
import Derived.Test.YtgonanembcnlgaaGD
import Derived.Test.YtgonanembcnlgaaGB
namespace Go.Proofs.Ytgonanembcnlgaa
open Go.RowKit
set_option linter.unusedVariables false
/-- A list of one's own, and whether it succeeded. -/
def ListRes (w : World) (xs : List Int) (b : Bool) (e : Ending) (w' : World) : Prop :=
  ∃ sv, e = .returned (.tuple #[sv, .bool b]) ∧ Below w.heap.size w w' ∧ IsInts w' w.heap.size sv xs
end Go.Proofs.Ytgonanembcnlgaa
