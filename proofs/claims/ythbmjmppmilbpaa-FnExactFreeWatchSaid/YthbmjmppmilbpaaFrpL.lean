/- The exact laws of chapter 6, but for colours. -/
import Derived.Test.YthbmjmppmilbpaaFrpH
namespace Go.Proofs.Ythbmjmppmilbpaa
open Go.RowKit Go.Shelf
set_option linter.unusedVariables false
theorem law_FreeWatch (n s : Int) (w : World) : Calls Try.prog 10 #[.int .i64 n, .int .i64 s] w fun e w' => e = .returned (.bool true) ∧ Below w.heap.size w w' :=
  lawE_FreeWatch n s w no_FreeWatch yes_FreeWatch
end Go.Proofs.Ythbmjmppmilbpaa
