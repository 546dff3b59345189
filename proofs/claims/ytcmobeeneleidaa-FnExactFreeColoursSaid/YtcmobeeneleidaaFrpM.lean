/- The exact laws of chapter 6: colours. -/
import Derived.Test.YtcmobeeneleidaaFrpR
namespace Go.Proofs.Ytcmobeeneleidaa
open Go.RowKit Go.Shelf
set_option linter.unusedVariables false
theorem law_FreeWays (n s k : Int) (w : World) : Calls Try.prog 6 #[.int .i64 n, .int .i64 s, .int .i64 k] w fun e w' => e = .returned (.bool true) ∧ Below w.heap.size w w' :=
  lawE_FreeWays n s k w no_FreeWays yes_FreeWays
theorem law_FreeColours (n s : Int) (w : World) : Calls Try.prog 7 #[.int .i64 n, .int .i64 s] w fun e w' => e = .returned (.bool true) ∧ Below w.heap.size w w' :=
  lawE_FreeColours n s w no_FreeColours yes_FreeColours
end Go.Proofs.Ytcmobeeneleidaa
