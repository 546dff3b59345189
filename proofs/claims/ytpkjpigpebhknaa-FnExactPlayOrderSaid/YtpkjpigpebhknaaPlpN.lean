/- The exact law of PlayOrder. Written by gen103.py. -/
import Derived.Test.YtpkjpigpebhknaaPlpO
import Derived.Test.YtpkjpigpebhknaaPlyJ
import Derived.Test.YtpkjpigpebhknaaPlyL
namespace Go.Proofs.Ytpkjpigpebhknaa
open Go.RowKit Go.Shelf
set_option linter.unusedVariables false
theorem law_PlayOrder (n s : Int) (w : World) : Calls Try.prog 9 #[.int .i64 n, .int .i64 s] w fun e w' => e = .returned (.bool true) ∧ Below w.heap.size w w' :=
  lawE_PlayOrder n s w no_PlayOrder yes_PlayOrder specPlayOrder_yes
end Go.Proofs.Ytpkjpigpebhknaa
