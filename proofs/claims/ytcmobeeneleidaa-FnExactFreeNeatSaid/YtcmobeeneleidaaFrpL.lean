/- The exact laws of chapter 6, but for colours. -/
import Derived.Test.YtcmobeeneleidaaFrpH
namespace Go.Proofs.Ytcmobeeneleidaa
open Go.RowKit Go.Shelf
set_option linter.unusedVariables false
theorem law_FreeMost (n s : Int) (w : World) : Calls Try.prog 3 #[.int .i64 n, .int .i64 s] w fun e w' => e = .returned (.bool true) ∧ Below w.heap.size w w' :=
  lawE_FreeMost n s w no_FreeMost yes_FreeMost
theorem law_FreeMany (n s : Int) (w : World) : Calls Try.prog 4 #[.int .i64 n, .int .i64 s] w fun e w' => e = .returned (.bool true) ∧ Below w.heap.size w w' :=
  lawE_FreeMany n s w no_FreeMany yes_FreeMany
theorem law_FreeFull (n s : Int) (w : World) : Calls Try.prog 5 #[.int .i64 n, .int .i64 s] w fun e w' => e = .returned (.bool true) ∧ Below w.heap.size w w' :=
  lawE_FreeFull n s w no_FreeFull yes_FreeFull
theorem law_FreeWatch (n s : Int) (w : World) : Calls Try.prog 8 #[.int .i64 n, .int .i64 s] w fun e w' => e = .returned (.bool true) ∧ Below w.heap.size w w' :=
  lawE_FreeWatch n s w no_FreeWatch yes_FreeWatch
theorem law_FreeSumless (n : Int) (w : World) : Calls Try.prog 10 #[.int .i64 n] w fun e w' => e = .returned (.bool true) ∧ Below w.heap.size w w' :=
  lawE_FreeSumless n w no_FreeSumless yes_FreeSumless
theorem law_FreeNeat (n s : Int) (w : World) : Calls Try.prog 9 #[.int .i64 n, .int .i64 s] w fun e w' => e = .returned (.bool true) ∧ Below w.heap.size w w' :=
  lawE_FreeNeat n s w no_FreeNeat yes_FreeNeat
end Go.Proofs.Ytcmobeeneleidaa
