/- The exact laws of chapter 7. Written by gen82.py. -/
import Derived.Test.YthbmjmppmilbpaaDfpH
namespace Go.Proofs.Ythbmjmppmilbpaa
open Go.RowKit Go.Shelf
set_option linter.unusedVariables false
theorem law_DiffTable (n s : Int) (w : World) : Calls Try.prog 3 #[.int .i64 n, .int .i64 s] w fun e w' => e = .returned (.bool true) ∧ Below w.heap.size w w' :=
  lawE_DiffTable n s w no_DiffTable yes_DiffTable
theorem law_DiffEven (n s : Int) (w : World) : Calls Try.prog 4 #[.int .i64 n, .int .i64 s] w fun e w' => e = .returned (.bool true) ∧ Below w.heap.size w w' :=
  lawE_DiffEven n s w no_DiffEven any_DiffEven
theorem law_DiffFind (n k : Int) (w : World) : Calls Try.prog 5 #[.int .i64 n, .int .i64 k] w fun e w' => e = .returned (.bool true) ∧ Below w.heap.size w w' :=
  lawE_DiffFind n k w no_DiffFind any_DiffFind
theorem law_DiffThin (n s : Int) (w : World) : Calls Try.prog 6 #[.int .i64 n, .int .i64 s] w fun e w' => e = .returned (.bool true) ∧ Below w.heap.size w w' :=
  lawE_DiffThin n s w no_DiffThin yes_DiffThin
theorem law_DiffThinMost (n : Int) (w : World) : Calls Try.prog 7 #[.int .i64 n] w fun e w' => e = .returned (.bool true) ∧ Below w.heap.size w w' :=
  lawE_DiffThinMost n w no_DiffThinMost yes_DiffThinMost
theorem law_DiffWhole (n : Int) (w : World) : Calls Try.prog 8 #[.int .i64 n] w fun e w' => e = .returned (.bool true) ∧ Below w.heap.size w w' :=
  lawE_DiffWhole n w no_DiffWhole yes_DiffWhole
theorem law_DiffCarries (n s : Int) (w : World) : Calls Try.prog 9 #[.int .i64 n, .int .i64 s] w fun e w' => e = .returned (.bool true) ∧ Below w.heap.size w w' :=
  lawE_DiffCarries n s w no_DiffCarries yes_DiffCarries
end Go.Proofs.Ythbmjmppmilbpaa
