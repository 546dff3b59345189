/- The exact laws of chapter 8 (all but PlayOrder). Written by gen99.py. -/
import Derived.Test.YtpkjpigpebhknaaPlpH
namespace Go.Proofs.Ytpkjpigpebhknaa
open Go.RowKit Go.Shelf
set_option linter.unusedVariables false
theorem law_PlayIn (n s : Int) (w : World) : Calls Try.prog 3 #[.int .i64 n, .int .i64 s] w fun e w' => e = .returned (.bool true) ∧ Below w.heap.size w w' :=
  lawE_PlayIn n s w no_PlayIn yes_PlayIn
theorem law_PlayAll (n : Int) (w : World) : Calls Try.prog 4 #[.int .i64 n] w fun e w' => e = .returned (.bool true) ∧ Below w.heap.size w w' :=
  lawE_PlayAll n w no_PlayAll yes_PlayAll
theorem law_PlayThree (n s : Int) (w : World) : Calls Try.prog 5 #[.int .i64 n, .int .i64 s] w fun e w' => e = .returned (.bool true) ∧ Below w.heap.size w w' :=
  lawE_PlayThree n s w no_PlayThree yes_PlayThree
theorem law_PlayTwice (n s : Int) (w : World) : Calls Try.prog 6 #[.int .i64 n, .int .i64 s] w fun e w' => e = .returned (.bool true) ∧ Below w.heap.size w w' :=
  lawE_PlayTwice n s w no_PlayTwice yes_PlayTwice
theorem law_PlayEqual (n s : Int) (w : World) : Calls Try.prog 7 #[.int .i64 n, .int .i64 s] w fun e w' => e = .returned (.bool true) ∧ Below w.heap.size w w' :=
  lawE_PlayEqual n s w no_PlayEqual yes_PlayEqual
theorem law_PlayClasses (n : Int) (w : World) : Calls Try.prog 8 #[.int .i64 n] w fun e w' => e = .returned (.bool true) ∧ Below w.heap.size w w' :=
  lawE_PlayClasses n w no_PlayClasses yes_PlayClasses
end Go.Proofs.Ytpkjpigpebhknaa
