/- The program's plain functions of chapter 2: both, even, other, next, isPlace, size. -/
import Derived.Test.YthccchelemnnfaaStepS
namespace Go.Proofs.Ythccchelemnnfaa
open Go.RowKit
set_option linter.unusedVariables false
theorem with_int (s v : Nat) (x : Int) (w : World) (hx : x = (v : Int)) (hs : s < 2 ^ 40) (hv : v < 40) :
    Calls Try.prog 67 #[.int .i64 (s:Int), .int .i64 x] w fun e w' => e = .returned (.int .i64 ((s ||| 2 ^ v : Nat) : Int)) ∧ w = w' := by
  subst hx
  exact with_any s v w hs hv
end Go.Proofs.Ythccchelemnnfaa
