/- The draws of numbers of chapter 7. Written by gen57.py. -/
import Derived.Test.YtaklmepioeoohaaGM
namespace Go.Proofs.Ytaklmepioeoohaa
open Go.RowKit Go.Shelf
set_option linter.unusedVariables false
def FindPost (W : World) (e : Ending) (w' : World) : Prop :=
  ∃ n k : Nat, e = .returned (.tuple #[.int .i64 (n : Int), .int .i64 (k : Int)]) ∧ 2 ≤ n ∧ n ≤ 13 ∧ k ≤ n ∧ Below W.heap.size W w'
def OneNat (W : World) (e : Ending) (w' : World) : Prop :=
  ∃ n : Nat, e = .returned (.int .i64 (n : Int)) ∧ n ≤ 13 ∧ Below W.heap.size W w'
end Go.Proofs.Ytaklmepioeoohaa
