/- Drawing a ring and steps, from a code. -/
import Derived.Test.YtnlalccnhpblkaaDrawS
import Derived.Test.YtnlalccnhpblkaaGC
namespace Go.Proofs.Ytnlalccnhpblkaa
open Go.RowKit Go.Shelf
set_option linter.unusedVariables false
def StepsPost (W : World) (e : Ending) (w' : World) : Prop :=
  ∃ n s : Nat, e = .returned (.tuple #[.int .i64 (n : Int), .int .i64 (s : Int)]) ∧ 1 ≤ n ∧ n ≤ 12 ∧ s < 2 ^ n ∧ Below W.heap.size W w'
def PlacePost (W : World) (e : Ending) (w' : World) : Prop :=
  ∃ (n s : Nat) (v : Int), e = .returned (.tuple #[.int .i64 (n : Int), .int .i64 (s : Int), .int .i64 v]) ∧ 1 ≤ n ∧ n ≤ 12 ∧ s < 2 ^ n ∧ -2 ≤ v ∧ v ≤ 100 ∧ Below W.heap.size W w'
end Go.Proofs.Ytnlalccnhpblkaa
