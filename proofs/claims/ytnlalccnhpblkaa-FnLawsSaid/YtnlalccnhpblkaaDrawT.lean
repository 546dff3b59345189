/- Drawing for chapter 5. -/
import Derived.Test.YtnlalccnhpblkaaDrawS
import Derived.Test.YtnlalccnhpblkaaStepD
namespace Go.Proofs.Ytnlalccnhpblkaa
open Go.RowKit Go.Shelf
set_option linter.unusedVariables false
def StepPost8 (W : World) (B R p : Nat) (e : Ending) (w' : World) : Prop :=
  ∃ n s q : Nat, e = .returned (.tuple #[.int .i64 (n : Int), .int .i64 (s : Int)]) ∧ 1 ≤ n ∧ n ≤ 8 ∧ s < 2 ^ n ∧ q ≤ p + 20 ∧ Reader w' B R q ∧ Aside R W w'
def SmallPost (W : World) (e : Ending) (w' : World) : Prop :=
  ∃ n s : Nat, e = .returned (.tuple #[.int .i64 (n : Int), .int .i64 (s : Int)]) ∧ 1 ≤ n ∧ n ≤ 8 ∧ s < 2 ^ n ∧ Below W.heap.size W w'
end Go.Proofs.Ytnlalccnhpblkaa
