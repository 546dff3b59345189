/- Promises of chapter 6 over the program: FnWaysColours. -/
import Derived.Test.YtfjcdcjhdjkjaaaPFreC
import Derived.Test.YtfjcdcjhdjkjaaaFrpR
namespace Go.Proofs.Ytfjcdcjhdjkjaaa
open Go.RowKit Go.Shelf
set_option linter.unusedVariables false
theorem law_PWaysColours (W : World) (B len cap : Nat) (A : Option Addr) (f : Nat → Nat) (hC : Code W B A len f) (hB : B ≤ W.heap.size) (hlc : len ≤ cap) (hcap : cap ≤ 9223372036854775807) :
    Calls Try.prog 7 #[.slice A len cap] W fun e w' => e = .returned (.bool true) ∧ Below W.heap.size W w' :=
  lawP_FnWaysColours W B len cap A f hC hB hlc hcap no_FreeWays yes_FreeWays yes_FreeColours
end Go.Proofs.Ytfjcdcjhdjkjaaa
