/- Promises of chapter 6 over the program: FnColours. -/
import Derived.Test.YtfjcdcjhdjkjaaaPFreB
import Derived.Test.YtfjcdcjhdjkjaaaFrpH
import Derived.Test.YtfjcdcjhdjkjaaaFrpR
namespace Go.Proofs.Ytfjcdcjhdjkjaaa
open Go.RowKit Go.Shelf
set_option linter.unusedVariables false
theorem law_PColours (W : World) (B len cap : Nat) (A : Option Addr) (f : Nat → Nat) (hC : Code W B A len f) (hB : B ≤ W.heap.size) (hlc : len ≤ cap) (hcap : cap ≤ 9223372036854775807) :
    Calls Try.prog 6 #[.slice A len cap] W fun e w' => e = .returned (.bool true) ∧ Below W.heap.size W w' :=
  lawP_FnColours W B len cap A f hC hB hlc hcap no_FreeColours yes_FreeColours yes_FreeFull yes_FreeMost
end Go.Proofs.Ytfjcdcjhdjkjaaa
