/- Promises of chapter 6 over the program: FnFree, FnFreeMany, FnFullSet, FnSumless. -/
import Derived.Test.YtfjcdcjhdjkjaaaPFreA
import Derived.Test.YtfjcdcjhdjkjaaaFrpH
namespace Go.Proofs.Ytfjcdcjhdjkjaaa
open Go.RowKit Go.Shelf
set_option linter.unusedVariables false
theorem law_PFree (W : World) (B len cap : Nat) (A : Option Addr) (f : Nat → Nat) (hC : Code W B A len f) (hB : B ≤ W.heap.size) (hlc : len ≤ cap) (hcap : cap ≤ 9223372036854775807) :
    Calls Try.prog 3 #[.slice A len cap] W fun e w' => e = .returned (.bool true) ∧ Below W.heap.size W w' :=
  lawP_FnFree W B len cap A f hC hB hlc hcap no_FreeMost yes_FreeMost yes_FreeFull
theorem law_PFreeMany (W : World) (B len cap : Nat) (A : Option Addr) (f : Nat → Nat) (hC : Code W B A len f) (hB : B ≤ W.heap.size) (hlc : len ≤ cap) (hcap : cap ≤ 9223372036854775807) :
    Calls Try.prog 4 #[.slice A len cap] W fun e w' => e = .returned (.bool true) ∧ Below W.heap.size W w' :=
  lawP_FnFreeMany W B len cap A f hC hB hlc hcap no_FreeMany yes_FreeMany yes_FreeMost
theorem law_PFullSet (W : World) (B len cap : Nat) (A : Option Addr) (f : Nat → Nat) (hC : Code W B A len f) (hB : B ≤ W.heap.size) (hlc : len ≤ cap) (hcap : cap ≤ 9223372036854775807) :
    Calls Try.prog 5 #[.slice A len cap] W fun e w' => e = .returned (.bool true) ∧ Below W.heap.size W w' :=
  lawP_FnFullSet W B len cap A f hC hB hlc hcap no_FreeFull yes_FreeFull yes_FreeMost
theorem law_PSumless (W : World) (B len cap : Nat) (A : Option Addr) (f : Nat → Nat) (hC : Code W B A len f) (hB : B ≤ W.heap.size) (hlc : len ≤ cap) (hcap : cap ≤ 9223372036854775807) :
    Calls Try.prog 10 #[.slice A len cap] W fun e w' => e = .returned (.bool true) ∧ Below W.heap.size W w' :=
  lawP_FnSumless W B len cap A f hC hB hlc hcap no_FreeSumless yes_FreeSumless
end Go.Proofs.Ytfjcdcjhdjkjaaa
