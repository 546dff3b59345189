/- Promises of chapter 7 over the program. Written by gen82.py. -/
import Derived.Test.YtaomjhkodohkcaaPDifC
import Derived.Test.YtaomjhkodohkcaaDfpH
namespace Go.Proofs.Ytaomjhkodohkcaa
open Go.RowKit Go.Shelf
set_option linter.unusedVariables false
theorem law_PCarries (W : World) (B len cap : Nat) (A : Option Addr) (f : Nat → Nat) (hC : Code W B A len f) (hB : B ≤ W.heap.size) (hlc : len ≤ cap) (hcap : cap ≤ 9223372036854775807) :
    Calls Try.prog 9 #[.slice A len cap] W fun e w' => e = .returned (.bool true) ∧ Below W.heap.size W w' :=
  lawP_FnCarries W B len cap A f hC hB hlc hcap no_DiffCarries yes_DiffCarries
theorem law_PMultiplier (W : World) (B len cap : Nat) (A : Option Addr) (f : Nat → Nat) (hC : Code W B A len f) (hB : B ≤ W.heap.size) (hlc : len ≤ cap) (hcap : cap ≤ 9223372036854775807) :
    Calls Try.prog 10 #[.slice A len cap] W fun e w' => e = .returned (.bool true) ∧ Below W.heap.size W w' :=
  lawP_FnMultiplier W B len cap A f hC hB hlc hcap no_DiffEven any_DiffEven yes_DiffCarries
end Go.Proofs.Ytaomjhkodohkcaa
