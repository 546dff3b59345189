/- Promises of chapter 7 over the program. Written by gen82.py. -/
import Derived.Test.YtaomjhkodohkcaaPDifA
import Derived.Test.YtaomjhkodohkcaaDfpH
namespace Go.Proofs.Ytaomjhkodohkcaa
open Go.RowKit Go.Shelf
set_option linter.unusedVariables false
theorem law_PWhole (W : World) (B len cap : Nat) (A : Option Addr) (f : Nat → Nat) (hC : Code W B A len f) (hB : B ≤ W.heap.size) (hlc : len ≤ cap) (hcap : cap ≤ 9223372036854775807) :
    Calls Try.prog 8 #[.slice A len cap] W fun e w' => e = .returned (.bool true) ∧ Below W.heap.size W w' :=
  lawP_FnWhole W B len cap A f hC hB hlc hcap no_DiffWhole yes_DiffWhole
theorem law_PThinMost (W : World) (B len cap : Nat) (A : Option Addr) (f : Nat → Nat) (hC : Code W B A len f) (hB : B ≤ W.heap.size) (hlc : len ≤ cap) (hcap : cap ≤ 9223372036854775807) :
    Calls Try.prog 7 #[.slice A len cap] W fun e w' => e = .returned (.bool true) ∧ Below W.heap.size W w' :=
  lawP_FnThinMost W B len cap A f hC hB hlc hcap no_DiffThinMost yes_DiffThinMost yes_DiffWhole
end Go.Proofs.Ytaomjhkodohkcaa
