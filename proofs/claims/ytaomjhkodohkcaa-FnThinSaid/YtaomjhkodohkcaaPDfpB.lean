/- Promises of chapter 7 over the program. Written by gen82.py. -/
import Derived.Test.YtaomjhkodohkcaaPDifB
import Derived.Test.YtaomjhkodohkcaaDfpH
namespace Go.Proofs.Ytaomjhkodohkcaa
open Go.RowKit Go.Shelf
set_option linter.unusedVariables false
theorem law_PDiffEven (W : World) (B len cap : Nat) (A : Option Addr) (f : Nat → Nat) (hC : Code W B A len f) (hB : B ≤ W.heap.size) (hlc : len ≤ cap) (hcap : cap ≤ 9223372036854775807) :
    Calls Try.prog 4 #[.slice A len cap] W fun e w' => e = .returned (.bool true) ∧ Below W.heap.size W w' :=
  lawP_FnDiffEven W B len cap A f hC hB hlc hcap no_DiffEven any_DiffEven
theorem law_PFind (W : World) (B len cap : Nat) (A : Option Addr) (f : Nat → Nat) (hC : Code W B A len f) (hB : B ≤ W.heap.size) (hlc : len ≤ cap) (hcap : cap ≤ 9223372036854775807) :
    Calls Try.prog 5 #[.slice A len cap] W fun e w' => e = .returned (.bool true) ∧ Below W.heap.size W w' :=
  lawP_FnFind W B len cap A f hC hB hlc hcap no_DiffFind any_DiffFind any_DiffEven
theorem law_PThin (W : World) (B len cap : Nat) (A : Option Addr) (f : Nat → Nat) (hC : Code W B A len f) (hB : B ≤ W.heap.size) (hlc : len ≤ cap) (hcap : cap ≤ 9223372036854775807) :
    Calls Try.prog 6 #[.slice A len cap] W fun e w' => e = .returned (.bool true) ∧ Below W.heap.size W w' :=
  lawP_FnThin W B len cap A f hC hB hlc hcap no_DiffThin yes_DiffThin yes_DiffThinMost
end Go.Proofs.Ytaomjhkodohkcaa
