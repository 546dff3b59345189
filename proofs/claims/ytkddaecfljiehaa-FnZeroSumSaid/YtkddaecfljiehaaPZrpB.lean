/- Promise laws of chapter 9. Written by gen115.py. -/
import Derived.Test.YtkddaecfljiehaaZrpH
import Derived.Test.YtkddaecfljiehaaPZerB
namespace Go.Proofs.Ytkddaecfljiehaa
open Go.RowKit Go.Shelf
set_option linter.unusedVariables false
theorem law_PDavenport (W : World) (B len cap : Nat) (A : Option Addr) (f : Nat → Nat) (hC : Code W B A len f) (hB : B ≤ W.heap.size) (hlc : len ≤ cap) (hcap : cap ≤ 9223372036854775807) :
    Calls Try.prog 3 #[.slice A len cap] W fun e w' => e = .returned (.bool true) ∧ Below W.heap.size W w' :=
  lawP_FnDavenport W B len cap A f hC hB hlc hcap no_ZeroCounts yes_ZeroCounts yes_ZeroFirst
theorem law_PZeroSum (W : World) (B len cap : Nat) (A : Option Addr) (f : Nat → Nat) (hC : Code W B A len f) (hB : B ≤ W.heap.size) (hlc : len ≤ cap) (hcap : cap ≤ 9223372036854775807) :
    Calls Try.prog 4 #[.slice A len cap] W fun e w' => e = .returned (.bool true) ∧ Below W.heap.size W w' :=
  lawP_FnZeroSum W B len cap A f hC hB hlc hcap no_ZeroSum yes_ZeroSum
end Go.Proofs.Ytkddaecfljiehaa
