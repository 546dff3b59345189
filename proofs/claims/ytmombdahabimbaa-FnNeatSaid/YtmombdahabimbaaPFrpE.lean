/- Promises of chapter 6 over the program: FnNeat. -/
import Derived.Test.YtmombdahabimbaaPFreD
import Derived.Test.YtmombdahabimbaaFrpH
namespace Go.Proofs.Ytmombdahabimbaa
open Go.RowKit Go.Shelf
set_option linter.unusedVariables false
theorem law_PNeat (W : World) (B len cap : Nat) (A : Option Addr) (f : Nat → Nat) (hC : Code W B A len f) (hB : B ≤ W.heap.size) (hlc : len ≤ cap) (hcap : cap ≤ 9223372036854775807) :
    Calls Try.prog 4 #[.slice A len cap] W fun e w' => e = .returned (.bool true) ∧ Below W.heap.size W w' :=
  lawP_FnNeat W B len cap A f hC hB hlc hcap no_FreeNeat yes_FreeNeat yes_FreeWatch
end Go.Proofs.Ytmombdahabimbaa
