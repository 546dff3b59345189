/- Promises of chapter 8 over the program. Written by gen99.py. -/
import Derived.Test.YtaklmepioeoohaaPPlyB
import Derived.Test.YtaklmepioeoohaaGT
namespace Go.Proofs.Ytaklmepioeoohaa
open Go.RowKit Go.Shelf
set_option linter.unusedVariables false
theorem law_PPlayAll (W : World) (B len cap : Nat) (A : Option Addr) (f : Nat → Nat) (hC : Code W B A len f) (hB : B ≤ W.heap.size) (hlc : len ≤ cap) (hcap : cap ≤ 9223372036854775807) :
    Calls Try.prog 4 #[.slice A len cap] W fun e w' => e = .returned (.bool true) ∧ Below W.heap.size W w' :=
  lawP_FnPlayAll W B len cap A f hC hB hlc hcap no_PlayAll yes_PlayAll yes_PlayIn
end Go.Proofs.Ytaklmepioeoohaa
