/- The promise of orders over the program. Written by gen103.py. -/
import Derived.Test.YtaklmepioeoohaaPPlyD
import Derived.Test.YtaklmepioeoohaaPlpO
import Derived.Test.YtaklmepioeoohaaPlyL
namespace Go.Proofs.Ytaklmepioeoohaa
open Go.RowKit Go.Shelf
set_option linter.unusedVariables false
theorem law_POrder (W : World) (B len cap : Nat) (A : Option Addr) (f : Nat → Nat) (hC : Code W B A len f) (hB : B ≤ W.heap.size) (hlc : len ≤ cap) (hcap : cap ≤ 9223372036854775807) :
    Calls Try.prog 10 #[.slice A len cap] W fun e w' => e = .returned (.bool true) ∧ Below W.heap.size W w' :=
  lawP_FnOrder W B len cap A f hC hB hlc hcap no_PlayOrder yes_PlayOrder specPlayOrder_yes
end Go.Proofs.Ytaklmepioeoohaa
