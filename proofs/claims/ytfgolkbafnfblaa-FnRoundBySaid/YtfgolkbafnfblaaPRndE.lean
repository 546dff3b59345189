/- FnRoundBy. -/
import Derived.Test.YtfgolkbafnfblaaPRndD
import Derived.Test.YtfgolkbafnfblaaRoF
namespace Go.Proofs.Ytfgolkbafnfblaa
open Go.RowKit Go.Shelf
set_option linter.unusedVariables false
theorem law_PRoundBy (W : World) (B len cap : Nat) (A : Option Addr) (f : Nat → Nat) (hC : Code W B A len f) (hB : B ≤ W.heap.size) (hlc : len ≤ cap) (hcap : cap ≤ 9223372036854775807) :
    Calls Try.prog 7 #[.slice A len cap] W fun e w' => e = .returned (.bool true) ∧ Below W.heap.size W w' :=
  lawP_RoundBy W B len cap A f hC hB hlc hcap (fun n b sv xs W h1 h2 _ hI => implRoundWord_any n sv xs b W h1 h2 hI) (fun n b sv xs W h1 h2 _ hI => implRoundBy_any n sv xs b W h1 h2 hI)
end Go.Proofs.Ytfgolkbafnfblaa
