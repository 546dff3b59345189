/- Laws of chapter 5 that reach no goroutine: FnRound, FnTwoTurned, FnOne, FnRoundWord. -/
import Derived.Test.YtfgolkbafnfblaaPRndA
import Derived.Test.YtfgolkbafnfblaaPRndB
import Derived.Test.YtfgolkbafnfblaaPRndC
import Derived.Test.YtfgolkbafnfblaaRoB
import Derived.Test.YtfgolkbafnfblaaRoF
namespace Go.Proofs.Ytfgolkbafnfblaa
open Go.RowKit Go.Shelf
set_option linter.unusedVariables false
theorem law_PTwoTurned (W : World) (B len cap : Nat) (A : Option Addr) (f : Nat → Nat) (hC : Code W B A len f) (hB : B ≤ W.heap.size) (hlc : len ≤ cap) (hcap : cap ≤ 9223372036854775807) :
    Calls Try.prog 4 #[.slice A len cap] W fun e w' => e = .returned (.bool true) ∧ Below W.heap.size W w' :=
  lawP_TwoTurned W B len cap A f hC hB hlc hcap implRoundTwo_no implRoundTwo_yes
theorem law_POne (W : World) (B len cap : Nat) (A : Option Addr) (f : Nat → Nat) (hC : Code W B A len f) (hB : B ≤ W.heap.size) (hlc : len ≤ cap) (hcap : cap ≤ 9223372036854775807) :
    Calls Try.prog 5 #[.slice A len cap] W fun e w' => e = .returned (.bool true) ∧ Below W.heap.size W w' :=
  lawP_One W B len cap A f hC hB hlc hcap implRoundOne_no implRoundOne_yes
theorem law_PRoundWord (W : World) (B len cap : Nat) (A : Option Addr) (f : Nat → Nat) (hC : Code W B A len f) (hB : B ≤ W.heap.size) (hlc : len ≤ cap) (hcap : cap ≤ 9223372036854775807) :
    Calls Try.prog 6 #[.slice A len cap] W fun e w' => e = .returned (.bool true) ∧ Below W.heap.size W w' :=
  lawP_RoundWord W B len cap A f hC hB hlc hcap (fun n b sv xs W h1 h2 _ hI => implRoundWord_any n sv xs b W h1 h2 hI) (fun n b sv xs W h1 h2 _ hI => implRoundBy_any n sv xs b W h1 h2 hI)
theorem law_PRound (W : World) (B len cap : Nat) (A : Option Addr) (f : Nat → Nat) (hC : Code W B A len f) (hB : B ≤ W.heap.size) (hlc : len ≤ cap) (hcap : cap ≤ 9223372036854775807) :
    Calls Try.prog 3 #[.slice A len cap] W fun e w' => e = .returned (.bool true) ∧ Below W.heap.size W w' :=
  lawP_Round W B len cap A f hC hB hlc hcap (fun n s b sv xs W h _ => implRoundIs_no n s sv W h) (fun n s b sv xs W h1 h2 h3 h4 _ hI => implRoundIs_yes n s sv xs b W h1 h2 h3 h4 hI) (fun n b sv xs W h1 h2 _ hI => implRoundWord_any n sv xs b W h1 h2 hI)
end Go.Proofs.Ytfgolkbafnfblaa
