/- Promises of chapter 9 over given contracts: plain rows, Davenport, sums. Written by gen91.py. -/
import Derived.Test.YtkdgbnjpjkhopaaPZerA
import Derived.Test.YtkdgbnjpjkhopaaSame
namespace Go.Proofs.Ytkdgbnjpjkhopaa
open Go.RowKit Go.Shelf
set_option linter.unusedVariables false
theorem less_fit (v : Nat) (h : v ≤ 100000) : IntKind.i64.wrap ((v : Int) - 1) = (v : Int) - 1 ∧ wrap64 ((v : Int) - 1) = (v : Int) - 1 := ⟨IntWalk.i64_in _ (by omega), IntWalk.wrap64_in _ (by omega)⟩
end Go.Proofs.Ytkdgbnjpjkhopaa
