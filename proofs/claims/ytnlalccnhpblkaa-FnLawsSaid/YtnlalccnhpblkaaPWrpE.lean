/- Promise laws of chapter 10. Written by gen123.py. -/
import Derived.Test.YtnlalccnhpblkaaWrpH
import Derived.Test.YtnlalccnhpblkaaPWrdE
namespace Go.Proofs.Ytnlalccnhpblkaa
open Go.RowKit Go.Shelf
set_option linter.unusedVariables false
theorem law_PLaws (W : World) (B len cap : Nat) (A : Option Addr) (f : Nat → Nat) (hC : Code W B A len f) (hB : B ≤ W.heap.size) (hlc : len ≤ cap) (hcap : cap ≤ 9223372036854775807) :
    Calls Try.prog 6 #[.slice A len cap] W fun e w' => e = .returned (.bool true) ∧ Below W.heap.size W w' :=
  lawP_FnLaws W B len cap A f hC hB hlc hcap no_WordLaws yes_WordLaws any_WordEnd any_WordTidy
end Go.Proofs.Ytnlalccnhpblkaa
