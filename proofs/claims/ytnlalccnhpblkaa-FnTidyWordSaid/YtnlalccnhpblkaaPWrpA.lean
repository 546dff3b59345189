/- Promise laws of chapter 10. Written by gen123.py. -/
import Derived.Test.YtnlalccnhpblkaaWrpI
import Derived.Test.YtnlalccnhpblkaaPWrdA
namespace Go.Proofs.Ytnlalccnhpblkaa
open Go.RowKit Go.Shelf
set_option linter.unusedVariables false
theorem law_PEnd (W : World) (B len cap : Nat) (A : Option Addr) (f : Nat → Nat) (hC : Code W B A len f) (hB : B ≤ W.heap.size) (hlc : len ≤ cap) (hcap : cap ≤ 9223372036854775807) :
    Calls Try.prog 3 #[.slice A len cap] W fun e w' => e = .returned (.bool true) ∧ Below W.heap.size W w' :=
  lawP_FnEnd W B len cap A f hC hB hlc hcap any_WordEnd
theorem law_PTidyWord (W : World) (B len cap : Nat) (A : Option Addr) (f : Nat → Nat) (hC : Code W B A len f) (hB : B ≤ W.heap.size) (hlc : len ≤ cap) (hcap : cap ≤ 9223372036854775807) :
    Calls Try.prog 4 #[.slice A len cap] W fun e w' => e = .returned (.bool true) ∧ Below W.heap.size W w' :=
  lawP_FnTidyWord W B len cap A f hC hB hlc hcap any_WordTidy any_WordEnd
end Go.Proofs.Ytnlalccnhpblkaa
