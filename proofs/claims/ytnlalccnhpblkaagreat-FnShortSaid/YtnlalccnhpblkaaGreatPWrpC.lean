/- Promise laws of chapter 10. Written by gen123.py. -/
import Derived.Test.YtnlalccnhpblkaaGreatWrpN
import Derived.Test.YtnlalccnhpblkaaGreatPWrdC
namespace Go.Proofs.YtnlalccnhpblkaaGreat
open Go.RowKit Go.Shelf
set_option linter.unusedVariables false
theorem law_PShort (W : World) (B len cap : Nat) (A : Option Addr) (f : Nat → Nat) (hC : Code W B A len f) (hB : B ≤ W.heap.size) (hlc : len ≤ cap) (hcap : cap ≤ 9223372036854775807) :
    Calls Tryz.prog 3 #[.slice A len cap] W fun e w' => e = .returned (.bool true) ∧ Below W.heap.size W w' :=
  lawP_FnShort W B len cap A f hC hB hlc hcap any_WordShort any_WordEnd any_WordTidy
end Go.Proofs.YtnlalccnhpblkaaGreat
