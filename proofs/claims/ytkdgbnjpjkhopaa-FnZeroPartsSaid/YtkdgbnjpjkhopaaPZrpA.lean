/- Promise laws of chapter 9. Written by gen115.py. -/
import Derived.Test.YtkdgbnjpjkhopaaZrpH
import Derived.Test.YtkdgbnjpjkhopaaPZerA
namespace Go.Proofs.Ytkdgbnjpjkhopaa
open Go.RowKit Go.Shelf
set_option linter.unusedVariables false
theorem law_PZeroParts (W : World) (B len cap : Nat) (A : Option Addr) (f : Nat → Nat) (hC : Code W B A len f) (hB : B ≤ W.heap.size) (hlc : len ≤ cap) (hcap : cap ≤ 9223372036854775807) :
    Calls Try.prog 4 #[.slice A len cap] W fun e w' => e = .returned (.bool true) ∧ Below W.heap.size W w' :=
  lawP_FnZeroParts W B len cap A f hC hB hlc hcap no_ZeroParts yes_ZeroParts yes_ZeroPlain
end Go.Proofs.Ytkdgbnjpjkhopaa
