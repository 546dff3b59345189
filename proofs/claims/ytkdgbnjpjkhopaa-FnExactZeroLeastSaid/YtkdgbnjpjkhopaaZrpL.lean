/- The exact laws of chapter 9. Written by gen115.py. -/
import Derived.Test.YtkdgbnjpjkhopaaZrpH
import Derived.Test.YtkdgbnjpjkhopaaZerX
namespace Go.Proofs.Ytkdgbnjpjkhopaa
open Go.RowKit Go.Shelf
set_option linter.unusedVariables false
theorem law_ZeroParts (a0 : Int) (W : World) (B len cap : Nat) (A : Option Addr) (z : Nat → Int) (hC : Came W B A len z) (hB : B ≤ W.heap.size) (hlc : len ≤ cap) (hcap : cap ≤ 9223372036854775807) :
    Calls Try.prog 6 #[.int .i64 a0, .slice A len cap] W fun e w' => e = .returned (.bool true) ∧ Below W.heap.size W w' :=
  lawE_ZeroParts a0 W B len cap A z hC hB hlc hcap no_ZeroParts yes_ZeroParts
theorem law_ZeroLeast (a0 : Int) (W : World) (B len cap : Nat) (A : Option Addr) (z : Nat → Int) (hC : Came W B A len z) (hB : B ≤ W.heap.size) (hlc : len ≤ cap) (hcap : cap ≤ 9223372036854775807) :
    Calls Try.prog 5 #[.int .i64 a0, .slice A len cap] W fun e w' => e = .returned (.bool true) ∧ Below W.heap.size W w' :=
  lawE_ZeroLeast a0 W B len cap A z hC hB hlc hcap no_ZeroLeast yes_ZeroLeast
end Go.Proofs.Ytkdgbnjpjkhopaa
