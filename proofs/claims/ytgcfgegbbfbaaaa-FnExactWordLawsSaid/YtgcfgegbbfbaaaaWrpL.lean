/- The exact law of the set of laws. Written by gen123.py. -/
import Derived.Test.YtgcfgegbbfbaaaaWrpH
import Derived.Test.YtgcfgegbbfbaaaaWrdV
namespace Go.Proofs.Ytgcfgegbbfbaaaa
open Go.RowKit Go.Shelf
set_option linter.unusedVariables false
theorem law_WordLaws (a0 aK : Int) (W : World) (B len cap : Nat) (A : Option Addr) (z : Nat → Int) (hC : Came W B A len z) (hB : B ≤ W.heap.size) (hlc : len ≤ cap) (hcap : cap ≤ 9223372036854775807) :
    Calls Try.prog 7 #[.int .i64 a0, .slice A len cap, .int .i64 aK] W fun e w' => e = .returned (.bool true) ∧ Below W.heap.size W w' :=
  lawE_WordLaws a0 aK W B len cap A z hC hB hlc hcap no_WordLaws yes_WordLaws
end Go.Proofs.Ytgcfgegbbfbaaaa
