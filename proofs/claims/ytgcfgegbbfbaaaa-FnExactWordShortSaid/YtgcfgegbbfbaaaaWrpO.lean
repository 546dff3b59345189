/- The exact laws of chapter 10 that search. Written by gen123.py. -/
import Derived.Test.YtgcfgegbbfbaaaaWrpN
import Derived.Test.YtgcfgegbbfbaaaaWrdY
namespace Go.Proofs.Ytgcfgegbbfbaaaa
open Go.RowKit Go.Shelf
set_option linter.unusedVariables false
theorem law_WordShort (n : Int) (v : Int) (W : World) (B len cap : Nat) (A : Option Addr) (z : Nat → Int) (hC : Came W B A len z) (hB : B ≤ W.heap.size) (hlc : len ≤ cap) (hcap : cap ≤ 9223372036854775807) :
    Calls Try.prog 5 #[.int .i64 n, .slice A len cap, .int .i64 v] W fun e w' => e = .returned (.bool true) ∧ Below W.heap.size W w' :=
  lawE_WordShort n v W B len cap A z hC hB hlc hcap any_WordShort
theorem law_WordFar (a0 : Int) (W : World) (B len cap : Nat) (A : Option Addr) (z : Nat → Int) (hC : Came W B A len z) (hB : B ≤ W.heap.size) (hlc : len ≤ cap) (hcap : cap ≤ 9223372036854775807) :
    Calls Try.prog 8 #[.int .i64 a0, .slice A len cap] W fun e w' => e = .returned (.bool true) ∧ Below W.heap.size W w' :=
  lawE_WordFar a0 W B len cap A z hC hB hlc hcap no_WordFar yes_WordFar
end Go.Proofs.Ytgcfgegbbfbaaaa
