/- The exact laws of chapter 10 that make no search. Written by gen123.py. -/
import Derived.Test.YtgcfgegbbfbaaaaWrpI
namespace Go.Proofs.Ytgcfgegbbfbaaaa
open Go.RowKit Go.Shelf
set_option linter.unusedVariables false
theorem law_WordEnd (n : Int) (s : ByteArray) (W : World) (B len cap : Nat) (A : Option Addr) (z : Nat → Int) (hC : Came W B A len z) (hB : B ≤ W.heap.size) (hlc : len ≤ cap) (hcap : cap ≤ 9223372036854775807) :
    Calls Try.prog 3 #[.int .i64 n, .slice A len cap, .string s] W fun e w' => e = .returned (.bool true) ∧ Below W.heap.size W w' :=
  lawE_WordEnd n s W B len cap A z hC hB hlc hcap any_WordEnd
theorem law_WordTidy (n : Int) (s : ByteArray) (W : World) (B len cap : Nat) (A : Option Addr) (z : Nat → Int) (hC : Came W B A len z) (hB : B ≤ W.heap.size) (hlc : len ≤ cap) (hcap : cap ≤ 9223372036854775807) :
    Calls Try.prog 4 #[.int .i64 n, .slice A len cap, .string s] W fun e w' => e = .returned (.bool true) ∧ Below W.heap.size W w' :=
  lawE_WordTidy n s W B len cap A z hC hB hlc hcap any_WordTidy
theorem law_WordSame (n : Int) (s t : ByteArray) (W : World) (B len cap : Nat) (A : Option Addr) (z : Nat → Int) (hC : Came W B A len z) (hB : B ≤ W.heap.size) (hlc : len ≤ cap) (hcap : cap ≤ 9223372036854775807) :
    Calls Try.prog 6 #[.int .i64 n, .slice A len cap, .string s, .string t] W fun e w' => e = .returned (.bool true) ∧ Below W.heap.size W w' :=
  lawE_WordSame n s t W B len cap A z hC hB hlc hcap any_WordSame
end Go.Proofs.Ytgcfgegbbfbaaaa
