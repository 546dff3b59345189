/- The exact laws of chapter 10 over given contracts of the program. Written by gen106.py. -/
import Derived.Test.YtnlalccnhpblkaaWrdR
import Derived.Test.YtnlalccnhpblkaaRndY
import Derived.Test.YtnlalccnhpblkaaToInts
namespace Go.Proofs.Ytnlalccnhpblkaa
open Go.RowKit Go.Shelf
set_option linter.unusedVariables false
def AnyWordEnd : Prop := ∀ (n : Int) (lv : Value) (xs : List Int) (s : ByteArray) (b : Nat) (W : World), xs.length ≤ 2000000 → s.size ≤ 1048576 → IsInts W b lv xs → Calls Try.prog 9 #[.int .i64 n, lv, .string s] W (fun e w' => e = .returned (.tuple #[.int .i64 (((endO n xs s).getD 0 : Nat) : Int), .bool (endO n xs s).isSome]) ∧ Below W.heap.size W w')
def AnyWordTidy : Prop := ∀ (n : Int) (lv : Value) (xs : List Int) (s : ByteArray) (b : Nat) (W : World), xs.length ≤ 2000000 → s.size ≤ 1048576 → IsInts W b lv xs → Calls Try.prog 12 #[.int .i64 n, lv, .string s] W (fun e w' => e = .returned (.tuple #[.string ((tidyO n xs s).getD ⟨#[]⟩), .bool (tidyO n xs s).isSome]) ∧ Below W.heap.size W w')
def AnyWordSame : Prop := ∀ (n : Int) (lv : Value) (xs : List Int) (s t : ByteArray) (b : Nat) (W : World), xs.length ≤ 2000000 → s.size ≤ 1048576 → t.size ≤ 1048576 → IsInts W b lv xs → Calls Try.prog 15 #[.int .i64 n, lv, .string s, .string t] W (fun e w' => e = .returned (.bool (sameO n xs s t)) ∧ Below W.heap.size W w')
end Go.Proofs.Ytnlalccnhpblkaa
