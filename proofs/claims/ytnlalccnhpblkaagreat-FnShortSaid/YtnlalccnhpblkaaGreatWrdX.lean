/- The exact laws of chapter 10 over given contracts of the program. Written by gen106.py. -/
import Derived.Test.YtnlalccnhpblkaaGreatWrdR
import Derived.Test.YtnlalccnhpblkaaGreatRndY
import Derived.Test.YtnlalccnhpblkaaGreatToInts
namespace Go.Proofs.YtnlalccnhpblkaaGreat
open Go.RowKit Go.Shelf
set_option linter.unusedVariables false
def AnyWordEnd : Prop := ∀ (n : Int) (lv : Value) (xs : List Int) (s : ByteArray) (b : Nat) (W : World), xs.length ≤ 2000000 → s.size ≤ 1048576 → IsInts W b lv xs → Calls Tryz.prog 7 #[.int .i64 n, lv, .string s] W (fun e w' => e = .returned (.tuple #[.int .i64 (((endO n xs s).getD 0 : Nat) : Int), .bool (endO n xs s).isSome]) ∧ Below W.heap.size W w')
def AnyWordTidy : Prop := ∀ (n : Int) (lv : Value) (xs : List Int) (s : ByteArray) (b : Nat) (W : World), xs.length ≤ 2000000 → s.size ≤ 1048576 → IsInts W b lv xs → Calls Tryz.prog 8 #[.int .i64 n, lv, .string s] W (fun e w' => e = .returned (.tuple #[.string ((tidyO n xs s).getD ⟨#[]⟩), .bool (tidyO n xs s).isSome]) ∧ Below W.heap.size W w')
def AnyWordShort : Prop := ∀ (n : Int) (lv : Value) (xs : List Int) (v : Int) (b : Nat) (W : World), xs.length ≤ 2000000 → IsInts W b lv xs → Calls Tryz.prog 5 #[.int .i64 n, lv, .int .i64 v] W (fun e w' => e = .returned (.tuple #[.string ((shortO n xs v).getD ⟨#[]⟩), .bool (shortO n xs v).isSome]) ∧ Below W.heap.size W w')
end Go.Proofs.YtnlalccnhpblkaaGreat
