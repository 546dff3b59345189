/- FnExactWordFar over given contracts of the program. Written by gen107.py. -/
import Derived.Test.YtnlalccnhpblkaaWrdX
namespace Go.Proofs.Ytnlalccnhpblkaa
open Go.RowKit Go.Shelf
set_option linter.unusedVariables false
def NoWordFar : Prop := ∀ (n : Int) (lv : Value) (xs : List Int) (b : Nat) (W : World), ¬ LetIn n xs → xs.length ≤ 2000000 → IsInts W b lv xs → Calls Try.prog 22 #[.int .i64 n, lv] W (ListRes W [] false)
def YesWordFar : Prop := ∀ (n : Nat) (lv : Value) (xs : List Int) (b : Nat) (W : World), LetIn (n : Int) xs → IsInts W b lv xs → Calls Try.prog 22 #[.int .i64 (n:Int), lv] W (ListRes W (tabI n (farV n (letL xs))) true)
end Go.Proofs.Ytnlalccnhpblkaa
