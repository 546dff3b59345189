/- The exact law of PlayClasses over given contracts of the program. Written by gen70.py. -/
import Derived.Test.YtaklmepioeoohaaPlyF
import Derived.Test.YtaklmepioeoohaaPlyX
namespace Go.Proofs.Ytaklmepioeoohaa
open Go.RowKit Go.Shelf
set_option linter.unusedVariables false
def NoPlayClasses : Prop := ∀ (n : Int) (W : World), ¬ AllIn n → Calls Try.prog 33 #[.int .i64 n] W (fun e w' => e = .returned (.tuple #[.int .i64 0, .bool false]) ∧ Below W.heap.size W w')
def YesPlayClasses : Prop := ∀ (n : Nat) (W : World), 3 ≤ n → n ≤ 11 → n % 2 = 1 → Calls Try.prog 33 #[.int .i64 (n:Int)] W (fun e w' => e = .returned (.tuple #[.int .i64 ((clsAll n : Nat) : Int), .bool true]) ∧ Below W.heap.size W w')
end Go.Proofs.Ytaklmepioeoohaa
