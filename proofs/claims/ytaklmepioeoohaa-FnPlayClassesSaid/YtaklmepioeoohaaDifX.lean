/- The exact laws of chapter 7 over given contracts of the program. Written by gen55.py. -/
import Derived.Test.YtaklmepioeoohaaDifC
import Derived.Test.YtaklmepioeoohaaGB
namespace Go.Proofs.Ytaklmepioeoohaa
open Go.RowKit Go.Shelf
set_option linter.unusedVariables false
theorem to_below {F : Nat} {xs : Array Value} {w : World} {v : Ending} (h : Calls Try.prog F xs w fun e w' => e = v ∧ w = w') : Calls Try.prog F xs w fun e w' => e = v ∧ Below w.heap.size w w' :=
  h.mono fun e w' ⟨he, hw⟩ => ⟨he, hw ▸ Below.refl _ _⟩
def NoDiffEven : Prop := ∀ (n s : Int) (W : World), NotIn n s ∨ n < 2 → Calls Try.prog 31 #[.int .i64 n, .int .i64 s] W (fun e w' => e = .returned (.tuple #[.int .i64 0, .bool false]) ∧ Below W.heap.size W w')
def AnyDiffEven : Prop := ∀ (n s : Nat) (W : World), 2 ≤ n → n ≤ 12 → s < 2 ^ n → Calls Try.prog 31 #[.int .i64 (n:Int), .int .i64 (s:Int)] W (fun e w' => e = .returned (.tuple #[.int .i64 ((evZ n s : Nat) : Int), .bool (evenB n s)]) ∧ Below W.heap.size W w')
end Go.Proofs.Ytaklmepioeoohaa
