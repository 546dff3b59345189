/- The exact laws of chapter 7 over given contracts of the program. Written by gen55.py. -/
import Derived.Test.YtpkjpigpebhknaaDifC
import Derived.Test.YtpkjpigpebhknaaGB
namespace Go.Proofs.Ytpkjpigpebhknaa
open Go.RowKit Go.Shelf
set_option linter.unusedVariables false
theorem to_below {F : Nat} {xs : Array Value} {w : World} {v : Ending} (h : Calls Try.prog F xs w fun e w' => e = v ∧ w = w') : Calls Try.prog F xs w fun e w' => e = v ∧ Below w.heap.size w w' :=
  h.mono fun e w' ⟨he, hw⟩ => ⟨he, hw ▸ Below.refl _ _⟩
end Go.Proofs.Ytpkjpigpebhknaa
