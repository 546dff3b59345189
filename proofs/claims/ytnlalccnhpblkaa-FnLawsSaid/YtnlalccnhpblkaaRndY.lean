/- Exact laws of chapter 5 over a list that came in, with a list as their result: the program's contracts given. -/
import Derived.Test.YtnlalccnhpblkaaRndX
import Derived.Test.YtnlalccnhpblkaaGG
namespace Go.Proofs.Ytnlalccnhpblkaa
open Go.RowKit Go.Shelf
set_option linter.unusedVariables false
theorem apart_lt {v a : Value} {N : Nat} (hv : ∀ k, v.ownBlock = some k → k < N) (ha : ∀ k, a.ownBlock = some k → N ≤ k) : v.ownBlock = none ∨ v.ownBlock ≠ a.ownBlock := by
  cases e : v.ownBlock with
  | none => exact .inl rfl
  | some k =>
    refine .inr fun e2 => ?_
    have h1 := hv k e
    have h2 := ha k e2.symm
    omega
theorem apart_gt {v a : Value} {N : Nat} (hv : ∀ k, v.ownBlock = some k → N ≤ k) (ha : ∀ k, a.ownBlock = some k → k < N) : v.ownBlock = none ∨ v.ownBlock ≠ a.ownBlock := by
  cases e : v.ownBlock with
  | none => exact .inl rfl
  | some k =>
    refine .inr fun e2 => ?_
    have h1 := hv k e
    have h2 := ha k e2.symm
    omega
end Go.Proofs.Ytnlalccnhpblkaa
