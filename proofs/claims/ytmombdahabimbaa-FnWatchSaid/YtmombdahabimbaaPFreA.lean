/- Promise laws of chapter 6 over given contracts of the program: FnFree, FnFreeMany, FnFullSet, FnSumless. -/
import Derived.Test.YtmombdahabimbaaGI
import Derived.Test.YtmombdahabimbaaFreI
import Derived.Test.YtmombdahabimbaaDrawP
import Derived.Test.YtmombdahabimbaaStepWA
import Derived.Test.YtmombdahabimbaaStepWB
import Derived.Test.YtmombdahabimbaaGM
namespace Go.Proofs.Ytmombdahabimbaa
open Go.RowKit Go.Shelf
set_option linter.unusedVariables false
theorem wraps_big (x : Int) (q : Int) (h : x = q) (hq : -1000000 ≤ q ∧ q ≤ 1000000) : IntKind.i64.wrap x = q ∧ wrap64 x = q := by
  subst h
  exact ⟨IntWalk.i64_in _ ⟨by omega, by omega⟩, IntWalk.wrap64_in _ ⟨by omega, by omega⟩⟩
theorem zero_facts (s : Nat) : (s = 0 ∧ ((s : Int) == 0) = true ∧ ((s : Int) != 0) = false) ∨ (s ≠ 0 ∧ ((s : Int) == 0) = false ∧ ((s : Int) != 0) = true) := by
  by_cases h : s = 0
  · exact .inl ⟨h, by simp [h], by simp [h]⟩
  · exact .inr ⟨h, by simpa using h, by simpa using h⟩
end Go.Proofs.Ytmombdahabimbaa
