/- Exact law of chapter 4: trees. -/
import Derived.Test.YtookciehnjnmnaaTreeT
import Derived.Test.YtookciehnjnmnaaTreeV
namespace Go.Proofs.Ytookciehnjnmnaa
open Go.RowKit
set_option linter.unusedVariables false
/-- What both functions answer where they tell nothing. -/
def NoTree (n s : Int) : Prop := NoStep n s ∨ ¬ n ≤ 11
theorem specWalkTrees_bad (n s : Int) (w : World) (h : NoTree n s) :
    Calls Try.prog 17 #[.int .i64 n, .int .i64 s] w fun e w' => e = .returned (.tuple #[.int .i64 0, .bool false]) ∧ w = w' := by
  by_cases hn : NoStep n s
  · exact specWalkTrees_no n s w hn
  · obtain ⟨m, t, rfl, rfl, h1, h2, h3, h4⟩ := not_noStep hn
    exact specWalkTrees_out m t w h1 h2 h3 h4 (by have := h.resolve_left hn; omega)
theorem implWalkTrees_bad (n s : Int) (w : World) (h : NoTree n s) :
    Calls Try.prog 16 #[.int .i64 n, .int .i64 s] w fun e w' => e = .returned (.tuple #[.int .i64 0, .bool false]) ∧ Below w.heap.size w w' := by
  by_cases hn : NoStep n s
  · exact implWalkTrees_no n s w hn
  · obtain ⟨m, t, rfl, rfl, h1, h2, h3, h4⟩ := not_noStep hn
    exact implWalkTrees_out m t w h1 h2 h3 h4 (by have := h.resolve_left hn; omega)
theorem not_noTree {n s : Int} (h : ¬ NoTree n s) : ∃ m t : Nat, n = (m : Int) ∧ s = (t : Int) ∧ 1 ≤ m ∧ m ≤ 11 ∧ t < 2 ^ m ∧ t.testBit 0 = false := by
  obtain ⟨m, t, rfl, rfl, h1, h2, h3, h4⟩ := not_noStep (fun hh => h (.inl hh))
  have h5 : (m : Int) ≤ 11 := Decidable.byContradiction fun hh => h (.inr hh)
  exact ⟨m, t, rfl, rfl, h1, by omega, h3, h4⟩
end Go.Proofs.Ytookciehnjnmnaa
