/- Exact laws of functions whose first result is a list of integers: two calls that answer alike. -/
import Derived.Test.YtcmobeeneleidaaGB
import Derived.Test.YtcmobeeneleidaaGD
namespace Go.Proofs.Ytcmobeeneleidaa
open Go.RowKit
set_option linter.unusedVariables false
/-- A list of one's own, and whether it succeeded. -/
def ListRes (w : World) (xs : List Int) (b : Bool) (e : Ending) (w' : World) : Prop :=
  ∃ sv, e = .returned (.tuple #[sv, .bool b]) ∧ Below w.heap.size w w' ∧ IsInts w' w.heap.size sv xs
theorem lists_res {w w' : World} {n : Nat} {xs : List Int} {e : Ending} (h : ListsPost w n xs e w') : ListRes w xs true e w' := by
  obtain ⟨g, cap, he, hb, hI⟩ := h
  exact ⟨_, he, hb, hI⟩
theorem none_res {w w' : World} {e : Ending} (h : NonePost w e w') : ListRes w [] false e w' := h
theorem nil_res {w w' : World} {e : Ending} (h : e = .returned (.tuple #[.slice none 0 0, .bool false]) ∧ Below w.heap.size w w') : ListRes w [] false e w' := ⟨_, h.1, h.2, isInts_nil _ _⟩
end Go.Proofs.Ytcmobeeneleidaa
