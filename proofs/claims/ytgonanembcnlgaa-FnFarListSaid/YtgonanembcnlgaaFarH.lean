/- The exact laws of FarList, FarLayers, FarMost and FarSum. -/
import Derived.Test.YtgonanembcnlgaaFarLL
import Derived.Test.YtgonanembcnlgaaGF
import Derived.Test.YtgonanembcnlgaaGD
namespace Go.Proofs.Ytgonanembcnlgaa
open Go.RowKit
set_option linter.unusedVariables false
theorem lists_res {w w' : World} {n : Nat} {xs : List Int} {e : Ending} (h : ListsPost w n xs e w') : ListRes w xs true e w' := by
  obtain ⟨g, cap, he, hb, hI⟩ := h
  exact ⟨_, he, hb, hI⟩
theorem none_res {w w' : World} {e : Ending} (h : NonePost w e w') : ListRes w [] false e w' := h
theorem nil_res {w w' : World} {e : Ending} (h : e = .returned (.tuple #[.slice none 0 0, .bool false]) ∧ Below w.heap.size w w') : ListRes w [] false e w' := ⟨_, h.1, h.2, isInts_nil _ _⟩
end Go.Proofs.Ytgonanembcnlgaa
