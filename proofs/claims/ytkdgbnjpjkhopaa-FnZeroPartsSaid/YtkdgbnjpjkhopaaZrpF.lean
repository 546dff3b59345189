/- Rows, the program's side: the counts of all sums. Written by gen112.py. -/
import Derived.Test.YtkdgbnjpjkhopaaZrpE
namespace Go.Proofs.Ytkdgbnjpjkhopaa
open Go.RowKit Go.Shelf
set_option linter.unusedVariables false
attribute [local go_sem] Oper.semAt_some
theorem ints_same9 {W W' : World} {b g len cap : Nat} {xs : List Int} (h : IsInts W b (.slice (some ⟨g, 0, none⟩) len cap) xs) (e : W'.heap[g]? = W.heap[g]?) : IsInts W' b (.slice (some ⟨g, 0, none⟩) len cap) xs := by
  refine ⟨h.1, ?_⟩
  rcases h.2 with hn | ⟨g', cap', cur, hv, h1, hgg, rest⟩
  · exact .inl hn
  · cases hv
    exact .inr ⟨g, cap, cur, rfl, h1, e.trans hgg, rest⟩
theorem ints_block {W : World} {b g len cap : Nat} {xs : List Int} (h : IsInts W b (.slice (some ⟨g, 0, none⟩) len cap) xs) : ∃ cur, W.heap[g]? = some (.cells cur 3 (0, 0)) := by
  rcases h.2 with ⟨hv, _⟩ | ⟨g', cap', cur, hv, h1, hgg, _⟩
  · cases hv
  · cases hv; exact ⟨cur, hgg⟩
end Go.Proofs.Ytkdgbnjpjkhopaa
