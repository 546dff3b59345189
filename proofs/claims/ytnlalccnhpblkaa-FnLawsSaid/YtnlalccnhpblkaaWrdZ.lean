/- Words: the laws' comparison of lists of texts. -/
import Derived.Test.YtnlalccnhpblkaaWrdY
namespace Go.Proofs.Ytnlalccnhpblkaa
open Go.RowKit Go.Shelf
set_option linter.unusedVariables false
theorem strs_shape {W : World} {b : Nat} {v : Value} {ss : List ByteArray} (h : IsStrs W b v ss) : (v = .slice none 0 0 ∧ ss = []) ∨ ∃ g cap, v = .slice (some ⟨g, 0, none⟩) ss.length cap ∧ b ≤ g ∧ g < W.heap.size ∧ ss.length ≤ maxLen := by
  rcases h.2 with ⟨a, c⟩ | ⟨g, cap, cur, rfl, h1, h2, h3, h4, _⟩
  · exact .inl ⟨a, List.eq_nil_of_length_eq_zero c⟩
  · exact .inr ⟨g, cap, rfl, h1, (World.ownsRow.lt h g rfl).2, Nat.le_trans h3 h4⟩
theorem strs_cell {W : World} {b g cap len : Nat} {ss : List ByteArray} (h : IsStrs W b (.slice (some ⟨g, 0, none⟩) len cap) ss) {i : Nat} (hi : i < ss.length) : W.cell? ⟨g, i, none⟩ = some (.string (ss.getD i ⟨#[]⟩)) := by
  have hx : (ss.map Value.string)[i]? = some (.string (ss.getD i ⟨#[]⟩)) := by
    rw [List.getElem?_map, List.getElem?_eq_getElem hi, List.getD_eq_getElem?_getD, List.getElem?_eq_getElem hi]; rfl
  have h2 := World.ownsRow.cells h (g := g) rfl i _ hx
  have hadd : (⟨g, 0, none⟩ : Addr).add i = ⟨g, i, none⟩ := by unfold Addr.add; split <;> simp_all
  rw [hadd] at h2
  exact h2
end Go.Proofs.Ytnlalccnhpblkaa
