/- Lists of integers that a call has made: what the laws ask of them (eqIntS, markIntS, heldIntS). -/
import Derived.Test.YthccchelemnnfaaLeaf
import Derived.Laws.OwnMore
import Derived.Laws.MakeOwn
import Derived.WalkSpells
namespace Go.Proofs.Ythccchelemnnfaa
open Go.RowKit
set_option linter.unusedVariables false
/-- v reads as the list xs, in memory from block b on. -/
def IsInts (W : World) (b : Nat) (v : Value) (xs : List Int) : Prop := W.ownsRow b 3 1 v xs.length (xs.map (Value.int .i64))
/-- The block of a list that is not empty. -/
theorem IsInts.shape {W : World} {b : Nat} {v : Value} {xs : List Int} (h : IsInts W b v xs) : (v = .slice none 0 0 ∧ xs = []) ∨ ∃ g cap, v = .slice (some ⟨g, 0, none⟩) xs.length cap ∧ b ≤ g ∧ g < W.heap.size ∧ xs.length ≤ maxLen := by
  obtain ⟨h1, h2⟩ := h
  rcases h2 with ⟨h3, h4⟩ | ⟨g, cap, cur, h3, h4, h5, h6, h7, h8, h9⟩
  · exact .inl ⟨h3, List.eq_nil_of_length_eq_zero h4⟩
  · exact .inr ⟨g, cap, h3, h4, (Array.getElem?_eq_some_iff.1 h5).1, Nat.le_trans h6 h7⟩
theorem IsInts.cell {W : World} {b g cap len : Nat} {xs : List Int} (h : IsInts W b (.slice (some ⟨g, 0, none⟩) len cap) xs) {i : Nat} (hi : i < xs.length) : W.cell? ⟨g, i, none⟩ = some (.int .i64 (xs.getD i 0)) := by
  have hx : (xs.map (Value.int .i64))[i]? = some (.int .i64 (xs.getD i 0)) := by
    rw [List.getElem?_map, List.getElem?_eq_getElem hi, List.getD_eq_getElem?_getD, List.getElem?_eq_getElem hi]; rfl
  have h2 := World.ownsRow.cells h (g := g) rfl i _ hx
  have hadd : (⟨g, 0, none⟩ : Addr).add i = ⟨g, i, none⟩ := by unfold Addr.add; split <;> simp_all
  rw [hadd] at h2
  exact h2
theorem IsInts.frozen {W : World} {b g cap : Nat} {xs : List Int} (h : IsInts W b (.slice (some ⟨g, 0, none⟩) xs.length cap) xs) (i : Nat) : W.frozen? ⟨g, i, none⟩ = false := World.ownsRow.frozenAt h i
theorem IsInts.set {W : World} {b g cap : Nat} {xs : List Int} (h : IsInts W b (.slice (some ⟨g, 0, none⟩) xs.length cap) xs) (i : Nat) (z : Int) :
    IsInts (W.setCell ⟨g, i, none⟩ (.int .i64 z)) b (.slice (some ⟨g, 0, none⟩) (xs.set i z).length cap) (xs.set i z) := by
  have := (World.ownsRow.stored h i (.int .i64 z)).1
  unfold IsInts
  rw [List.length_set, List.map_set]
  exact this
theorem IsInts.below {W W' : World} {b : Nat} {v : Value} {xs : List Int} (h : IsInts W b v xs) {N : Nat} (hN : ∀ g, v.ownBlock = some g → g < N) (hb : Below N W W') : IsInts W' b v xs := by
  refine ⟨h.1, ?_⟩
  rcases h.2 with hn | ⟨g, cap, cur, rfl, h1, hgg, rest⟩
  · exact .inl hn
  · exact .inr ⟨g, cap, cur, rfl, h1, (hb.block g (hN g rfl)).trans hgg, rest⟩
theorem IsInts.belowAll {W W' : World} {b : Nat} {v : Value} {xs : List Int} (h : IsInts W b v xs) (hb : Below W.heap.size W W') : IsInts W' b v xs :=
  h.below (fun g hg => (World.ownsRow.lt h g hg).2) hb
theorem IsInts.base {W : World} {b b' : Nat} {v : Value} {xs : List Int} (h : IsInts W b v xs) (hb : b' ≤ b) : IsInts W b' v xs := by
  refine ⟨h.1, ?_⟩
  rcases h.2 with hn | ⟨g, cap, cur, rfl, h1, rest⟩
  · exact .inl hn
  · exact .inr ⟨g, cap, cur, rfl, by omega, rest⟩
theorem isInts_nil (W : World) (b : Nat) : IsInts W b (.slice none 0 0) [] := World.ownsRow_nil W b _ _
theorem IsInts.fresh {W : World} {v : Value} {xs : List Int} {b c : Nat} (h : IsInts W b v xs) (hc : ∀ g, v.ownBlock = some g → c ≤ g) : IsInts W c v xs := by
  refine ⟨h.1, ?_⟩
  rcases h.2 with hn | ⟨g, cap, cur, rfl, h1, rest⟩
  · exact .inl hn
  · exact .inr ⟨g, cap, cur, rfl, hc g rfl, rest⟩
/-- The numbers from k on. -/
def marks (k : Int) (n : Nat) : List Int := (List.range n).map (fun i : Nat => k + (i : Int))
theorem marks_len (k : Int) (n : Nat) : (marks k n).length = n := by simp [marks]
theorem marks_get (k : Int) (n i : Nat) (hi : i < n) : (marks k n).getD i 0 = k + (i : Int) := by
  simp [marks, List.getD_eq_getElem?_getD, hi]
/-- A list of which the first j have been marked. -/
def marked (k : Int) (xs : List Int) (j : Nat) : List Int := marks k j ++ xs.drop j
theorem marked_len (k : Int) (xs : List Int) (j : Nat) (hj : j ≤ xs.length) : (marked k xs j).length = xs.length := by simp [marked, marks]; omega
theorem marked_set (k : Int) (xs : List Int) (j : Nat) (hj : j < xs.length) : (marked k xs j).set j (k + (j : Int)) = marked k xs (j + 1) := by
  unfold marked
  have hl := marks_len k j
  rw [List.set_append_right _ _ (by omega), hl, Nat.sub_self, List.drop_eq_getElem_cons hj, List.set_cons_zero]
  simp [marks, List.range_succ]
theorem marked_end (k : Int) (xs : List Int) : marked k xs xs.length = marks k xs.length := by simp [marked]
/-- What marking leaves. -/
def MarkPost (w : World) (b : Nat) (sa : Value) (k : Int) (n : Nat) (e : Ending) (w' : World) : Prop :=
  e = .returned (.int .i64 (k + (n : Int))) ∧ IsInts w' b sa (marks k n) ∧ w.grownBy w' sa.ownBlock
end Go.Proofs.Ythccchelemnnfaa
