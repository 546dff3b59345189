/- Rounds, the program's side: steps of a ring, all of them, lists in order. -/
import Derived.Test.YtkdgbnjpjkhopaaGG
import Derived.Test.YtkdgbnjpjkhopaaGC
namespace Go.Proofs.Ytkdgbnjpjkhopaa
open Go.RowKit
set_option linter.unusedVariables false
theorem duoSet2 {W : World} {B : Nat} {t : TypeId} {u v : Value} (h : Duo W B t u v) (x y : Value) : Duo ((W.setCell ⟨B, 0, none⟩ x).setCell ⟨B, 1, none⟩ y) B t x y := by
  unfold Duo at *
  simp [World.setCell, Array.getElem?_modify, h]
theorem duoFrozen {W : World} {B : Nat} {t : TypeId} {u v : Value} (h : Duo W B t u v) (i : Nat) : W.frozen? ⟨B, i, none⟩ = false := by simp [World.frozen?, show W.heap[B]? = _ from h]
theorem otherN_zero (n : Nat) (h2 : n ≤ 12) : otherN n 0 = butN n := by
  unfold butN
  have : n = 0 ∨ n = 1 ∨ n = 2 ∨ n = 3 ∨ n = 4 ∨ n = 5 ∨ n = 6 ∨ n = 7 ∨ n = 8 ∨ n = 9 ∨ n = 10 ∨ n = 11 ∨ n = 12 := by omega
  rcases this with rfl | rfl | rfl | rfl | rfl | rfl | rfl | rfl | rfl | rfl | rfl | rfl | rfl <;> decide
/-- A list that has each place once, 0 ahead. -/
structure InOrd (n : Nat) (xs : List Int) : Prop where
  len : xs.length = n
  zero : xs.getD 0 0 = 0
  inn : ∀ i, i < n → 0 ≤ xs.getD i 0 ∧ xs.getD i 0 < (n : Int)
  all : seenN xs n = 2 ^ n - 1
noncomputable def inOrdB (n : Nat) (xs : List Int) : Bool := @decide (InOrd n xs) (Classical.propDecidable _)
theorem inOrd_yes {n : Nat} {xs : List Int} (h : InOrd n xs) : inOrdB n xs = true := by
  unfold inOrdB
  exact @decide_eq_true _ (Classical.propDecidable _) h
theorem inOrd_no {n : Nat} {xs : List Int} (h : ¬ InOrd n xs) : inOrdB n xs = false := by
  unfold inOrdB
  exact @decide_eq_false _ (Classical.propDecidable _) h
theorem inOrd_iff {n : Nat} {xs : List Int} : inOrdB n xs = true ↔ InOrd n xs :=
  ⟨fun h => Classical.byContradiction fun c => (by rw [inOrd_no c] at h; cases h), inOrd_yes⟩
end Go.Proofs.Ytkdgbnjpjkhopaa
