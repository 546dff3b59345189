/- FarBest: the program's search. -/
import Derived.Test.YtjgpdmjfpcdklaaGF
import Derived.Test.YtjgpdmjfpcdklaaGD
import Derived.Test.YtjgpdmjfpcdklaaStepZ
namespace Go.Proofs.Ytjgpdmjfpcdklaa
open Go.RowKit
set_option linter.unusedVariables false
/-- The best of the sets below j, as the program finds it. -/
def bestC (n k s : Nat) (x : Nat × Nat) : Nat × Nat := if s.testBit 0 = false ∧ sizeN s = k ∧ partsN n s = 1 ∧ mostN n s n < x.2 then (s, mostN n s n) else x
def bestA (n k : Nat) (j : Nat) : Nat × Nat := upto (fun s x => bestC n k s x) j (0, n)
theorem bestA_step (n k j : Nat) : bestA n k (j + 1) = bestC n k j (bestA n k j) := by simp only [bestA, upto]
theorem bestA_even (n k j : Nat) (hk : 1 ≤ k) : bestA n k (2 * j + 2) = bestN n k j := by
  induction j with
  | zero =>
    have e : bestA n k 2 = bestC n k 1 (bestC n k 0 (0, n)) := by simp only [bestA, upto]
    show bestA n k 2 = (0, n)
    rw [e]
    have a : bestC n k 0 (0, n) = (0, n) := by
      unfold bestC
      rw [if_neg]
      intro h
      have : sizeN 0 = 0 := by decide
      omega
    rw [a]
    unfold bestC
    rw [if_neg]
    intro h
    have : (1 : Nat).testBit 0 = true := rfl
    rw [this] at h
    cases h.1
  | succ j ih =>
    rw [show 2 * (j + 1) + 2 = 2 * j + 2 + 1 + 1 by omega, bestA_step, bestA_step, ih, best_step]
    have hodd : (2 * j + 2 + 1).testBit 0 = true := by rw [bit0]; simp; omega
    have a : ∀ x, bestC n k (2 * j + 2 + 1) x = x := fun x => by
      unfold bestC
      rw [if_neg (fun h => by rw [hodd] at h; cases h.1)]
    rw [a]
    unfold bestC bestS
    rw [even_bit j]
    simp
theorem bestA_range (n k j : Nat) (hj : j ≤ 2 ^ n) : (bestA n k j).1 < 2 ^ n ∧ (bestA n k j).2 ≤ n := by
  induction j with
  | zero => exact ⟨Nat.two_pow_pos n, Nat.le_refl n⟩
  | succ j ih =>
    have h := ih (by omega)
    rw [bestA_step]
    unfold bestC
    split
    · exact ⟨by show j < 2 ^ n; omega, most_le n _ n⟩
    · exact h
end Go.Proofs.Ytjgpdmjfpcdklaa
