/- The least size of sets that watch, from any start that is not less than the number of places. -/
import Derived.Test.YthbmjmppmilbpaaGJ
namespace Go.Proofs.Ythbmjmppmilbpaa
open Go.RowKit Go.Shelf
set_option linter.unusedVariables false
theorem low_from (p : Nat → Bool) (b c k i : Nat) (hb : b ≤ c) (hi : i < k) (hp : p i = true) (hs : sizeN i ≤ b) : lowN p c k = lowN p b k := by
  have h1 := low_lb p b k i hi hp
  refine low_eq _ _ _ _ (by omega) (fun j hj hpj => low_lb p b k j hj hpj) ?_
  rcases low_at p b k with h | h
  · by_cases e : b = c
    · exact .inl (by rw [h, e])
    · exact .inr ⟨i, hi, hp, by omega⟩
  · exact .inr h
theorem wide_full (n s : Nat) (h1 : 1 ≤ n) (hs : s < 2 ^ n) : wideN n s (2 ^ n - 1) = true := by
  have hp := Nat.two_pow_pos n
  have e : sumN n (s ||| 1) (2 ^ n - 1) = 2 ^ n - 1 := by
    refine Nat.eq_of_testBit_eq fun i => ?_
    by_cases hi : i < n
    · rw [Nat.testBit_two_pow_sub_one, decide_eq_true hi]
      refine (sumN_bit n _ _ i h1 (or_one_lt n s h1 hs)).2 ⟨i, 0, hi, ?_, by omega, ?_, ?_⟩
      · rw [Nat.testBit_two_pow_sub_one]; exact decide_eq_true hi
      · rw [Nat.testBit_or]; simp
      · rw [Nat.add_zero]; exact Nat.mod_eq_of_lt hi
    · rw [Nat.testBit_two_pow_sub_one, decide_eq_false hi]
      exact Nat.testBit_lt_two_pow (Nat.lt_of_lt_of_le (sumN_lt n _ _) (Nat.pow_le_pow_right (by omega) (by omega)))
  unfold wideN
  rw [e]
  exact Nat.beq_refl _
theorem size_full (n : Nat) (h2 : n ≤ 12) : sizeN (2 ^ n - 1) = n := by
  have h : ∀ n, n < 13 → sizeN (2 ^ n - 1) = n := by decide +kernel
  exact h n (by omega)
theorem watch_low (n s : Nat) (h1 : 1 ≤ n) (h2 : n ≤ 12) (hs : s < 2 ^ n) : lowN (wideN n s) 12 (2 ^ n) = watchF n s := by
  have hp := Nat.two_pow_pos n
  exact low_from (wideN n s) n 12 (2 ^ n) (2 ^ n - 1) h2 (by omega) (wide_full n s h1 hs) (by rw [size_full n h2]; exact Nat.le_refl _)
end Go.Proofs.Ythbmjmppmilbpaa
