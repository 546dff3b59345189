/- Shifts, turns and sums of sets, told bit by bit. -/
import Derived.Test.YthccchelemnnfaaFold
namespace Go.Proofs.Ythccchelemnnfaa
open Go.RowKit
set_option linter.unusedVariables false
theorem mapN_bit (n s : Nat) (m k : Int) (j i : Nat) : (mapN n s m k j).testBit i = true ↔ ∃ v, v < j ∧ s.testBit v = true ∧ rest n (m * (v : Int) + k) = i := by
  induction j with
  | zero => simp [mapN, overSet, upto]
  | succ j ih =>
    rw [mapN_succ]
    by_cases hb : s.testBit j = true
    · rw [if_pos hb, Nat.testBit_or, Bool.or_eq_true, ih, Nat.testBit_two_pow]
      constructor
      · rintro (⟨v, h1, h2, h3⟩ | h)
        · exact ⟨v, by omega, h2, h3⟩
        · exact ⟨j, by omega, hb, by simpa using h⟩
      · rintro ⟨v, h1, h2, h3⟩
        by_cases e : v = j
        · subst e; exact .inr (by simpa using h3)
        · exact .inl ⟨v, by omega, h2, h3⟩
    · rw [if_neg hb, ih]
      constructor
      · rintro ⟨v, h1, h2, h3⟩; exact ⟨v, by omega, h2, h3⟩
      · rintro ⟨v, h1, h2, h3⟩
        by_cases e : v = j
        · subst e; exact absurd h2 hb
        · exact ⟨v, by omega, h2, h3⟩
theorem lt_of_bits (n s : Nat) (hs : s < 2 ^ n) (i : Nat) (h : s.testBit i = true) : i < n := by
  by_cases hi : i < n
  · exact hi
  · have := Nat.testBit_lt_two_pow (Nat.lt_of_lt_of_le hs (Nat.pow_le_pow_right (n := 2) (by omega) (show n ≤ i by omega)))
    rw [this] at h; cases h
theorem rest_add (n : Nat) (v : Nat) (k : Int) (h1 : 1 ≤ n) : rest n ((v : Int) + k) = (v + rest n k) % n := by
  have h := rest_cast n ((v : Int) + k) h1
  have hk := rest_cast n k h1
  have e : (((v + rest n k) % n : Nat) : Int) = ((v : Int) + k) % (n : Int) := by
    rw [Int.natCast_emod, Int.natCast_add, hk, Int.add_emod_emod]
  omega
theorem shiftN_bit (n s : Nat) (k : Int) (h1 : 1 ≤ n) (hs : s < 2 ^ n) (i : Nat) : (shiftN n s k).testBit i = true ↔ ∃ v, v < n ∧ s.testBit v = true ∧ rest n ((v : Int) + k) = i := by
  have hr := rest_lt n k h1
  have hra := fun v : Nat => rest_add n v k h1
  generalize hrk : rest n k = r at *
  unfold shiftN shl
  rw [hrk, Nat.testBit_and, Nat.testBit_or, Nat.testBit_shiftLeft, Nat.testBit_shiftRight, Nat.testBit_two_pow_sub_one]
  simp only [Bool.and_eq_true, Bool.or_eq_true, decide_eq_true_eq]
  constructor
  · rintro ⟨⟨h2, h3⟩ | h3, h4⟩
    · refine ⟨i - r, by omega, h3, ?_⟩
      rw [hra, show i - r + r = i by omega, Nat.mod_eq_of_lt h4]
    · have hlt := lt_of_bits n s hs _ h3
      refine ⟨n - r + i, hlt, h3, ?_⟩
      rw [hra, show n - r + i + r = i + n by omega, Nat.add_mod_right, Nat.mod_eq_of_lt h4]
  · rintro ⟨v, h2, h3, h4⟩
    rw [hra] at h4
    have hi : i < n := by rw [← h4]; exact Nat.mod_lt _ (by omega)
    refine ⟨?_, hi⟩
    by_cases hv : v + r < n
    · rw [Nat.mod_eq_of_lt hv] at h4
      exact .inl ⟨by omega, by rw [← h4, Nat.add_sub_cancel]; exact h3⟩
    · rw [Nat.mod_eq_sub_mod (by omega), Nat.mod_eq_of_lt (by omega)] at h4
      exact .inr (by rw [show n - r + i = v by omega]; exact h3)
theorem map_shift (n s : Nat) (k : Int) (h1 : 1 ≤ n) (hs : s < 2 ^ n) : mapN n s 1 k n = shiftN n s k := by
  refine Nat.eq_of_testBit_eq fun i => ?_
  rw [Bool.eq_iff_iff, mapN_bit, shiftN_bit n s k h1 hs]
  simp only [Int.one_mul]
theorem turn_map (n s : Nat) (m : Int) : turnN n s m = mapN n s m 0 n := by
  unfold turnN mapN turnS
  simp only [Int.add_zero, Int.mul_comm m]
theorem shift_zero (n s : Nat) (h1 : 1 ≤ n) (hs : s < 2 ^ n) : shiftN n s 0 = s := by
  refine Nat.eq_of_testBit_eq fun i => ?_
  rw [Bool.eq_iff_iff, shiftN_bit n s 0 h1 hs]
  constructor
  · rintro ⟨v, h2, h3, h4⟩
    rw [rest_add n v 0 h1, show rest n 0 = 0 from by simp [rest], Nat.add_zero, Nat.mod_eq_of_lt h2] at h4
    rw [← h4]; exact h3
  · intro h
    have hi := lt_of_bits n s hs i h
    exact ⟨i, hi, h, by rw [rest_add n i 0 h1, show rest n 0 = 0 from by simp [rest], Nat.add_zero, Nat.mod_eq_of_lt hi]⟩
theorem sumO_bit (n a b j i : Nat) (h1 : 1 ≤ n) (ha : a < 2 ^ n) : (overSet b (sumS n a) j 0).testBit i = true ↔ ∃ v w, v < j ∧ b.testBit v = true ∧ w < n ∧ a.testBit w = true ∧ (v + w) % n = i := by
  induction j with
  | zero => simp [overSet, upto]
  | succ j ih =>
    have hstep : overSet b (sumS n a) (j + 1) 0 = if b.testBit j then overSet b (sumS n a) j 0 ||| shiftN n a j else overSet b (sumS n a) j 0 := rfl
    rw [hstep]
    by_cases hb : b.testBit j = true
    · rw [if_pos hb, Nat.testBit_or, Bool.or_eq_true, ih, shiftN_bit n a _ h1 ha]
      constructor
      · rintro (⟨v, w, h⟩ | ⟨w, h2, h3, h4⟩)
        · exact ⟨v, w, by omega, h.2⟩
        · refine ⟨j, w, by omega, hb, h2, h3, ?_⟩
          rw [rest_add n w _ h1] at h4
          by_cases hjn : rest n (j : Int) = j
          · rw [hjn] at h4; rw [Nat.add_comm]; exact h4
          · have hj : rest n (j : Int) = j % n := by
              have := rest_add n j 0 h1
              simpa [rest] using this
            rw [hj] at h4
            rw [Nat.add_comm, ← h4, Nat.add_mod_mod]
      · rintro ⟨v, w, h2, h3, h4, h5, h6⟩
        by_cases e : v = j
        · subst e
          refine .inr ⟨w, h4, h5, ?_⟩
          have hj : rest n (v : Int) = v % n := by
            have := rest_add n v 0 h1
            simpa [rest] using this
          rw [rest_add n w _ h1, hj, Nat.add_mod_mod, Nat.add_comm]
          exact h6
        · exact .inl ⟨v, w, by omega, h3, h4, h5, h6⟩
    · rw [if_neg hb, ih]
      constructor
      · rintro ⟨v, w, h⟩; exact ⟨v, w, by omega, h.2⟩
      · rintro ⟨v, w, h2, h3, h⟩
        by_cases e : v = j
        · subst e; exact absurd h3 hb
        · exact ⟨v, w, by omega, h3, h⟩
theorem sumN_bit (n a b i : Nat) (h1 : 1 ≤ n) (ha : a < 2 ^ n) : (sumN n a b).testBit i = true ↔ ∃ v w, v < n ∧ b.testBit v = true ∧ w < n ∧ a.testBit w = true ∧ (v + w) % n = i := sumO_bit n a b n i h1 ha
theorem sum_comm (n a b : Nat) (h1 : 1 ≤ n) (ha : a < 2 ^ n) (hb : b < 2 ^ n) : sumN n a b = sumN n b a := by
  refine Nat.eq_of_testBit_eq fun i => ?_
  rw [Bool.eq_iff_iff, sumN_bit n a b i h1 ha, sumN_bit n b a i h1 hb]
  constructor
  · rintro ⟨v, w, h2, h3, h4, h5, h6⟩; exact ⟨w, v, h4, h5, h2, h3, by rw [Nat.add_comm]; exact h6⟩
  · rintro ⟨v, w, h2, h3, h4, h5, h6⟩; exact ⟨w, v, h4, h5, h2, h3, by rw [Nat.add_comm]; exact h6⟩
theorem overAll {α : Type} (f : Nat → α → α) (n k : Nat) (a : α) (hk : k ≤ n) : overSet (2 ^ n - 1) f k a = upto f k a := by
  induction k with
  | zero => rfl
  | succ k ih =>
    have hb : (2 ^ n - 1).testBit k = true := by rw [Nat.testBit_two_pow_sub_one]; simp; omega
    show (if (2 ^ n - 1).testBit k then f k (overSet (2 ^ n - 1) f k a) else overSet (2 ^ n - 1) f k a) = f k (upto f k a)
    rw [if_pos hb, ih (by omega)]
end Go.Proofs.Ythccchelemnnfaa
