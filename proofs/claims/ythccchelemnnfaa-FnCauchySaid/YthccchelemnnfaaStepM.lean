/- Ways from 0 lead to the multiples of the divisor of steps, and to no others. -/
import Derived.Test.YthccchelemnnfaaStepP
import Derived.Test.YthccchelemnnfaaDavenport
namespace Go.Proofs.Ythccchelemnnfaa
open Go.RowKit
set_option linter.unusedVariables false
theorem iter_succ (n s k : Nat) : iterN n s (k + 1) = iterN n s k ||| sumN n s (iterN n s k) := rfl
theorem iter_mono (n s k i : Nat) (h : (iterN n s k).testBit i = true) : (iterN n s (k + 1)).testBit i = true := by
  rw [iter_succ, Nat.testBit_or, h, Bool.true_or]
theorem iter_stop (n s k : Nat) (h : iterN n s (k + 1) = iterN n s k) (d : Nat) : iterN n s (k + d) = iterN n s k := by
  induction d with
  | zero => rfl
  | succ d ih =>
    rw [← Nat.add_assoc, iter_succ, ih, ← iter_succ, h]
theorem iter_grows (n s : Nat) (h1 : 1 ≤ n) (h2 : n ≤ 12) (k : Nat) : (∃ j, j < k ∧ iterN n s (j + 1) = iterN n s j) ∨ k + 1 ≤ sizeN (iterN n s k) := by
  induction k with
  | zero =>
    right
    have := one_size 0 (by omega)
    show 1 ≤ sizeN 1
    simp only [Nat.pow_zero] at this
    omega
  | succ k ih =>
    rcases ih with ⟨j, hj, h⟩ | ih
    · exact .inl ⟨j, by omega, h⟩
    · by_cases he : iterN n s (k + 1) = iterN n s k
      · exact .inl ⟨k, by omega, he⟩
      · right
        refine Classical.byContradiction fun hn => he ?_
        have hp := pow_le n h2
        have hx := iterN_lt n s k h1
        have hy := iterN_lt n s (k + 1) h1
        unfold sizeN at hn ih
        exact (popF_same 40 (iterN n s k) (iterN n s (k + 1)) (by omega) (by omega) (fun i hi => iter_mono n s k i hi) (by omega)).symm
theorem iter_fix (n s : Nat) (h1 : 1 ≤ n) (h2 : n ≤ 12) : iterN n s (n + 1) = iterN n s n := by
  rcases iter_grows n s h1 h2 n with ⟨j, hj, h⟩ | h
  · have a := iter_stop n s j h (n + 1 - j)
    have b := iter_stop n s j h (n - j)
    rw [show j + (n + 1 - j) = n + 1 by omega] at a
    rw [show j + (n - j) = n by omega] at b
    rw [a, b]
  · have := size_le n (iterN n s n) h2 (iterN_lt n s n h1)
    omega
/-- A set that has with each place that place and g added. -/
def ClosedBy (n R g : Nat) : Prop := ∀ v, v < n → R.testBit v = true → R.testBit ((v + g) % n) = true
theorem closed_add {n R a b : Nat} (h1 : 1 ≤ n) (ha : ClosedBy n R a) (hb : ClosedBy n R b) : ClosedBy n R (a + b) := fun v hv h => by
  have := hb _ (Nat.mod_lt (v + a) h1) (ha v hv h)
  rw [Nat.mod_add_mod] at this
  rw [← Nat.add_assoc]
  exact this
theorem closed_congr {n R a b : Nat} (h : a % n = b % n) (ha : ClosedBy n R a) : ClosedBy n R b := fun v hv hb => by
  have := ha v hv hb
  rw [Nat.add_mod, h, ← Nat.add_mod] at this
  exact this
theorem closed_zero {n R : Nat} : ClosedBy n R 0 := fun v hv h => by rw [Nat.add_zero, Nat.mod_eq_of_lt hv]; exact h
theorem closed_mul {n R a : Nat} (h1 : 1 ≤ n) (ha : ClosedBy n R a) (k : Nat) : ClosedBy n R (k * a) := by
  induction k with
  | zero => rw [Nat.zero_mul]; exact closed_zero
  | succ k ih => rw [Nat.succ_mul]; exact closed_add h1 ih ha
theorem closed_mod {n R a b : Nat} (h1 : 1 ≤ n) (ha : ClosedBy n R a) (hb : ClosedBy n R b) : ClosedBy n R (b % a) := by
  have h := closed_add h1 hb (closed_mul h1 ha ((n - 1) * (b / a)))
  refine closed_congr ?_ h
  have e : b + (n - 1) * (b / a) * a = b % a + n * (b / a * a) := by
    obtain ⟨m, rfl⟩ : ∃ m, n = m + 1 := ⟨n - 1, by omega⟩
    have hd := Nat.div_add_mod b a
    rw [Nat.mul_comm a (b / a)] at hd
    rw [Nat.add_sub_cancel, Nat.mul_assoc, Nat.succ_mul]
    omega
  rw [e, Nat.add_mul_mod_self_left]
theorem closed_gcd {n R : Nat} (h1 : 1 ≤ n) (a b : Nat) : ClosedBy n R a → ClosedBy n R b → ClosedBy n R (Nat.gcd a b) := by
  refine Nat.gcd.induction (P := fun a b => ClosedBy n R a → ClosedBy n R b → ClosedBy n R (Nat.gcd a b)) a b ?_ ?_
  · intro b _ hb
    rw [Nat.gcd_zero_left]
    exact hb
  · intro a b ha ih hca hcb
    rw [Nat.gcd_rec]
    exact ih (closed_mod h1 hca hcb) hca
theorem closed_parts (n s R : Nat) (h1 : 1 ≤ n) (h : ∀ t, t < n → s.testBit t = true → ClosedBy n R t) (j : Nat) (hj : j ≤ n) : ClosedBy n R (overSet s partsS j n) := by
  induction j with
  | zero =>
    refine closed_congr (a := 0) ?_ closed_zero
    show 0 % n = n % n
    simp
  | succ j ih =>
    rw [over_step]
    split
    · exact closed_gcd h1 _ _ (ih (by omega)) (h j (by omega) (by assumption))
    · exact ih (by omega)
theorem parts_dvd_step (n s j v : Nat) (hv : v < j) (hb : s.testBit v = true) : overSet s partsS j n ∣ v := by
  induction j with
  | zero => omega
  | succ j ih =>
    rw [over_step]
    by_cases e : v = j
    · subst e
      rw [if_pos hb]
      exact Nat.gcd_dvd_right _ _
    · split
      · exact Nat.dvd_trans (Nat.gcd_dvd_left _ _) (ih (by omega))
      · exact ih (by omega)
theorem iter_dvd (n s k i : Nat) (h1 : 1 ≤ n) (hs : s < 2 ^ n) (h : (iterN n s k).testBit i = true) : partsN n s ∣ i := by
  induction k generalizing i with
  | zero =>
    have h0 : (1 : Nat).testBit i = true := h
    by_cases e : i = 0
    · subst e
      exact Nat.dvd_zero _
    · rw [Nat.testBit_lt_two_pow (Nat.one_lt_two_pow e)] at h0
      cases h0
  | succ k ih =>
    rw [iter_succ, Nat.testBit_or, Bool.or_eq_true] at h
    rcases h with h | h
    · exact ih i h
    · obtain ⟨v, w, hv, hb, hw, ha, rfl⟩ := (sumN_bit n s _ i h1 hs).1 h
      have hn : partsN n s ∣ n := parts_dvd_n n s n
      exact (Nat.dvd_mod_iff hn).2 ((Nat.dvd_add_iff_right (ih v hb)).1 (parts_dvd_step n s n w hw ha))
theorem mult_bit (g j i : Nat) : (upto (multS g) j 0).testBit i = true ↔ ∃ m, m < j ∧ m * g = i := by
  induction j with
  | zero => simp [upto]
  | succ j ih =>
    have e : upto (multS g) (j + 1) 0 = upto (multS g) j 0 ||| 2 ^ (j * g) := rfl
    rw [e, Nat.testBit_or, Bool.or_eq_true, ih, Nat.testBit_two_pow]
    constructor
    · rintro (⟨m, h, rfl⟩ | h)
      · exact ⟨m, by omega, rfl⟩
      · exact ⟨j, by omega, by simpa using h⟩
    · rintro ⟨m, h, rfl⟩
      by_cases e : m = j
      · subst e
        exact .inr (by simp)
      · exact .inl ⟨m, by omega, rfl⟩
theorem part_bit (n s i : Nat) (h1 : 1 ≤ n) : (partN n s).testBit i = true ↔ i < n ∧ partsN n s ∣ i := by
  obtain ⟨hg1, hg2⟩ := partsN_pos n s h1
  have hn : partsN n s ∣ n := parts_dvd_n n s n
  have hq := Nat.div_mul_cancel hn
  unfold partN multN
  rw [mult_bit]
  generalize partsN n s = g at *
  constructor
  · rintro ⟨m, hm, rfl⟩
    refine ⟨?_, Nat.dvd_mul_left g m⟩
    have : m * g < n / g * g := Nat.mul_lt_mul_of_pos_right hm hg1
    omega
  · rintro ⟨hi, m, rfl⟩
    refine ⟨m, ?_, Nat.mul_comm m g⟩
    rw [Nat.mul_comm, ← hq] at hi
    exact Nat.lt_of_mul_lt_mul_right hi
theorem iter_part (n s : Nat) (h1 : 1 ≤ n) (h2 : n ≤ 12) (hs : s < 2 ^ n) : iterN n s n = partN n s := by
  refine Nat.eq_of_testBit_eq fun i => ?_
  rw [Bool.eq_iff_iff, part_bit n s i h1]
  constructor
  · intro h
    exact ⟨lt_of_bits n _ (iterN_lt n s n h1) i h, iter_dvd n s n i h1 hs h⟩
  · rintro ⟨hi, m, hm⟩
    have hf := iter_fix n s h1 h2
    rw [iter_succ] at hf
    have hc : ∀ t, t < n → s.testBit t = true → ClosedBy n (iterN n s n) t := fun t ht hb v hv hv2 => by
      rw [← hf, Nat.testBit_or, Bool.or_eq_true]
      exact .inr ((sumN_bit n s _ _ h1 hs).2 ⟨v, t, hv, hv2, ht, hb, rfl⟩)
    have h0 : ∀ k, (iterN n s k).testBit 0 = true := fun k => by
      induction k with
      | zero =>
        show (1 : Nat).testBit 0 = true
        decide
      | succ k ih => exact iter_mono n s k 0 ih
    have hg := closed_mul h1 (closed_parts n s _ h1 hc n (Nat.le_refl n)) m 0 (by omega) (h0 n)
    have e : m * overSet s partsS n n = i := by rw [hm, Nat.mul_comm]; rfl
    rw [e, Nat.zero_add, Nat.mod_eq_of_lt hi] at hg
    exact hg
end Go.Proofs.Ythccchelemnnfaa
