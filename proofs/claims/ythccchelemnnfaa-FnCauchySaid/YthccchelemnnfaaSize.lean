/- How many places sets have. -/
import Derived.Test.YthccchelemnnfaaMath
namespace Go.Proofs.Ythccchelemnnfaa
open Go.RowKit
set_option linter.unusedVariables false
def popF : Nat → Nat → Nat
  | 0, _ => 0
  | f + 1, s => s % 2 + popF f (s / 2)
theorem popF_zero (f : Nat) : popF f 0 = 0 := by
  induction f with
  | zero => rfl
  | succ f ih => simp [popF, ih]
theorem popF_more (f s d : Nat) (h : s < 2 ^ f) : popF (f + d) s = popF f s := by
  induction f generalizing s with
  | zero =>
    have : s = 0 := by simpa using h
    subst this
    rw [popF_zero, popF_zero]
  | succ f ih =>
    rw [show f + 1 + d = (f + d) + 1 by omega]
    show s % 2 + popF (f + d) (s / 2) = s % 2 + popF f (s / 2)
    rw [ih _ (by rw [Nat.pow_succ] at h; omega)]
theorem popF_split (f r x y : Nat) (hy : y < 2 ^ r) : popF (r + f) (2 ^ r * x + y) = popF r y + popF f x := by
  induction r generalizing y with
  | zero =>
    have : y = 0 := by simpa using hy
    subst this
    simp [popF]
  | succ r ih =>
    rw [show r + 1 + f = (r + f) + 1 by omega]
    have hp : 2 ^ (r + 1) * x = 2 * (2 ^ r * x) := by rw [Nat.pow_succ]; rw [Nat.mul_comm (2 ^ r) 2, Nat.mul_assoc]
    have hy2 : y / 2 < 2 ^ r := by rw [Nat.pow_succ] at hy; omega
    show (2 ^ (r + 1) * x + y) % 2 + popF (r + f) ((2 ^ (r + 1) * x + y) / 2) = y % 2 + popF r (y / 2) + popF f x
    rw [hp, show (2 * (2 ^ r * x) + y) % 2 = y % 2 by omega, show (2 * (2 ^ r * x) + y) / 2 = 2 ^ r * x + y / 2 by omega, ih _ hy2]
    omega
theorem bit_zero (s : Nat) : s % 2 = if s.testBit 0 then 1 else 0 := by
  rw [Nat.testBit_zero]
  rcases Nat.mod_two_eq_zero_or_one s with h | h <;> simp [h]
theorem popF_mono (f x y : Nat) (h : ∀ i, x.testBit i = true → y.testBit i = true) : popF f x ≤ popF f y := by
  induction f generalizing x y with
  | zero => exact Nat.le_refl _
  | succ f ih =>
    have h1 : x % 2 ≤ y % 2 := by
      rw [bit_zero, bit_zero]
      have := h 0
      by_cases hx : x.testBit 0 = true
      · rw [if_pos hx, if_pos (this hx)]; exact Nat.le_refl _
      · rw [if_neg hx]; exact Nat.zero_le _
    have h2 := ih (x / 2) (y / 2) (fun i hi => by
      rw [Nat.testBit_div_two] at hi ⊢
      exact h _ hi)
    show x % 2 + popF f (x / 2) ≤ y % 2 + popF f (y / 2)
    omega
theorem popF_or (f x y : Nat) : popF f (x ||| y) ≤ popF f x + popF f y := by
  induction f generalizing x y with
  | zero => simp [popF]
  | succ f ih =>
    have h1 : (x ||| y) % 2 ≤ x % 2 + y % 2 := by
      rw [bit_zero, bit_zero x, bit_zero y, Nat.testBit_or]
      cases x.testBit 0 <;> cases y.testBit 0 <;> simp
    have h2 : (x ||| y) / 2 = x / 2 ||| y / 2 := Nat.eq_of_testBit_eq fun i => by
      rw [Nat.testBit_div_two, Nat.testBit_or, Nat.testBit_or, Nat.testBit_div_two, Nat.testBit_div_two]
    have h3 := ih (x / 2) (y / 2)
    show (x ||| y) % 2 + popF f ((x ||| y) / 2) ≤ x % 2 + popF f (x / 2) + (y % 2 + popF f (y / 2))
    rw [h2]
    omega
/-- How many places below j a set has. -/
def cntB (b : Nat) : Nat → Nat
  | 0 => 0
  | j + 1 => cntB b j + if b.testBit j then 1 else 0
theorem cntB_low (b f : Nat) : cntB b (f + 1) = (b % 2) + cntB (b / 2) f := by
  induction f with
  | zero =>
    show 0 + (if b.testBit 0 then 1 else 0) = b % 2 + 0
    rw [bit_zero b]; omega
  | succ f ih =>
    have e : cntB b (f + 1 + 1) = cntB b (f + 1) + if b.testBit (f + 1) then 1 else 0 := rfl
    have e' : cntB (b / 2) (f + 1) = cntB (b / 2) f + if (b / 2).testBit f then 1 else 0 := rfl
    rw [e, ih, e', Nat.testBit_div_two]
    omega
theorem popF_cnt (f b : Nat) : popF f b = cntB b f := by
  induction f generalizing b with
  | zero => rfl
  | succ f ih => rw [cntB_low, ← ih]; rfl
/-- The number of places. -/
def sizeN (s : Nat) : Nat := popF 40 s
theorem sizeN_of (n s : Nat) (h2 : n ≤ 12) (hs : s < 2 ^ n) : sizeN s = popF n s := by
  have := popF_more n s (40 - n) hs
  rw [show n + (40 - n) = 40 by omega] at this
  exact this
theorem shift_split (n s r : Nat) (hr : r ≤ n) (hs : s < 2 ^ n) : (shl s r ||| s >>> (n - r)) &&& (2 ^ n - 1) = 2 ^ r * (s % 2 ^ (n - r)) + s / 2 ^ (n - r) := by
  have hhi : s / 2 ^ (n - r) < 2 ^ r := by
    rw [Nat.div_lt_iff_lt_mul (Nat.two_pow_pos _), ← Nat.pow_add, show r + (n - r) = n by omega]
    exact hs
  refine Nat.eq_of_testBit_eq fun i => ?_
  rw [Nat.testBit_two_pow_mul_add _ hhi, Nat.testBit_and, Nat.testBit_or, Nat.testBit_two_pow_sub_one, Nat.testBit_shiftRight, Nat.testBit_mod_two_pow, Nat.testBit_div_two_pow]
  unfold shl
  rw [Nat.testBit_shiftLeft]
  by_cases h1 : i < r
  · rw [if_pos h1]
    have h2 : ¬ r ≤ i := by omega
    have h3 : i < n := by omega
    simp [h2, h3, Nat.add_comm]
  · rw [if_neg h1]
    have h2 : r ≤ i := by omega
    by_cases h3 : i < n
    · have h4 : i - r < n - r := by omega
      have h5 : s.testBit (n - r + i) = false := Nat.testBit_lt_two_pow (Nat.lt_of_lt_of_le hs (Nat.pow_le_pow_right (by omega) (by omega)))
      simp [h2, h3, h4, h5]
    · have h4 : ¬ i - r < n - r := by omega
      simp [h3, h4]
theorem size_shift (n s : Nat) (k : Int) (h1 : 1 ≤ n) (h2 : n ≤ 12) (hs : s < 2 ^ n) : sizeN (shiftN n s k) = sizeN s := by
  have hr := rest_lt n k h1
  rw [sizeN_of n _ h2 (shiftN_lt n s k), sizeN_of n s h2 hs]
  unfold shiftN
  generalize rest n k = r at hr
  rw [shift_split n s r (by omega) hs]
  have hhi : s / 2 ^ (n - r) < 2 ^ r := by
    rw [Nat.div_lt_iff_lt_mul (Nat.two_pow_pos _), ← Nat.pow_add, show r + (n - r) = n by omega]
    exact hs
  have hlo : s % 2 ^ (n - r) < 2 ^ (n - r) := Nat.mod_lt _ (Nat.two_pow_pos _)
  have a := popF_split (n - r) r (s % 2 ^ (n - r)) (s / 2 ^ (n - r)) hhi
  have b := popF_split r (n - r) (s / 2 ^ (n - r)) (s % 2 ^ (n - r)) hlo
  rw [show r + (n - r) = n by omega] at a
  rw [show n - r + r = n by omega, Nat.div_add_mod] at b
  omega
theorem size_sum_le (n a b : Nat) (h1 : 1 ≤ n) (h2 : n ≤ 12) (ha : a < 2 ^ n) (hb : b < 2 ^ n) : sizeN (sumN n a b) ≤ sizeN a * sizeN b := by
  have h : ∀ j, sizeN (overSet b (sumS n a) j 0) ≤ sizeN a * cntB b j := by
    intro j
    induction j with
    | zero => simp [overSet, upto, sizeN, popF_zero, cntB]
    | succ j ih =>
      have e : overSet b (sumS n a) (j + 1) 0 = if b.testBit j then overSet b (sumS n a) j 0 ||| shiftN n a j else overSet b (sumS n a) j 0 := rfl
      have e' : cntB b (j + 1) = cntB b j + if b.testBit j then 1 else 0 := rfl
      rw [e, e']
      split
      · have := popF_or 40 (overSet b (sumS n a) j 0) (shiftN n a j)
        have hs := size_shift n a j h1 h2 ha
        unfold sizeN at *
        rw [Nat.mul_add]
        omega
      · simpa using ih
  have := h n
  rw [← popF_cnt, ← sizeN_of n b h2 hb] at this
  exact this
theorem size_sum_ge (n a b : Nat) (h1 : 1 ≤ n) (h2 : n ≤ 12) (ha : a < 2 ^ n) (hb : b < 2 ^ n) (hne : b ≠ 0) : sizeN a ≤ sizeN (sumN n a b) := by
  obtain ⟨v, hv⟩ : ∃ v, b.testBit v = true := by
    refine Classical.byContradiction fun h => hne (Nat.eq_of_testBit_eq fun i => ?_)
    rw [Nat.zero_testBit]
    cases hb : b.testBit i
    · rfl
    · exact absurd ⟨i, hb⟩ h
  have hvn := lt_of_bits n b hb v hv
  rw [← size_shift n a v h1 h2 ha]
  refine popF_mono 40 _ _ fun i hi => ?_
  rw [shiftN_bit n a _ h1 ha] at hi
  obtain ⟨w, hw, hw2, hw3⟩ := hi
  rw [sumN_bit n a b i h1 ha]
  refine ⟨v, w, hvn, hv, hw, hw2, ?_⟩
  have hj : rest n (v : Int) = v % n := by
    have := rest_add n v 0 h1
    simpa [rest] using this
  rw [rest_add n w _ h1, hj, Nat.add_mod_mod, Nat.add_comm] at hw3
  exact hw3
theorem size_pos (s : Nat) (hs : s < 2 ^ 40) (h : s ≠ 0) : 1 ≤ sizeN s := by
  refine Classical.byContradiction fun hn => h ?_
  have h0 : sizeN s = 0 := by omega
  unfold sizeN at h0
  have : ∀ f x, x < 2 ^ f → popF f x = 0 → x = 0 := by
    intro f
    induction f with
    | zero => intro x hx _; simpa using hx
    | succ f ih =>
      intro x hx hp
      have h1 : x % 2 + popF f (x / 2) = 0 := hp
      have := ih (x / 2) (by rw [Nat.pow_succ] at hx; omega) (by omega)
      omega
  exact this 40 s hs h0
end Go.Proofs.Ythccchelemnnfaa
