/- Differences of sets: what shifts, turns and others make of them (for promises 58 to 63). -/
import Derived.Test.YtaklmepioeoohaaDifM
namespace Go.Proofs.Ytaklmepioeoohaa
set_option linter.unusedVariables false
theorem and_lt {n a : Nat} (b : Nat) (ha : a < 2 ^ n) : a &&& b < 2 ^ n := Nat.lt_of_le_of_lt Nat.and_le_left ha
theorem dif_sum (n s d : Nat) (h1 : 1 ≤ n) (h2 : n ≤ 12) (hs : s < 2 ^ n) : difN n s d = sumTo (fun v => b2n (s.testBit v) * arc n s d v) n := by
  unfold difN
  rw [size_sum n _ h2 (and_lt _ hs)]
  refine sumTo_congr _ _ n fun v hv => ?_
  unfold arc
  rw [Nat.testBit_and, shift_mem n s (d : Int) h1 hs v hv]
  cases s.testBit v <;> cases s.testBit (rest n ((v : Int) - (d : Int))) <;> rfl
theorem dif_zero (n s : Nat) (h1 : 1 ≤ n) (hs : s < 2 ^ n) : difN n s 0 = sizeN s := by
  unfold difN
  rw [show ((0 : Nat) : Int) = 0 from rfl, shift_zero n s h1 hs, Nat.and_self]
theorem dif_total (n s : Nat) (h1 : 1 ≤ n) (h2 : n ≤ 12) (hs : s < 2 ^ n) : sumTo (difN n s) n = sizeN s * sizeN s := by
  rw [sumTo_congr _ _ n fun d hd => dif_sum n s d h1 h2 hs, sumTo_swap]
  rw [sumTo_congr (fun u => sumTo (fun v => b2n (s.testBit u) * arc n s v u) n) (fun u => sizeN s * b2n (s.testBit u)) n fun u hu => ?_, sumTo_mul, ← size_sum n s h2 hs]
  show sumTo (fun v => b2n (s.testBit u) * arc n s v u) n = sizeN s * b2n (s.testBit u)
  rw [sumTo_mul, arc_column n s u h1 h2 hs, Nat.mul_comm]
theorem rest_mix (n : Nat) (x y : Int) (h1 : 1 ≤ n) : rest n (((rest n x : Nat) : Int) - y) = rest n (x - y) := by
  have := rest_rest n x (-y) h1
  rwa [← Int.sub_eq_add_neg, ← Int.sub_eq_add_neg] at this
theorem ext_bits {n a b : Nat} (ha : a < 2 ^ n) (hb : b < 2 ^ n) (h : ∀ v, v < n → a.testBit v = b.testBit v) : a = b := by
  refine Nat.eq_of_testBit_eq fun v => ?_
  by_cases hv : v < n
  · exact h v hv
  · rw [Nat.testBit_lt_two_pow (Nat.lt_of_lt_of_le ha (Nat.pow_le_pow_right (by omega) (by omega))), Nat.testBit_lt_two_pow (Nat.lt_of_lt_of_le hb (Nat.pow_le_pow_right (by omega) (by omega)))]
theorem dif_shift (n s d : Nat) (k : Int) (h1 : 1 ≤ n) (h2 : n ≤ 12) (hs : s < 2 ^ n) : difN n (shiftN n s k) d = difN n s d := by
  unfold difN
  have hk := shiftN_lt n s k
  have hd := shiftN_lt n s (d : Int)
  have ha := and_lt (shiftN n s (d : Int)) hs
  rw [← size_shift n (s &&& shiftN n s (d : Int)) k h1 h2 ha]
  congr 1
  refine ext_bits (and_lt _ hk) (shiftN_lt n _ _) fun v hv => ?_
  have r1 := rest_lt n ((v : Int) - k) h1
  have r2 := rest_lt n ((v : Int) - (d : Int)) h1
  rw [Nat.testBit_and, shift_mem n _ k h1 ha v hv, Nat.testBit_and, shift_mem n s k h1 hs v hv, shift_mem n _ (d : Int) h1 hk v hv, shift_mem n s k h1 hs _ r2, shift_mem n s (d : Int) h1 hs _ r1, rest_mix n _ _ h1, rest_mix n _ _ h1]
  congr 3
  omega
theorem dif_neg (n s d : Nat) (h1 : 1 ≤ n) (h2 : n ≤ 12) (hs : s < 2 ^ n) : difN n s (rest n (-(d : Int))) = difN n s d := by
  unfold difN
  have hd := shiftN_lt n s (d : Int)
  have hm := shiftN_lt n s ((rest n (-(d : Int)) : Nat) : Int)
  have ha := and_lt (shiftN n s ((rest n (-(d : Int)) : Nat) : Int)) hs
  rw [← size_shift n (s &&& shiftN n s ((rest n (-(d : Int)) : Nat) : Int)) (d : Int) h1 h2 ha]
  congr 1
  refine ext_bits (shiftN_lt n _ _) (and_lt _ hs) fun v hv => ?_
  have r2 := rest_lt n ((v : Int) - (d : Int)) h1
  rw [shift_mem n _ (d : Int) h1 ha v hv, Nat.testBit_and, Nat.testBit_and, shift_mem n s (d : Int) h1 hs v hv, shift_mem n s _ h1 hs _ r2, rest_mix n _ _ h1]
  have e : rest n ((v : Int) - (d : Int) - ((rest n (-(d : Int)) : Nat) : Int)) = v := by
    have := rest_cast n ((v : Int) - (d : Int) - ((rest n (-(d : Int)) : Nat) : Int)) h1
    have e2 := rest_cast n (-(d : Int)) h1
    generalize rest n (-(d : Int)) = a at *
    generalize rest n ((v : Int) - (d : Int) - (a : Int)) = b at *
    have h : n = 1 ∨ n = 2 ∨ n = 3 ∨ n = 4 ∨ n = 5 ∨ n = 6 ∨ n = 7 ∨ n = 8 ∨ n = 9 ∨ n = 10 ∨ n = 11 ∨ n = 12 := by omega
    rcases h with rfl | rfl | rfl | rfl | rfl | rfl | rfl | rfl | rfl | rfl | rfl | rfl <;> omega
  rw [e, Bool.and_comm]
theorem dif_turn (n s d : Nat) (h1 : 1 ≤ n) (h2 : n ≤ 12) (hs : s < 2 ^ n) : difN n (turnN n s (-1)) d = difN n s d := by
  rw [← dif_neg n s d h1 h2 hs]
  unfold difN
  have ht := turnN_lt n s (-1) h1
  have ha := and_lt (shiftN n s ((rest n (-(d : Int)) : Nat) : Int)) hs
  rw [← turn_unit n _ (-1) h1 h2 ha (gcd_minus n h1 h2)]
  congr 1
  refine ext_bits (and_lt _ ht) (turnN_lt n _ _ h1) fun v hv => ?_
  have r1 := rest_lt n (-(v : Int)) h1
  have r2 := rest_lt n ((v : Int) - (d : Int)) h1
  rw [Nat.testBit_and, turn_neg_bit n s v h1 hs hv, shift_mem n _ (d : Int) h1 ht v hv, turn_neg_bit n s _ h1 hs r2, turn_neg_bit n _ v h1 ha hv]
  unfold neg
  rw [Nat.testBit_and, shift_mem n s _ h1 hs _ r1, rest_mix n _ _ h1, rest_neg n _ h1]
  have key : rest n (-((v : Int) - (d : Int))) = rest n (-(v : Int) - ((rest n (-(d : Int)) : Nat) : Int)) := by
    refine rest_congr' n _ _ ?_
    rw [rest_cast n (-(d : Int)) h1, Int.sub_emod (-(v : Int)) ((-(d : Int)) % (n : Int)), Int.emod_emod_of_dvd _ (Int.dvd_refl _), ← Int.sub_emod]
    congr 1
    omega
  rw [key]
theorem comp_bit (n s v : Nat) (hs : s < 2 ^ n) : (2 ^ n - 1 - s).testBit v = (decide (v < n) && !s.testBit v) := by
  rw [Nat.sub_sub, Nat.add_comm 1 s]
  exact Nat.testBit_two_pow_sub_succ hs v
theorem comp_lt (n s : Nat) : 2 ^ n - 1 - s < 2 ^ n := by have := Nat.two_pow_pos n; omega
theorem comp_size (n s : Nat) (h2 : n ≤ 12) (hs : s < 2 ^ n) : sizeN (2 ^ n - 1 - s) + sizeN s = n := by
  rw [size_sum n _ h2 (comp_lt n s), size_sum n s h2 hs, ← sumTo_add]
  have h : sumTo (fun v => b2n ((2 ^ n - 1 - s).testBit v) + b2n (s.testBit v)) n = sumTo (fun _ => 1) n := sumTo_congr _ _ n fun v hv => by
    rw [comp_bit n s v hs, decide_eq_true hv]
    cases s.testBit v <;> rfl
  rw [h]
  clear h
  have : ∀ k, sumTo (fun _ => 1) k = k := fun k => by
    induction k with
    | zero => rfl
    | succ k ih => show sumTo (fun _ => 1) k + 1 = k + 1; rw [ih]
  exact this n
theorem dif_comp (n s d : Nat) (h1 : 1 ≤ n) (h2 : n ≤ 12) (hs : s < 2 ^ n) : difN n (2 ^ n - 1 - s) d + 2 * sizeN s = n + difN n s d := by
  have hc := comp_lt n s
  have hd := shiftN_lt n s (d : Int)
  have e1 : sizeN s = sumTo (fun v => b2n (s.testBit v)) n := size_sum n s h2 hs
  have e2 : sizeN s = sumTo (fun v => b2n ((shiftN n s (d : Int)).testBit v)) n := by rw [← size_shift n s (d : Int) h1 h2 hs, size_sum n _ h2 hd]
  have e3 : difN n s d = sumTo (fun v => b2n ((s &&& shiftN n s (d : Int)).testBit v)) n := size_sum n _ h2 (and_lt _ hs)
  have e4 : difN n (2 ^ n - 1 - s) d = sumTo (fun v => b2n (((2 ^ n - 1 - s) &&& shiftN n (2 ^ n - 1 - s) (d : Int)).testBit v)) n := size_sum n _ h2 (and_lt _ hc)
  have h : sumTo (fun v => b2n (((2 ^ n - 1 - s) &&& shiftN n (2 ^ n - 1 - s) (d : Int)).testBit v) + (b2n (s.testBit v) + b2n ((shiftN n s (d : Int)).testBit v))) n = sumTo (fun v => 1 + b2n ((s &&& shiftN n s (d : Int)).testBit v)) n := sumTo_congr _ _ n fun v hv => by
    have r := rest_lt n ((v : Int) - (d : Int)) h1
    rw [Nat.testBit_and, Nat.testBit_and, shift_mem n _ (d : Int) h1 hc v hv, shift_mem n s (d : Int) h1 hs v hv, comp_bit n s v hs, comp_bit n s _ hs, decide_eq_true hv, decide_eq_true r]
    cases s.testBit v <;> cases s.testBit (rest n ((v : Int) - (d : Int))) <;> rfl
  rw [sumTo_add, sumTo_add, sumTo_add] at h
  have hn : ∀ k, sumTo (fun _ => 1) k = k := fun k => by
    induction k with
    | zero => rfl
    | succ k ih => show sumTo (fun _ => 1) k + 1 = k + 1; rw [ih]
  rw [hn n] at h
  omega
/-- All differences but 0 together. -/
theorem dif_rest (n s : Nat) (h1 : 1 ≤ n) (h2 : n ≤ 12) (hs : s < 2 ^ n) : sizeN s + sumTo (fun d => difN n s (d + 1)) (n - 1) = sizeN s * sizeN s := by
  rw [← dif_total n s h1 h2 hs]
  have h : ∀ (f : Nat → Nat) (k : Nat), sumTo f (k + 1) = f 0 + sumTo (fun d => f (d + 1)) k := by
    intro f k
    induction k with
    | zero => show 0 + f 0 = f 0 + 0; omega
    | succ k ih =>
      show sumTo f (k + 1) + f (k + 1) = f 0 + (sumTo (fun d => f (d + 1)) k + f (k + 1))
      rw [ih]; omega
  obtain ⟨m, rfl⟩ : ∃ m, n = m + 1 := ⟨n - 1, by omega⟩
  rw [h (difN (m + 1) s) m, dif_zero (m + 1) s h1 hs]
  rfl
theorem sum_same (f : Nat → Nat) (c k : Nat) (h : ∀ v, v < k → f v = c) : sumTo f k = c * k := by
  induction k with
  | zero => rfl
  | succ k ih =>
    show sumTo f k + f k = c * (k + 1)
    rw [ih fun v hv => h v (by omega), h k (by omega), Nat.mul_succ]
theorem sum_most (f : Nat → Nat) (c k : Nat) (h : ∀ v, v < k → f v ≤ c) : sumTo f k ≤ c * k := by
  induction k with
  | zero => simp [sumTo]
  | succ k ih =>
    show sumTo f k + f k ≤ c * (k + 1)
    have := ih fun v hv => h v (by omega)
    have := h k (by omega)
    rw [Nat.mul_succ]; omega
theorem sum_least (f : Nat → Nat) (c k : Nat) (h : ∀ v, v < k → c ≤ f v) : c * k ≤ sumTo f k := by
  induction k with
  | zero => simp [sumTo]
  | succ k ih =>
    show c * (k + 1) ≤ sumTo f k + f k
    have := ih fun v hv => h v (by omega)
    have := h k (by omega)
    rw [Nat.mul_succ]; omega
end Go.Proofs.Ytaklmepioeoohaa
