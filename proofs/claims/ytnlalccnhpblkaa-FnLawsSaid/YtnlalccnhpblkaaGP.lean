/- Texts of mine, laid together: DifM DifN DifA DifP DifB DifQ DifC DifX. -/
import Derived.Test.YtnlalccnhpblkaaStepQ
import Derived.Test.YtnlalccnhpblkaaGC
import Derived.Test.YtnlalccnhpblkaaGD
import Derived.Test.YtnlalccnhpblkaaGG
import Derived.Test.YtnlalccnhpblkaaFreA
import Derived.Test.YtnlalccnhpblkaaGL
import Derived.BigQuiet
import Derived.Test.YtnlalccnhpblkaaGB
/- Differences of sets: how often each one comes. -/
namespace Go.Proofs.Ytnlalccnhpblkaa
set_option linter.unusedVariables false
/-- Whether the places v and w of a set have the difference d. -/
def eD (n s v w d : Nat) : Nat := b2n (s.testBit v && s.testBit w && (rest n ((v : Int) - (w : Int)) == d))
/-- How often d has come, the places below v having been gone through, and v with those below w. -/
def difTo (n s v w d : Nat) : Nat := sumTo (fun v' => sumTo (fun w' => eD n s v' w' d) n) v + sumTo (fun w' => eD n s v w' d) w
/-- How often d comes. -/
def difN (n s d : Nat) : Nat := sizeN (s &&& shiftN n s (d : Int))
theorem difTo_zero (n s d : Nat) : difTo n s 0 0 d = 0 := rfl
theorem difTo_step (n s v w d : Nat) : difTo n s v (w + 1) d = difTo n s v w d + eD n s v w d := by
  show sumTo (fun v' => sumTo (fun w' => eD n s v' w' d) n) v + (sumTo (fun w' => eD n s v w' d) w + eD n s v w d) = _
  rw [← Nat.add_assoc]; rfl
theorem difTo_up (n s v d : Nat) : difTo n s v n d = difTo n s (v + 1) 0 d := rfl
theorem b2n_le (b : Bool) : b2n b ≤ 1 := by cases b <;> simp [b2n]
theorem dsum_le (f : Nat → Nat) (b k : Nat) (h : ∀ v, f v ≤ b) : sumTo f k ≤ b * k := by
  induction k with
  | zero => simp [sumTo]
  | succ k ih =>
    show sumTo f k + f k ≤ b * (k + 1)
    have := h k
    rw [Nat.mul_add]
    omega
theorem difTo_le (n s v w d : Nat) (h2 : n ≤ 12) (hv : v ≤ n) (hw : w ≤ n) : difTo n s v w d ≤ 200 := by
  have h1 : ∀ v', sumTo (fun w' => eD n s v' w' d) n ≤ 12 := fun v' => by
    have := dsum_le (fun w' => eD n s v' w' d) 1 n (fun w' => b2n_le _)
    omega
  have h3 := dsum_le (fun v' => sumTo (fun w' => eD n s v' w' d) n) 12 v h1
  have h4 := dsum_le (fun w' => eD n s v w' d) 1 w (fun w' => b2n_le _)
  have h5 : difTo n s v w d = sumTo (fun v' => sumTo (fun w' => eD n s v' w' d) n) v + sumTo (fun w' => eD n s v w' d) w := rfl
  omega
theorem rest_swap (n v w d : Nat) (h1 : 1 ≤ n) (h2 : n ≤ 12) (hw : w < n) (hd : d < n) : rest n ((v : Int) - (w : Int)) = d ↔ w = rest n ((v : Int) - (d : Int)) := by
  have e1 := rest_cast n ((v : Int) - (w : Int)) h1
  have e2 := rest_cast n ((v : Int) - (d : Int)) h1
  generalize rest n ((v : Int) - (w : Int)) = a at *
  generalize rest n ((v : Int) - (d : Int)) = b at *
  have h : n = 1 ∨ n = 2 ∨ n = 3 ∨ n = 4 ∨ n = 5 ∨ n = 6 ∨ n = 7 ∨ n = 8 ∨ n = 9 ∨ n = 10 ∨ n = 11 ∨ n = 12 := by omega
  rcases h with rfl | rfl | rfl | rfl | rfl | rfl | rfl | rfl | rfl | rfl | rfl | rfl <;> omega
theorem sum_at (g : Nat → Nat) (a k : Nat) (h : ∀ w, w < k → w ≠ a → g w = 0) : sumTo g k = if a < k then g a else 0 := by
  induction k with
  | zero => rfl
  | succ k ih =>
    show sumTo g k + g k = _
    rw [ih fun w hw hn => h w (by omega) hn]
    by_cases e : a = k
    · subst e
      rw [if_neg (by omega), if_pos (by omega), Nat.zero_add]
    · rw [h k (by omega) (fun c => e c.symm), Nat.add_zero]
      by_cases hk : a < k
      · rw [if_pos hk, if_pos (by omega)]
      · rw [if_neg hk, if_neg (by omega)]
theorem dif_row (n s v d : Nat) (h1 : 1 ≤ n) (h2 : n ≤ 12) (hs : s < 2 ^ n) (hv : v < n) (hd : d < n) : sumTo (fun w => eD n s v w d) n = b2n ((s &&& shiftN n s (d : Int)).testBit v) := by
  have hr := rest_lt n ((v : Int) - (d : Int)) h1
  rw [sum_at _ (rest n ((v : Int) - (d : Int))) n fun w hw hn => ?_, if_pos hr]
  · unfold eD
    rw [(rest_swap n v _ d h1 h2 hr hd).2 rfl, Nat.testBit_and, shift_mem n s (d : Int) h1 hs v hv]
    simp
  · unfold eD
    have : ¬ rest n ((v : Int) - (w : Int)) = d := fun c => hn ((rest_swap n v w d h1 h2 hw hd).1 c)
    simp [this, b2n]
theorem dif_all (n s d : Nat) (h1 : 1 ≤ n) (h2 : n ≤ 12) (hs : s < 2 ^ n) (hd : d < n) : difTo n s n 0 d = difN n s d := by
  show sumTo (fun v' => sumTo (fun w' => eD n s v' w' d) n) n + 0 = sizeN (s &&& shiftN n s (d : Int))
  rw [Nat.add_zero, size_sum n _ h2 (Nat.lt_of_le_of_lt Nat.and_le_left hs)]
  exact sumTo_congr _ _ n fun v hv => dif_row n s v d h1 h2 hs hv hd
/-- Whether an even set: all places from 2 on come as often as 1. -/
def evN (n s : Nat) : Nat → Bool
  | 0 => true
  | v + 1 => (Nat.ble v 1 || Nat.beq (difN n s v) (difN n s 1)) && evN n s v
def evenB (n s : Nat) : Bool := evN n s n
theorem ev_at (n s k : Nat) (h : evN n s k = true) (v : Nat) (h2 : 2 ≤ v) (hv : v < k) : difN n s v = difN n s 1 := by
  induction k with
  | zero => omega
  | succ k ih =>
    have h' : ((Nat.ble k 1 || Nat.beq (difN n s k) (difN n s 1)) && evN n s k) = true := h
    rw [Bool.and_eq_true] at h'
    by_cases e : v = k
    · subst e
      rcases (Bool.or_eq_true _ _).mp h'.1 with c | c
      · have := Nat.le_of_ble_eq_true c; omega
      · exact Nat.eq_of_beq_eq_true c
    · exact ih h'.2 (by omega)
theorem ev_of (n s k : Nat) (h : ∀ v, 2 ≤ v → v < k → difN n s v = difN n s 1) : evN n s k = true := by
  induction k with
  | zero => rfl
  | succ k ih =>
    show ((Nat.ble k 1 || Nat.beq (difN n s k) (difN n s 1)) && evN n s k) = true
    rw [ih fun v h1 h2 => h v h1 (by omega), Bool.and_true]
    by_cases hk : k ≤ 1
    · rw [Nat.ble_eq_true_of_le hk]; rfl
    · rw [h k (by omega) (by omega), Nat.beq_refl, Bool.or_true]
theorem ev_not (n s k v : Nat) (h2 : 2 ≤ v) (hv : v < k) (hne : difN n s v ≠ difN n s 1) : evN n s k = false := by
  cases hc : evN n s k
  · rfl
  · exact absurd (ev_at n s k hc v h2 hv) hne
/-- The number of ways of an even set, -1 for others. -/
def evV (n s : Nat) : Int := if evenB n s then (difN n s 1 : Int) else -1
def thN (n s : Nat) : Nat → Bool
  | 0 => true
  | v + 1 => (Nat.beq v 0 || Nat.ble (difN n s v) 1) && thN n s v
def thinB (n s : Nat) : Bool := thN n s n
theorem th_at (n s k : Nat) (h : thN n s k = true) (v : Nat) (h1 : 1 ≤ v) (hv : v < k) : difN n s v ≤ 1 := by
  induction k with
  | zero => omega
  | succ k ih =>
    have h' : ((Nat.beq k 0 || Nat.ble (difN n s k) 1) && thN n s k) = true := h
    rw [Bool.and_eq_true] at h'
    by_cases e : v = k
    · subst e
      rcases (Bool.or_eq_true _ _).mp h'.1 with c | c
      · have := Nat.eq_of_beq_eq_true c; omega
      · exact Nat.le_of_ble_eq_true c
    · exact ih h'.2 (by omega)
theorem th_of (n s k : Nat) (h : ∀ v, 1 ≤ v → v < k → difN n s v ≤ 1) : thN n s k = true := by
  induction k with
  | zero => rfl
  | succ k ih =>
    show ((Nat.beq k 0 || Nat.ble (difN n s k) 1) && thN n s k) = true
    rw [ih fun v h1 h2 => h v h1 (by omega), Bool.and_true]
    by_cases hk : k = 0
    · subst hk; rfl
    · rw [Nat.ble_eq_true_of_le (h k (by omega) (by omega)), Bool.or_true]
theorem th_not (n s k v : Nat) (h1 : 1 ≤ v) (hv : v < k) (hne : ¬ difN n s v ≤ 1) : thN n s k = false := by
  cases hc : thN n s k
  · rfl
  · exact absurd (th_at n s k hc v h1 hv) hne
theorem dif_le (n s d : Nat) (h2 : n ≤ 12) (hs : s < 2 ^ n) : difN n s d ≤ 12 := Nat.le_trans (sizeN_le n _ h2 (Nat.lt_of_le_of_lt Nat.and_le_left hs)) h2
end Go.Proofs.Ytnlalccnhpblkaa

/- Differences of sets: what shifts, turns and others make of them (for promises 58 to 63). -/
namespace Go.Proofs.Ytnlalccnhpblkaa
set_option linter.unusedVariables false
theorem and_lt {n a : Nat} (b : Nat) (ha : a < 2 ^ n) : a &&& b < 2 ^ n := Nat.lt_of_le_of_lt Nat.and_le_left ha
theorem dif_sum (n s d : Nat) (h1 : 1 ≤ n) (h2 : n ≤ 12) (hs : s < 2 ^ n) : difN n s d = sumTo (fun v => b2n (s.testBit v) * arc n s d v) n := by
  unfold difN
  rw [size_sum n _ h2 (and_lt _ hs)]
  refine sumTo_congr _ _ n fun v hv => ?_
  unfold arc
  rw [Nat.testBit_and, shift_mem n s (d : Int) h1 hs v hv]
  cases s.testBit v <;> cases s.testBit (rest n ((v : Int) - (d : Int))) <;> rfl
theorem dif_zero (n s : Nat) (h1 : 1 ≤ n) (hs : s < 2 ^ n) : difN n s 0 = sizeN s := by
  unfold difN
  rw [show ((0 : Nat) : Int) = 0 from rfl, shift_zero n s h1 hs, Nat.and_self]
theorem dif_total (n s : Nat) (h1 : 1 ≤ n) (h2 : n ≤ 12) (hs : s < 2 ^ n) : sumTo (difN n s) n = sizeN s * sizeN s := by
  rw [sumTo_congr _ _ n fun d hd => dif_sum n s d h1 h2 hs, sumTo_swap]
  rw [sumTo_congr (fun u => sumTo (fun v => b2n (s.testBit u) * arc n s v u) n) (fun u => sizeN s * b2n (s.testBit u)) n fun u hu => ?_, sumTo_mul, ← size_sum n s h2 hs]
  show sumTo (fun v => b2n (s.testBit u) * arc n s v u) n = sizeN s * b2n (s.testBit u)
  rw [sumTo_mul, arc_column n s u h1 h2 hs, Nat.mul_comm]
theorem rest_mix (n : Nat) (x y : Int) (h1 : 1 ≤ n) : rest n (((rest n x : Nat) : Int) - y) = rest n (x - y) := by
  have := rest_rest n x (-y) h1
  rwa [← Int.sub_eq_add_neg, ← Int.sub_eq_add_neg] at this
theorem ext_bits {n a b : Nat} (ha : a < 2 ^ n) (hb : b < 2 ^ n) (h : ∀ v, v < n → a.testBit v = b.testBit v) : a = b := by
  refine Nat.eq_of_testBit_eq fun v => ?_
  by_cases hv : v < n
  · exact h v hv
  · rw [Nat.testBit_lt_two_pow (Nat.lt_of_lt_of_le ha (Nat.pow_le_pow_right (by omega) (by omega))), Nat.testBit_lt_two_pow (Nat.lt_of_lt_of_le hb (Nat.pow_le_pow_right (by omega) (by omega)))]
theorem dif_shift (n s d : Nat) (k : Int) (h1 : 1 ≤ n) (h2 : n ≤ 12) (hs : s < 2 ^ n) : difN n (shiftN n s k) d = difN n s d := by
  unfold difN
  have hk := shiftN_lt n s k
  have hd := shiftN_lt n s (d : Int)
  have ha := and_lt (shiftN n s (d : Int)) hs
  rw [← size_shift n (s &&& shiftN n s (d : Int)) k h1 h2 ha]
  congr 1
  refine ext_bits (and_lt _ hk) (shiftN_lt n _ _) fun v hv => ?_
  have r1 := rest_lt n ((v : Int) - k) h1
  have r2 := rest_lt n ((v : Int) - (d : Int)) h1
  rw [Nat.testBit_and, shift_mem n _ k h1 ha v hv, Nat.testBit_and, shift_mem n s k h1 hs v hv, shift_mem n _ (d : Int) h1 hk v hv, shift_mem n s k h1 hs _ r2, shift_mem n s (d : Int) h1 hs _ r1, rest_mix n _ _ h1, rest_mix n _ _ h1]
  congr 3
  omega
theorem dif_neg (n s d : Nat) (h1 : 1 ≤ n) (h2 : n ≤ 12) (hs : s < 2 ^ n) : difN n s (rest n (-(d : Int))) = difN n s d := by
  unfold difN
  have hd := shiftN_lt n s (d : Int)
  have hm := shiftN_lt n s ((rest n (-(d : Int)) : Nat) : Int)
  have ha := and_lt (shiftN n s ((rest n (-(d : Int)) : Nat) : Int)) hs
  rw [← size_shift n (s &&& shiftN n s ((rest n (-(d : Int)) : Nat) : Int)) (d : Int) h1 h2 ha]
  congr 1
  refine ext_bits (shiftN_lt n _ _) (and_lt _ hs) fun v hv => ?_
  have r2 := rest_lt n ((v : Int) - (d : Int)) h1
  rw [shift_mem n _ (d : Int) h1 ha v hv, Nat.testBit_and, Nat.testBit_and, shift_mem n s (d : Int) h1 hs v hv, shift_mem n s _ h1 hs _ r2, rest_mix n _ _ h1]
  have e : rest n ((v : Int) - (d : Int) - ((rest n (-(d : Int)) : Nat) : Int)) = v := by
    have := rest_cast n ((v : Int) - (d : Int) - ((rest n (-(d : Int)) : Nat) : Int)) h1
    have e2 := rest_cast n (-(d : Int)) h1
    generalize rest n (-(d : Int)) = a at *
    generalize rest n ((v : Int) - (d : Int) - (a : Int)) = b at *
    have h : n = 1 ∨ n = 2 ∨ n = 3 ∨ n = 4 ∨ n = 5 ∨ n = 6 ∨ n = 7 ∨ n = 8 ∨ n = 9 ∨ n = 10 ∨ n = 11 ∨ n = 12 := by omega
    rcases h with rfl | rfl | rfl | rfl | rfl | rfl | rfl | rfl | rfl | rfl | rfl | rfl <;> omega
  rw [e, Bool.and_comm]
theorem dif_turn (n s d : Nat) (h1 : 1 ≤ n) (h2 : n ≤ 12) (hs : s < 2 ^ n) : difN n (turnN n s (-1)) d = difN n s d := by
  rw [← dif_neg n s d h1 h2 hs]
  unfold difN
  have ht := turnN_lt n s (-1) h1
  have ha := and_lt (shiftN n s ((rest n (-(d : Int)) : Nat) : Int)) hs
  rw [← turn_unit n _ (-1) h1 h2 ha (gcd_minus n h1 h2)]
  congr 1
  refine ext_bits (and_lt _ ht) (turnN_lt n _ _ h1) fun v hv => ?_
  have r1 := rest_lt n (-(v : Int)) h1
  have r2 := rest_lt n ((v : Int) - (d : Int)) h1
  rw [Nat.testBit_and, turn_neg_bit n s v h1 hs hv, shift_mem n _ (d : Int) h1 ht v hv, turn_neg_bit n s _ h1 hs r2, turn_neg_bit n _ v h1 ha hv]
  unfold neg
  rw [Nat.testBit_and, shift_mem n s _ h1 hs _ r1, rest_mix n _ _ h1, rest_neg n _ h1]
  have key : rest n (-((v : Int) - (d : Int))) = rest n (-(v : Int) - ((rest n (-(d : Int)) : Nat) : Int)) := by
    refine rest_congr' n _ _ ?_
    rw [rest_cast n (-(d : Int)) h1, Int.sub_emod (-(v : Int)) ((-(d : Int)) % (n : Int)), Int.emod_emod_of_dvd _ (Int.dvd_refl _), ← Int.sub_emod]
    congr 1
    omega
  rw [key]
theorem comp_bit (n s v : Nat) (hs : s < 2 ^ n) : (2 ^ n - 1 - s).testBit v = (decide (v < n) && !s.testBit v) := by
  rw [Nat.sub_sub, Nat.add_comm 1 s]
  exact Nat.testBit_two_pow_sub_succ hs v
theorem comp_lt (n s : Nat) : 2 ^ n - 1 - s < 2 ^ n := by have := Nat.two_pow_pos n; omega
theorem comp_size (n s : Nat) (h2 : n ≤ 12) (hs : s < 2 ^ n) : sizeN (2 ^ n - 1 - s) + sizeN s = n := by
  rw [size_sum n _ h2 (comp_lt n s), size_sum n s h2 hs, ← sumTo_add]
  have h : sumTo (fun v => b2n ((2 ^ n - 1 - s).testBit v) + b2n (s.testBit v)) n = sumTo (fun _ => 1) n := sumTo_congr _ _ n fun v hv => by
    rw [comp_bit n s v hs, decide_eq_true hv]
    cases s.testBit v <;> rfl
  rw [h]
  clear h
  have : ∀ k, sumTo (fun _ => 1) k = k := fun k => by
    induction k with
    | zero => rfl
    | succ k ih => show sumTo (fun _ => 1) k + 1 = k + 1; rw [ih]
  exact this n
theorem dif_comp (n s d : Nat) (h1 : 1 ≤ n) (h2 : n ≤ 12) (hs : s < 2 ^ n) : difN n (2 ^ n - 1 - s) d + 2 * sizeN s = n + difN n s d := by
  have hc := comp_lt n s
  have hd := shiftN_lt n s (d : Int)
  have e1 : sizeN s = sumTo (fun v => b2n (s.testBit v)) n := size_sum n s h2 hs
  have e2 : sizeN s = sumTo (fun v => b2n ((shiftN n s (d : Int)).testBit v)) n := by rw [← size_shift n s (d : Int) h1 h2 hs, size_sum n _ h2 hd]
  have e3 : difN n s d = sumTo (fun v => b2n ((s &&& shiftN n s (d : Int)).testBit v)) n := size_sum n _ h2 (and_lt _ hs)
  have e4 : difN n (2 ^ n - 1 - s) d = sumTo (fun v => b2n (((2 ^ n - 1 - s) &&& shiftN n (2 ^ n - 1 - s) (d : Int)).testBit v)) n := size_sum n _ h2 (and_lt _ hc)
  have h : sumTo (fun v => b2n (((2 ^ n - 1 - s) &&& shiftN n (2 ^ n - 1 - s) (d : Int)).testBit v) + (b2n (s.testBit v) + b2n ((shiftN n s (d : Int)).testBit v))) n = sumTo (fun v => 1 + b2n ((s &&& shiftN n s (d : Int)).testBit v)) n := sumTo_congr _ _ n fun v hv => by
    have r := rest_lt n ((v : Int) - (d : Int)) h1
    rw [Nat.testBit_and, Nat.testBit_and, shift_mem n _ (d : Int) h1 hc v hv, shift_mem n s (d : Int) h1 hs v hv, comp_bit n s v hs, comp_bit n s _ hs, decide_eq_true hv, decide_eq_true r]
    cases s.testBit v <;> cases s.testBit (rest n ((v : Int) - (d : Int))) <;> rfl
  rw [sumTo_add, sumTo_add, sumTo_add] at h
  have hn : ∀ k, sumTo (fun _ => 1) k = k := fun k => by
    induction k with
    | zero => rfl
    | succ k ih => show sumTo (fun _ => 1) k + 1 = k + 1; rw [ih]
  rw [hn n] at h
  omega
/-- All differences but 0 together. -/
theorem dif_rest (n s : Nat) (h1 : 1 ≤ n) (h2 : n ≤ 12) (hs : s < 2 ^ n) : sizeN s + sumTo (fun d => difN n s (d + 1)) (n - 1) = sizeN s * sizeN s := by
  rw [← dif_total n s h1 h2 hs]
  have h : ∀ (f : Nat → Nat) (k : Nat), sumTo f (k + 1) = f 0 + sumTo (fun d => f (d + 1)) k := by
    intro f k
    induction k with
    | zero => show 0 + f 0 = f 0 + 0; omega
    | succ k ih =>
      show sumTo f (k + 1) + f (k + 1) = f 0 + (sumTo (fun d => f (d + 1)) k + f (k + 1))
      rw [ih]; omega
  obtain ⟨m, rfl⟩ : ∃ m, n = m + 1 := ⟨n - 1, by omega⟩
  rw [h (difN (m + 1) s) m, dif_zero (m + 1) s h1 hs]
  rfl
theorem sum_same (f : Nat → Nat) (c k : Nat) (h : ∀ v, v < k → f v = c) : sumTo f k = c * k := by
  induction k with
  | zero => rfl
  | succ k ih =>
    show sumTo f k + f k = c * (k + 1)
    rw [ih fun v hv => h v (by omega), h k (by omega), Nat.mul_succ]
theorem sum_most (f : Nat → Nat) (c k : Nat) (h : ∀ v, v < k → f v ≤ c) : sumTo f k ≤ c * k := by
  induction k with
  | zero => simp [sumTo]
  | succ k ih =>
    show sumTo f k + f k ≤ c * (k + 1)
    have := ih fun v hv => h v (by omega)
    have := h k (by omega)
    rw [Nat.mul_succ]; omega
theorem sum_least (f : Nat → Nat) (c k : Nat) (h : ∀ v, v < k → c ≤ f v) : c * k ≤ sumTo f k := by
  induction k with
  | zero => simp [sumTo]
  | succ k ih =>
    show c * (k + 1) ≤ sumTo f k + f k
    have := ih fun v hv => h v (by omega)
    have := h k (by omega)
    rw [Nat.mul_succ]; omega
end Go.Proofs.Ytnlalccnhpblkaa

/- Differences of sets: the model's tables. -/
namespace Go.Proofs.Ytnlalccnhpblkaa
open Go.RowKit Go.Shelf
set_option linter.unusedVariables false
def tabD (n s v w : Nat) : List Int := tabI n fun d => ((difTo n s v w d : Nat) : Int)
/-- How often each difference comes. -/
def difL (n s : Nat) : List Int := tabI n fun d => ((difN n s d : Nat) : Int)
theorem tabD_len (n s v w : Nat) : (tabD n s v w).length = n := tabI_len n _
theorem difL_len (n s : Nat) : (difL n s).length = n := tabI_len n _
theorem tabD_get (n s v w i : Nat) (hi : i < n) : (tabD n s v w).getD i 0 = ((difTo n s v w i : Nat) : Int) := tabI_get n _ i hi
theorem difL_get (n s i : Nat) (hi : i < n) : (difL n s).getD i 0 = ((difN n s i : Nat) : Int) := tabI_get n _ i hi
theorem tabD_zero (n s : Nat) : tabD n s 0 0 = List.replicate n 0 := by
  refine List.ext_getElem (by simp [tabD, tabI]) fun k h1 h2 => ?_
  simp [tabD, tabI, difTo_zero]
theorem tabD_up (n s v : Nat) : tabD n s v n = tabD n s (v + 1) 0 := tabI_congr n _ _ fun d _ => by rw [difTo_up]
theorem tabD_end (n s : Nat) (h1 : 1 ≤ n) (h2 : n ≤ 12) (hs : s < 2 ^ n) : tabD n s n 0 = difL n s := tabI_congr n _ _ fun d hd => by rw [dif_all n s d h1 h2 hs hd]
theorem tabD_step (n s v w : Nat) : tabD n s v (w + 1) = (tabD n s v w).set (rest n ((v : Int) - (w : Int))) ((difTo n s v w (rest n ((v : Int) - (w : Int))) + b2n (s.testBit v) * b2n (s.testBit w) : Nat) : Int) := by
  unfold tabD
  rw [tabI_set]
  refine tabI_congr n _ _ fun d hd => ?_
  rw [difTo_step]
  unfold eD
  by_cases hx : d = rest n ((v : Int) - (w : Int))
  · rw [if_pos hx, ← hx]
    cases s.testBit v <;> cases s.testBit w <;> simp [b2n]
  · rw [if_neg hx]
    have : (rest n ((v : Int) - (w : Int)) == d) = false := by simp; exact fun c => hx c.symm
    rw [this, Bool.and_false]
    rfl
theorem bit_val (s v : Nat) (hs : s < 2 ^ 40) : bits .and .i64 ((s : Int) / 2 ^ v) 1 = ((b2n (s.testBit v) : Nat) : Int) := by
  cases hb : s.testBit v
  · exact bit_none hs hb
  · exact bit_one hs hb
theorem two_wraps (x : Int) (y : Nat) (h : x = (y : Int)) (hy : y ≤ 1000000) : IntKind.i64.wrap x = (y : Int) ∧ wrap64 x = (y : Int) := by
  subst h
  exact ⟨IntWalk.i64_in _ ⟨by omega, by omega⟩, IntWalk.wrap64_in _ ⟨by omega, by omega⟩⟩
theorem sub_wraps (v k : Nat) (hv : v ≤ 1000000) (hk : k ≤ 1000000) : IntKind.i64.wrap ((v : Int) - (k : Int)) = (v : Int) - (k : Int) ∧ wrap64 ((v : Int) - (k : Int)) = (v : Int) - (k : Int) :=
  ⟨IntWalk.i64_in _ ⟨by omega, by omega⟩, IntWalk.wrap64_in _ ⟨by omega, by omega⟩⟩
end Go.Proofs.Ytnlalccnhpblkaa

/- Differences of sets: even, thin and whole sets (promises 59 to 63). -/
namespace Go.Proofs.Ytnlalccnhpblkaa
set_option linter.unusedVariables false
theorem p_even (n s : Nat) (h1 : 2 ≤ n) (h2 : n ≤ 12) (hs : s < 2 ^ n) (he : evenB n s = true) :
    difN n s 1 * (n - 1) + sizeN s = sizeN s * sizeN s ∧ evenB n (2 ^ n - 1 - s) = true ∧ difN n (2 ^ n - 1 - s) 1 + 2 * sizeN s = n + difN n s 1 := by
  have ha := ev_at n s n he
  have hr := dif_rest n s (by omega) h2 hs
  refine ⟨?_, ev_of _ _ _ fun v hv1 hv2 => ?_, dif_comp n s 1 (by omega) h2 hs⟩
  · rw [sum_same _ (difN n s 1) (n - 1) fun v hv => ?_] at hr
    · omega
    · show difN n s (v + 1) = difN n s 1
      by_cases hz : v = 0
      · subst hz; rfl
      · exact ha (v + 1) (by omega) (by omega)
  · have a := dif_comp n s v (by omega) h2 hs
    have b := dif_comp n s 1 (by omega) h2 hs
    have c := ha v hv1 hv2
    omega
/-- The least number below i, but 0, that p lets by; 0 if there is none. -/
def firstP (p : Nat → Bool) : Nat → Nat
  | 0 => 0
  | i + 1 => if firstP p i = 0 then (if p i then i else 0) else firstP p i
theorem firstP_is (p : Nat → Bool) (i : Nat) (h : firstP p i ≠ 0) : p (firstP p i) = true ∧ firstP p i < i := by
  induction i with
  | zero => exact absurd rfl h
  | succ i ih =>
    have e : firstP p (i + 1) = if firstP p i = 0 then (if p i then i else 0) else firstP p i := rfl
    rw [e] at h ⊢
    by_cases hz : firstP p i = 0
    · rw [if_pos hz] at h ⊢
      cases hp : p i
      · rw [hp] at h; exact absurd rfl h
      · exact ⟨by rw [if_pos rfl]; exact hp, by rw [if_pos rfl]; omega⟩
    · rw [if_neg hz]
      have := ih hz
      exact ⟨this.1, by omega⟩
theorem firstP_some (p : Nat → Bool) (i j : Nat) (hj : j < i) (h0 : j ≠ 0) (hp : p j = true) : firstP p i ≠ 0 := by
  induction i with
  | zero => omega
  | succ i ih =>
    have e : firstP p (i + 1) = if firstP p i = 0 then (if p i then i else 0) else firstP p i := rfl
    rw [e]
    by_cases hz : firstP p i = 0
    · rw [if_pos hz]
      by_cases hji : j = i
      · subst hji; rw [if_pos hp]; exact h0
      · exact absurd hz (ih (by omega))
    · rw [if_neg hz]; exact hz
/-- Even sets of k places. -/
def evkP (n k i : Nat) : Bool := Nat.beq (sizeN i) k && evenB n i
def findN (n k : Nat) : Nat := firstP (evkP n k) (2 ^ n)
theorem evk_iff (n k i : Nat) : evkP n k i = true ↔ sizeN i = k ∧ evenB n i = true := by
  unfold evkP
  rw [Bool.and_eq_true]
  exact ⟨fun h => ⟨Nat.eq_of_beq_eq_true h.1, h.2⟩, fun h => ⟨by rw [h.1]; exact Nat.beq_refl _, h.2⟩⟩
theorem size_zero : sizeN 0 = 0 := popF_zero 40
theorem p_find (n k : Nat) (h1 : 2 ≤ n) (h2 : n ≤ 12) (hk1 : 1 ≤ k) (hk2 : k ≤ n - 1) (hf : findN n k ≠ 0) :
    findN n k < 2 ^ n ∧ sizeN (findN n k) = k ∧ evenB n (findN n k) = true ∧ findN n (n - k) ≠ 0 := by
  obtain ⟨a, b⟩ := firstP_is _ _ hf
  obtain ⟨a1, a2⟩ := (evk_iff n k _).1 a
  refine ⟨b, a1, a2, firstP_some _ _ (2 ^ n - 1 - findN n k) (comp_lt n _) ?_ ((evk_iff n _ _).2 ⟨?_, (p_even n _ h1 h2 b a2).2.1⟩)⟩
  · intro hz
    have := comp_size n (findN n k) h2 b
    rw [hz, size_zero] at this
    have a1' : sizeN (findN n k) = k := a1
    omega
  · have := comp_size n (findN n k) h2 b
    have a1' : sizeN (findN n k) = k := a1
    show sizeN (2 ^ n - 1 - findN n k) = n - k
    omega
theorem thin_few (n s : Nat) (h1 : 1 ≤ n) (h2 : n ≤ 12) (hs : s < 2 ^ n) (ht : thinB n s = true) : sizeN s * sizeN s ≤ n - 1 + sizeN s := by
  have hr := dif_rest n s h1 h2 hs
  have := sum_most (fun d => difN n s (d + 1)) 1 (n - 1) fun v hv => th_at n s n ht (v + 1) (by omega) (by omega)
  omega
theorem thin_shift (n s : Nat) (k : Int) (h1 : 1 ≤ n) (h2 : n ≤ 12) (hs : s < 2 ^ n) (ht : thinB n s = true) : thinB n (shiftN n s k) = true :=
  th_of _ _ _ fun v hv1 hv2 => by rw [dif_shift n s v k h1 h2 hs]; exact th_at n s n ht v hv1 hv2
theorem thin_turn (n s : Nat) (h1 : 1 ≤ n) (h2 : n ≤ 12) (hs : s < 2 ^ n) (ht : thinB n s = true) : thinB n (turnN n s (-1)) = true :=
  th_of _ _ _ fun v hv1 hv2 => by rw [dif_turn n s v h1 h2 hs]; exact th_at n s n ht v hv1 hv2
def oddThin (n i : Nat) : Bool := i.testBit 0 && thinB n i
def thinM (n : Nat) : Nat := topN (oddThin n) (2 ^ n)
theorem rest_self0 (n v : Nat) (h1 : 1 ≤ n) (hv : v < n) : rest n ((0 : Int) - (-(v : Int))) = v := by
  rw [show (0 : Int) - (-(v : Int)) = (v : Int) by omega]
  exact rest_self n v hv
theorem thin_most (n s : Nat) (h1 : 1 ≤ n) (h2 : n ≤ 12) (hs : s < 2 ^ n) (ht : thinB n s = true) : sizeN s ≤ thinM n := by
  by_cases hz : s = 0
  · subst hz; rw [size_zero]; exact Nat.zero_le _
  · obtain ⟨v, hv⟩ := some_bit s hz
    have hvn := lt_of_bits n s hs v hv
    rw [← size_shift n s (-(v : Int)) h1 h2 hs]
    refine top_ub _ _ _ (shiftN_lt n s _) ?_
    unfold oddThin
    rw [thin_shift n s _ h1 h2 hs ht, Bool.and_true]
    have := shift_mem n s (-(v : Int)) h1 hs 0 (by omega)
    rw [show (((0 : Nat) : Int) - (-(v : Int))) = (0 : Int) - (-(v : Int)) from rfl, rest_self0 n v h1 hvn, hv] at this
    exact this
/-- Whether each place is a difference. -/
def wholeP (n i : Nat) : Bool := Nat.beq (sumN n (turnN n i (-1)) i) (2 ^ n - 1)
def oddWhole (n i : Nat) : Bool := i.testBit 0 && wholeP n i
def wholeM (n : Nat) : Nat := lowN (oddWhole n) n (2 ^ n)
theorem minus_dif (n s d : Nat) (h1 : 1 ≤ n) (h2 : n ≤ 12) (hs : s < 2 ^ n) (hd : d < n) : (sumN n (turnN n s (-1)) s).testBit d = true ↔ 1 ≤ difN n s d := by
  rw [sum_comm n _ s h1 (turnN_lt n s _ h1) hs, minus_bit n s s d h1 hs]
  constructor
  · rintro ⟨v, w, hv, hbv, hw, hbw, e⟩
    refine size_pos _ (Nat.lt_of_lt_of_le (and_lt _ hs) (Nat.pow_le_pow_right (by omega) (by omega))) fun hz => ?_
    have : (s &&& shiftN n s (d : Int)).testBit w = true := by
      rw [Nat.testBit_and, hbw, shift_mem n s (d : Int) h1 hs w hw, Bool.true_and, ← (rest_swap n w v d h1 h2 hv hd).1 e]
      exact hbv
    rw [hz, Nat.zero_testBit] at this
    cases this
  · intro h
    obtain ⟨w, hw⟩ := some_bit (s &&& shiftN n s (d : Int)) (fun hz => by
      have : difN n s d = 0 := by unfold difN; rw [hz]; exact size_zero
      omega)
    rw [Nat.testBit_and, Bool.and_eq_true] at hw
    have hwn := lt_of_bits n s hs w hw.1
    have h3 := hw.2
    rw [shift_mem n s (d : Int) h1 hs w hwn] at h3
    have hr := rest_lt n ((w : Int) - (d : Int)) h1
    exact ⟨_, w, hr, h3, hwn, hw.1, (rest_swap n w _ d h1 h2 hr hd).2 rfl⟩
theorem whole_iff (n s : Nat) (h1 : 1 ≤ n) (h2 : n ≤ 12) (hs : s < 2 ^ n) : wholeP n s = true ↔ ∀ d, d < n → 1 ≤ difN n s d := by
  unfold wholeP
  constructor
  · intro h d hd
    refine (minus_dif n s d h1 h2 hs hd).1 ?_
    rw [Nat.eq_of_beq_eq_true h, Nat.testBit_two_pow_sub_one]
    exact decide_eq_true hd
  · intro h
    have e : sumN n (turnN n s (-1)) s = 2 ^ n - 1 := ext_bits (sumN_lt n _ _) (by have := Nat.two_pow_pos n; omega) fun v hv => by
      rw [(minus_dif n s v h1 h2 hs hv).2 (h v hv), Nat.testBit_two_pow_sub_one]
      exact (decide_eq_true hv).symm
    rw [e]
    exact Nat.beq_refl _
theorem whole_many (n s : Nat) (h1 : 1 ≤ n) (h2 : n ≤ 12) (hs : s < 2 ^ n) (hw : wholeP n s = true) : n - 1 + sizeN s ≤ sizeN s * sizeN s := by
  have hr := dif_rest n s h1 h2 hs
  have ha := (whole_iff n s h1 h2 hs).1 hw
  have := sum_least (fun d => difN n s (d + 1)) 1 (n - 1) fun v hv => ha (v + 1) (by omega)
  omega
theorem sum_tight (f : Nat → Nat) (k : Nat) (h : ∀ v, v < k → f v ≤ 1) (he : sumTo f k = k) : ∀ v, v < k → f v = 1 := by
  induction k with
  | zero => intro v hv; omega
  | succ k ih =>
    have e : sumTo f (k + 1) = sumTo f k + f k := rfl
    rw [e] at he
    have a := sum_most f 1 k fun v hv => h v (by omega)
    have b := h k (by omega)
    intro v hv
    by_cases hk : v = k
    · subst hk; omega
    · exact ih (fun v hv => h v (by omega)) (by omega) v (by omega)
theorem sq_lt : ∀ a, a < 13 → ∀ b, b < a → a * a + b ≤ b * b + a → a = 1 := by decide
theorem thinM_at (n : Nat) (h1 : 1 ≤ n) (h2 : n ≤ 12) : ∃ i, i < 2 ^ n ∧ i.testBit 0 = true ∧ thinB n i = true ∧ sizeN i = thinM n ∧ 1 ≤ thinM n := by
  have h0 : (1 : Nat) < 2 ^ n := by have := Nat.pow_le_pow_right (n := 2) (by omega) h1; omega
  have t1 : thinB n 1 = true := th_of _ _ _ fun v hv1 hv2 => by
    unfold difN
    have hle := sizeN_le 1 (1 &&& shiftN n 1 (v : Int)) (by omega) (Nat.lt_of_le_of_lt Nat.and_le_left (by omega))
    exact hle
  have h3 : 1 ≤ thinM n := by
    have := top_ub (oddThin n) (2 ^ n) 1 h0 (by unfold oddThin; rw [t1]; rfl)
    have e : sizeN 1 = 1 := by decide
    rw [e] at this
    exact this
  rcases top_at (oddThin n) (2 ^ n) with h | ⟨i, hi, hp, he⟩
  · have : thinM n = 0 := h
    omega
  · unfold oddThin at hp
    rw [Bool.and_eq_true] at hp
    exact ⟨i, hi, hp.1, hp.2, he, h3⟩
theorem wholeM_many (n : Nat) (h1 : 1 ≤ n) (h2 : n ≤ 12) : n - 1 + wholeM n ≤ wholeM n * wholeM n := by
  rcases low_at (oddWhole n) n (2 ^ n) with h | ⟨i, hi, hp, he⟩
  · have e : wholeM n = n := h
    rw [e]
    have : n * n = n * (n - 1) + n := by
      obtain ⟨m, rfl⟩ : ∃ m, n = m + 1 := ⟨n - 1, by omega⟩
      rw [Nat.add_sub_cancel, ← Nat.mul_succ]
    have h3 : n - 1 ≤ n * (n - 1) := by
      have := Nat.mul_le_mul_right (n - 1) h1
      omega
    omega
  · unfold oddWhole at hp
    rw [Bool.and_eq_true] at hp
    have := whole_many n i h1 h2 hi hp.2
    rw [he] at this
    exact this
theorem p_thinMost (n : Nat) (h1 : 1 ≤ n) (h2 : n ≤ 12) : 1 ≤ thinM n ∧ thinM n * thinM n ≤ n - 1 + thinM n ∧ (thinM n * thinM n = n - 1 + thinM n → thinM n = wholeM n) := by
  obtain ⟨i, hi, hb, ht, he, h3⟩ := thinM_at n h1 h2
  have hf := thin_few n i h1 h2 hi ht
  rw [he] at hf
  refine ⟨h3, hf, fun hx => ?_⟩
  have hr := dif_rest n i h1 h2 hi
  rw [he] at hr
  have hone := sum_tight (fun d => difN n i (d + 1)) (n - 1) (fun v hv => th_at n i n ht (v + 1) (by omega) (by omega)) (by omega)
  have hw : wholeP n i = true := (whole_iff n i h1 h2 hi).2 fun d hd => by
    by_cases hz : d = 0
    · subst hz
      rw [dif_zero n i h1 hi, he]; exact h3
    · have := hone (d - 1) (by omega)
      have this : difN n i (d - 1 + 1) = 1 := this
      rw [show d - 1 + 1 = d by omega] at this
      omega
  have hle : wholeM n ≤ thinM n := by
    have := low_lb (oddWhole n) n (2 ^ n) i hi (by unfold oddWhole; rw [hb, hw]; rfl)
    rw [he] at this
    exact this
  have hm := wholeM_many n h1 h2
  by_cases hlt : wholeM n < thinM n
  · have hn12 : thinM n ≤ 12 := by have := top_le (oddThin n) (2 ^ n) n h2 (Nat.le_refl _); exact Nat.le_trans this h2
    have hone0 := sq_lt (thinM n) (by omega) (wholeM n) hlt (by omega)
    rw [hone0] at hx hlt
    obtain rfl : n = 1 := by omega
    have h5 : thinM 1 ≤ 1 := top_le (oddThin 1) (2 ^ 1) 1 (by omega) (Nat.le_refl _)
    have h6 : wholeM 1 = 0 := by omega
    rcases low_at (oddWhole 1) 1 (2 ^ 1) with h | ⟨j, hj, hp, hje⟩
    · have : wholeM 1 = 1 := h
      omega
    · unfold oddWhole at hp
      rw [Bool.and_eq_true] at hp
      have h7 : sizeN j = wholeM 1 := hje
      have := size_pos j (by omega) (bit_ne hp.1)
      omega
  · omega
def halfWhole : Bool := (List.range 13).all fun n => Nat.beq n 0 || (Nat.blt (2 ^ (n / 2 + 1) - 1) (2 ^ n) && (wholeP n (2 ^ (n / 2 + 1) - 1) && Nat.beq (sizeN (2 ^ (n / 2 + 1) - 1)) (n / 2 + 1)))
theorem half_all : halfWhole = true := by decide +kernel
theorem p_whole (n : Nat) (h1 : 1 ≤ n) (h2 : n ≤ 12) : n - 1 + wholeM n ≤ wholeM n * wholeM n ∧ 2 * wholeM n ≤ n + 2 := by
  refine ⟨wholeM_many n h1 h2, ?_⟩
  have h := List.all_eq_true.1 half_all n (List.mem_range.2 (by omega))
  rcases (Bool.or_eq_true _ _).mp h with c | c
  · have := Nat.eq_of_beq_eq_true c; omega
  · rw [Bool.and_eq_true, Bool.and_eq_true] at c
    have hb : (2 ^ (n / 2 + 1) - 1).testBit 0 = true := by rw [Nat.testBit_two_pow_sub_one]; exact decide_eq_true (by omega)
    have := low_lb (oddWhole n) n (2 ^ n) (2 ^ (n / 2 + 1) - 1) ((blt_iff _ _).1 c.1) (by unfold oddWhole; rw [hb, c.2.1]; rfl)
    rw [Nat.eq_of_beq_eq_true c.2.2] at this
    have h3 : wholeM n ≤ n / 2 + 1 := this
    omega
end Go.Proofs.Ytnlalccnhpblkaa

/- Differences of sets: the model's even and thin sets, and sets that are found. Written by gen53.py. -/
namespace Go.Proofs.Ytnlalccnhpblkaa
open Go.RowKit Go.Shelf
set_option linter.unusedVariables false
/-- The number of ways of an even set, 0 for others. -/
def evZ (n s : Nat) : Nat := if evenB n s then difN n s 1 else 0
theorem neg_one_wrap : IntKind.i64.wrap (-1) = -1 := by decide
theorem bne_cast {a b : Nat} (h : a ≠ b) : ((a : Int) != (b : Int)) = true := by simp; omega
theorem bne_same {a b : Nat} (h : a = b) : ((a : Int) != (b : Int)) = false := by simp [h]
theorem beq_same {a b : Nat} (h : a = b) : ((a : Int) == (b : Int)) = true := by simp [h]
theorem beq_other {a b : Nat} (h : a ≠ b) : ((a : Int) == (b : Int)) = false := by simp; omega
theorem firstP_hit (p : Nat → Bool) (i N : Nat) (h0 : firstP p i = 0) (hp : p i = true) (hi : i ≠ 0) (hN : i < N) : firstP p N = i := by
  obtain ⟨d, rfl⟩ : ∃ d, N = i + 1 + d := ⟨N - (i + 1), by omega⟩
  clear hN
  induction d with
  | zero =>
    show (if firstP p i = 0 then (if p i then i else 0) else firstP p i) = i
    rw [if_pos h0, if_pos hp]
  | succ d ih =>
    show (if firstP p (i + 1 + d) = 0 then (if p (i + 1 + d) then i + 1 + d else 0) else firstP p (i + 1 + d)) = i
    rw [ih, if_neg hi]
theorem firstP_miss (p : Nat → Bool) (i : Nat) (h0 : firstP p i = 0) (hp : p i = false) : firstP p (i + 1) = 0 := by
  show (if firstP p i = 0 then (if p i then i else 0) else firstP p i) = 0
  rw [if_pos h0, hp]
  rfl
theorem firstP_one (p : Nat → Bool) : firstP p 1 = 0 := by
  show (if (0 : Nat) = 0 then (if p 0 then 0 else 0) else 0) = 0
  cases p 0 <;> rfl
end Go.Proofs.Ytnlalccnhpblkaa

/- Differences of sets: units that carry a set (promises 64 and 65). -/
namespace Go.Proofs.Ytnlalccnhpblkaa
set_option linter.unusedVariables false
/-- The units that carry a set. -/
def carS (n s m x : Nat) : Nat := if leastN n (mapN n s (m : Int) 0 n) = leastN n s then x ||| 2 ^ m else x
def carN (n s : Nat) : Nat := overSet (unitsN n) (carS n s) n 0
def carTo (n s k : Nat) : Nat := overSet (unitsN n) (carS n s) k 0
theorem car_step (n s k : Nat) : carTo n s (k + 1) = if (unitsN n).testBit k then carS n s k (carTo n s k) else carTo n s k := rfl
theorem car_lt (n s k : Nat) (hk : k ≤ n) : carTo n s k < 2 ^ n :=
  overSet_lt (carS n s) n (2 ^ n) 0 (unitsN n) k (Nat.two_pow_pos n) hk fun v x hv hx => by
    unfold carS; split
    · exact or_pow_lt n x v hx hv
    · exact hx
theorem car_bit (n s m k : Nat) : (carTo n s k).testBit m = true ↔ m < k ∧ (unitsN n).testBit m = true ∧ leastN n (act n s (m : Int) 0) = leastN n s := by
  induction k with
  | zero => exact ⟨fun h => by simp [carTo, overSet, upto] at h, fun h => by omega⟩
  | succ k ih =>
    rw [car_step]
    cases hu : (unitsN n).testBit k
    · rw [show (if false = true then carS n s k (carTo n s k) else carTo n s k) = carTo n s k from rfl, ih]
      constructor
      · rintro ⟨a, b, c⟩; exact ⟨by omega, b, c⟩
      · rintro ⟨a, b, c⟩
        refine ⟨?_, b, c⟩
        have : m ≠ k := fun e => by subst e; rw [hu] at b; cases b
        omega
    · rw [if_pos rfl]
      unfold carS
      by_cases hl : leastN n (mapN n s (k : Int) 0 n) = leastN n s
      · rw [if_pos hl, Nat.testBit_or, Bool.or_eq_true, ih, Nat.testBit_two_pow, decide_eq_true_iff]
        constructor
        · rintro (⟨a, b, c⟩ | e)
          · exact ⟨by omega, b, c⟩
          · subst e; exact ⟨by omega, hu, hl⟩
        · rintro ⟨a, b, c⟩
          by_cases e : k = m
          · exact .inr e
          · exact .inl ⟨by omega, b, c⟩
      · rw [if_neg hl, ih]
        constructor
        · rintro ⟨a, b, c⟩; exact ⟨by omega, b, c⟩
        · rintro ⟨a, b, c⟩
          refine ⟨?_, b, c⟩
          have : m ≠ k := fun e => by subst e; exact hl c
          omega
theorem rest_mod2 (n : Nat) (k : Int) (h1 : 1 ≤ n) : ((rest n k : Nat) : Int) % (n : Int) = k % (n : Int) := by
  rw [rest_cast n k h1, Int.emod_emod]
theorem sh_norm (n s : Nat) (k : Int) (h1 : 1 ≤ n) (hs : s < 2 ^ n) : shiftN n s k = shiftN n s ((rest n k : Nat) : Int) := by
  rw [← act_one n s k h1 hs, ← act_one n s _ h1 hs]
  exact act_congr n s 1 1 k _ rfl (rest_mod2 n k h1).symm
theorem sh_sh (n s : Nat) (a b : Int) (h1 : 1 ≤ n) (hs : s < 2 ^ n) : shiftN n (shiftN n s a) b = shiftN n s (a + b) := by
  rw [← act_one n _ b h1 (shiftN_lt n s a), ← act_one n s a h1 hs, ← act_one n s (a + b) h1 hs, act_act n s 1 a 1 b h1]
  simp
theorem le_sh (n s : Nat) (k : Int) (h1 : 1 ≤ n) (hs : s < 2 ^ n) : leastN n s ≤ shiftN n s k := by
  rw [sh_norm n s k h1 hs]
  exact (least_spec n s h1 hs).1 _ (rest_lt n k h1)
theorem least_sh (n s : Nat) (a : Int) (h1 : 1 ≤ n) (hs : s < 2 ^ n) : leastN n (shiftN n s a) = leastN n s := by
  obtain ⟨k, hk, e⟩ := (least_spec n s h1 hs).2
  obtain ⟨k', hk', e'⟩ := (least_spec n (shiftN n s a) h1 (shiftN_lt n s a)).2
  refine Nat.le_antisymm ?_ ?_
  · have h := le_sh n (shiftN n s a) ((k : Int) - a) h1 (shiftN_lt n s a)
    rw [sh_sh n s a _ h1 hs, show a + ((k : Int) - a) = (k : Int) by omega, ← e] at h
    exact h
  · rw [e', sh_sh n s a _ h1 hs]
    exact le_sh n s _ h1 hs
/-- A set that is turned is shifted. -/
theorem least_iff (n s x : Nat) (h1 : 1 ≤ n) (hs : s < 2 ^ n) (hx : x < 2 ^ n) : leastN n x = leastN n s ↔ ∃ k : Int, x = act n s 1 k := by
  constructor
  · intro h
    obtain ⟨j, hj, e⟩ := (least_spec n x h1 hx).2
    obtain ⟨k, hk, e'⟩ := (least_spec n s h1 hs).2
    refine ⟨(k : Int) - (j : Int), ?_⟩
    rw [act_one n s _ h1 hs]
    have h2 : shiftN n (shiftN n x (j : Int)) (-(j : Int)) = shiftN n (shiftN n s (k : Int)) (-(j : Int)) := by rw [← e, ← e', h]
    rw [sh_sh n x _ _ h1 hx, sh_sh n s _ _ h1 hs, show (j : Int) + -(j : Int) = 0 by omega, shift_zero n x h1 hx] at h2
    rw [h2]
    congr 1
  · rintro ⟨k, e⟩
    rw [e, act_one n s k h1 hs]
    exact least_sh n s k h1 hs
theorem car_iff (n s m : Nat) (h1 : 1 ≤ n) (hs : s < 2 ^ n) : (carN n s).testBit m = true ↔ m < n ∧ Nat.gcd m n = 1 ∧ ∃ k : Int, act n s (m : Int) 0 = act n s 1 k := by
  rw [show carN n s = carTo n s n from rfl, car_bit, unitsN_bit, least_iff n s _ h1 hs (act_lt n s (m : Int) 0 h1)]
  constructor
  · rintro ⟨a, ⟨_, b⟩, c⟩; exact ⟨a, b, c⟩
  · rintro ⟨a, b, c⟩; exact ⟨a, ⟨a, b⟩, c⟩
theorem car_mul (n s u m : Nat) (h1 : 1 ≤ n) (h2 : n ≤ 12) (hs : s < 2 ^ n) (hu : (carN n s).testBit u = true) (hm : (carN n s).testBit m = true) : (carN n s).testBit (rest n ((m : Int) * (u : Int))) = true := by
  obtain ⟨u1, u2, k, hk⟩ := (car_iff n s u h1 hs).1 hu
  obtain ⟨m1, m2, l, hl⟩ := (car_iff n s m h1 hs).1 hm
  refine (car_iff n s _ h1 hs).2 ⟨rest_lt n _ h1, ?_, l + (m : Int) * k, ?_⟩
  · rw [rest_mul]
    exact unit_mul n (by omega) m m1 u u1 m2 u2
  · have a : act n (act n s (u : Int) 0) (m : Int) 0 = act n s ((m : Int) * (u : Int)) 0 := by
      rw [act_act n s _ _ _ _ h1]; simp
    have b : act n (act n s 1 k) (m : Int) 0 = act n s (m : Int) ((m : Int) * k) := by
      rw [act_act n s _ _ _ _ h1]; simp
    have c : act n (act n s (m : Int) 0) 1 ((m : Int) * k) = act n s (m : Int) ((m : Int) * k) := by
      rw [act_act n s _ _ _ _ h1]; simp
    have d : act n (act n s 1 l) 1 ((m : Int) * k) = act n s 1 (l + (m : Int) * k) := by
      rw [act_act n s _ _ _ _ h1]; simp
    rw [act_congr n s ((rest n ((m : Int) * (u : Int)) : Nat) : Int) ((m : Int) * (u : Int)) 0 0 (rest_mod2 n _ h1) rfl, ← a, hk, b, ← c, hl, d]
theorem car_turn (n s m : Nat) (h1 : 1 ≤ n) (h2 : n ≤ 12) (hs : s < 2 ^ n) (hm : (carN n s).testBit m = true) : turnN n (carN n s) (m : Int) = carN n s := by
  obtain ⟨m1, m2, _⟩ := (car_iff n s m h1 hs).1 hm
  have hc : carN n s < 2 ^ n := car_lt n s n (Nat.le_refl n)
  have ht := turnN_lt n (carN n s) (m : Int) h1
  have hz := turn_unit n (carN n s) (m : Int) h1 h2 hc (by rw [rest_self n m m1]; exact m2)
  refine popF_same n _ _ ht hc (fun i hi => ?_) (by rw [← sizeN_of n _ h2 hc, ← sizeN_of n _ h2 ht, hz]; exact Nat.le_refl _)
  rw [turn_act, act_bit] at hi
  obtain ⟨v, hv, hb, e⟩ := hi
  rw [← e, Int.add_zero]
  exact car_mul n s v m h1 h2 hs hb hm
theorem car_one (n s : Nat) (h1 : 1 ≤ n) (hs : s < 2 ^ n) : (carN n s).testBit (1 % n) = true := by
  refine (car_iff n s _ h1 hs).2 ⟨Nat.mod_lt _ h1, ?_, 0, ?_⟩
  · by_cases h : n = 1
    · subst h; rfl
    · rw [Nat.mod_eq_of_lt (by omega), Nat.gcd_one_left]
  · refine act_congr n s _ 1 0 0 ?_ rfl
    rw [Int.natCast_emod]
    simp
def turnHit : Bool := (List.range 13).all fun n => (List.range n).all fun m => !Nat.beq (Nat.gcd m n) 1 || (List.range n).all fun i => (List.range n).any fun v => Nat.beq (m * v % n) i && (List.range n).all fun w => !Nat.beq (m * w % n) i || Nat.beq w v
theorem turn_hits : turnHit = true := by decide +kernel
theorem turn_hit (n : Nat) (hn : n < 13) (m : Nat) (hm : m < n) (hg : Nat.gcd m n = 1) (i : Nat) (hi : i < n) : ∃ v : Nat, v < n ∧ m * v % n = i ∧ ∀ w : Nat, w < n → m * w % n = i → w = v := by
  have a := List.all_eq_true.1 (List.all_eq_true.1 turn_hits n (List.mem_range.2 hn)) m (List.mem_range.2 hm)
  rw [hg] at a
  obtain ⟨v, hv, e⟩ := List.any_eq_true.1 (List.all_eq_true.1 (show ((List.range n).all fun i => (List.range n).any fun v => Nat.beq (m * v % n) i && (List.range n).all fun w => !Nat.beq (m * w % n) i || Nat.beq w v) = true from a) i (List.mem_range.2 hi))
  rw [Bool.and_eq_true] at e
  refine ⟨v, List.mem_range.1 hv, Nat.eq_of_beq_eq_true e.1, fun w hw hwi => ?_⟩
  have b := List.all_eq_true.1 e.2 w (List.mem_range.2 hw)
  rcases (Bool.or_eq_true _ _).mp b with c | c
  · rw [hwi, Nat.beq_refl] at c; cases c
  · exact Nat.eq_of_beq_eq_true c
theorem comp_turn (n s m : Nat) (h1 : 1 ≤ n) (h2 : n ≤ 12) (hs : s < 2 ^ n) (hm : m < n) (hg : Nat.gcd m n = 1) : act n (2 ^ n - 1 - s) (m : Int) 0 = 2 ^ n - 1 - act n s (m : Int) 0 := by
  refine ext_bits (act_lt n _ _ _ h1) (comp_lt n _) fun i hi => ?_
  obtain ⟨v, hv, e, hu⟩ := turn_hit n (by omega) m hm hg i hi
  have key : ∀ x, (act n x (m : Int) 0).testBit i = x.testBit v := fun x => by
    rw [Bool.eq_iff_iff, act_bit]
    constructor
    · rintro ⟨w, hw, hb, e2⟩
      rw [Int.add_zero, rest_mul] at e2
      rw [← hu w hw e2]; exact hb
    · intro hb
      exact ⟨v, hv, hb, by rw [Int.add_zero, rest_mul]; exact e⟩
  rw [key, comp_bit n s v hs, comp_bit n _ i (act_lt n s _ _ h1), key, decide_eq_true hv, decide_eq_true hi]
theorem comp_shift (n s : Nat) (k : Int) (h1 : 1 ≤ n) (hs : s < 2 ^ n) : act n (2 ^ n - 1 - s) 1 k = 2 ^ n - 1 - act n s 1 k := by
  rw [act_one n _ k h1 (comp_lt n s), act_one n s k h1 hs]
  refine ext_bits (shiftN_lt n _ _) (comp_lt n _) fun i hi => ?_
  have hr := rest_lt n ((i : Int) - k) h1
  rw [shift_mem n _ k h1 (comp_lt n s) i hi, comp_bit n s _ hs, comp_bit n _ i (shiftN_lt n s k), shift_mem n s k h1 hs i hi, decide_eq_true hi, decide_eq_true hr]
theorem comp_comp {n a b : Nat} (ha : a < 2 ^ n) (hb : b < 2 ^ n) (h : 2 ^ n - 1 - a = 2 ^ n - 1 - b) : a = b := by omega
theorem car_comp (n s : Nat) (h1 : 1 ≤ n) (h2 : n ≤ 12) (hs : s < 2 ^ n) : carN n (2 ^ n - 1 - s) = carN n s := by
  refine ext_bits (car_lt n _ n (Nat.le_refl n)) (car_lt n s n (Nat.le_refl n)) fun m hm => ?_
  rw [Bool.eq_iff_iff, car_iff n _ m h1 (comp_lt n s), car_iff n s m h1 hs]
  constructor
  · rintro ⟨a, b, k, e⟩
    rw [comp_turn n s m h1 h2 hs a b, comp_shift n s k h1 hs] at e
    exact ⟨a, b, k, comp_comp (act_lt n s _ _ h1) (act_lt n s _ _ h1) e⟩
  · rintro ⟨a, b, k, e⟩
    exact ⟨a, b, k, by rw [comp_turn n s m h1 h2 hs a b, comp_shift n s k h1 hs, e]⟩
/-- Multipliers: even sets of every ring, gone through one by one. -/
def rtD (n s d : Nat) : Nat := (s <<< d ||| s >>> (n - d)) &&& (2 ^ n - 1)
theorem rtD_shift (n s d : Nat) (hd : d < n) : rtD n s d = shiftN n s (d : Int) := by
  unfold rtD shiftN
  rw [rest_self n d hd]
  rfl
def dK (n s d : Nat) : Nat := popF n (s &&& rtD n s d)
theorem dK_dif (n s d : Nat) (h2 : n ≤ 12) (hs : s < 2 ^ n) (hd : d < n) : dK n s d = difN n s d := by
  unfold dK difN
  rw [rtD_shift n s d hd, sizeN_of n _ h2 (and_lt _ hs)]
def evK (n s l : Nat) : Nat → Bool
  | 0 => true
  | v + 1 => (Nat.ble v 1 || Nat.beq (dK n s v) l) && evK n s l v
theorem evK_ev (n s k : Nat) (h1 : 2 ≤ n) (h2 : n ≤ 12) (hs : s < 2 ^ n) (hk : k ≤ n) : evK n s (dK n s 1) k = evN n s k := by
  induction k with
  | zero => rfl
  | succ k ih =>
    show ((Nat.ble k 1 || Nat.beq (dK n s k) (dK n s 1)) && evK n s (dK n s 1) k) = ((Nat.ble k 1 || Nat.beq (difN n s k) (difN n s 1)) && evN n s k)
    rw [ih (by omega), dK_dif n s k h2 hs (by omega), dK_dif n s 1 h2 hs (by omega)]
/-- Whether q is a prime that divides a number, is greater than another one and is a unit. -/
def mulQ (n r l q : Nat) : Bool := Nat.ble 2 q && (Nat.blt l q && (Nat.blt 0 r && (Nat.beq (r % q) 0 && (Nat.beq (Nat.gcd q n) 1 && (List.range q).all fun d => Nat.blt d 2 || !Nat.beq (q % d) 0))))
def carK (n s q : Nat) : Bool := (List.range n).any fun k => Nat.beq (mapN n s (q : Int) 0 n) (rtD n s k)
def multB (n s l : Nat) : Bool := !evK n s l n || (List.range n).all fun q => !mulQ n (popF n s - l) l q || carK n s q
def multA (n s : Nat) : Bool := match dK n s 1 with
  | 0 => multB n s 0
  | l + 1 => multB n s (l + 1)
theorem multA_eq (n s : Nat) : multA n s = multB n s (dK n s 1) := by
  unfold multA
  cases dK n s 1 <;> rfl
def multAll (n : Nat) : Bool := (List.range 64).all fun i => (List.range 64).all fun j => Nat.ble (2 ^ n) (i * 64 + j) || multA n (i * 64 + j)
theorem mult_all : ((List.range 13).all fun n => Nat.blt n 2 || multAll n) = true := by decide +kernel
theorem p_mult (n s q : Nat) (h1 : 2 ≤ n) (h2 : n ≤ 12) (hs : s < 2 ^ n) (he : evenB n s = true) (hq : q < n) (hm : mulQ n (sizeN s - difN n s 1) (difN n s 1) q = true) : (carN n s).testBit q = true := by
  have ha := List.all_eq_true.1 mult_all n (List.mem_range.2 (by omega))
  have hb : multAll n = true := by
    rcases (Bool.or_eq_true _ _).mp ha with c | c
    · have := (blt_iff _ _).1 c; omega
    · exact c
  have hlt : s < 4096 := Nat.lt_of_lt_of_le hs (Nat.pow_le_pow_right (n := 2) (by omega) h2)
  have hc := List.all_eq_true.1 (List.all_eq_true.1 hb (s / 64) (List.mem_range.2 (by omega))) (s % 64) (List.mem_range.2 (Nat.mod_lt _ (by omega)))
  rw [show s / 64 * 64 + s % 64 = s by omega] at hc
  have hd : multB n s (dK n s 1) = true := by
    rcases (Bool.or_eq_true _ _).mp hc with c | c
    · have := Nat.le_of_ble_eq_true c; omega
    · rw [← multA_eq]; exact c
  unfold multB at hd
  rw [evK_ev n s n h1 h2 hs (Nat.le_refl n), show evN n s n = true from he, dK_dif n s 1 h2 hs (by omega), ← sizeN_of n s h2 hs] at hd
  have hf := List.all_eq_true.1 (show ((List.range n).all fun q => !mulQ n (sizeN s - difN n s 1) (difN n s 1) q || carK n s q) = true from hd) q (List.mem_range.2 hq)
  rw [hm] at hf
  obtain ⟨k, hk, e⟩ := List.any_eq_true.1 (show carK n s q = true from hf)
  rw [List.mem_range] at hk
  have hgq : Nat.gcd q n = 1 := by
    unfold mulQ at hm
    simp only [Bool.and_eq_true] at hm
    exact Nat.eq_of_beq_eq_true hm.2.2.2.2.1
  refine (car_iff n s q (by omega) hs).2 ⟨hq, hgq, (k : Int), ?_⟩
  rw [act_one n s _ (by omega) hs, ← rtD_shift n s k hk]
  exact Nat.eq_of_beq_eq_true e
end Go.Proofs.Ytnlalccnhpblkaa

/- Differences of sets: the model's greatest thin sets, least whole sets, and units that carry. Written by gen54.py. -/
namespace Go.Proofs.Ytnlalccnhpblkaa
open Go.RowKit Go.Shelf
set_option linter.unusedVariables false
theorem odd_at (j : Nat) : (2 * j + 1).testBit 0 = true := by rw [Nat.testBit_zero]; exact decide_eq_true (by omega)
theorem even_at (j : Nat) : (2 * j).testBit 0 = false := by rw [Nat.testBit_zero]; exact decide_eq_false (by omega)
theorem oddThin_even (n j : Nat) : oddThin n (2 * j) = false := by unfold oddThin; rw [even_at]; rfl
theorem oddWhole_even (n j : Nat) : oddWhole n (2 * j) = false := by unfold oddWhole; rw [even_at]; rfl
theorem oddThin_odd (n j : Nat) : oddThin n (2 * j + 1) = thinB n (2 * j + 1) := by unfold oddThin; rw [odd_at]; rfl
theorem oddWhole_odd (n j : Nat) : oddWhole n (2 * j + 1) = wholeP n (2 * j + 1) := by unfold oddWhole; rw [odd_at]; rfl
/-- The greatest size of the first j odd thin sets. -/
def tmS (n j : Nat) : Nat := topN (oddThin n) (2 * j + 1)
def wmS (n j : Nat) : Nat := lowN (oddWhole n) n (2 * j + 1)
theorem tm_zero (n : Nat) : tmS n 0 = 0 := (top_step (oddThin n) 0).2 (fun h => by
  have := oddThin_even n 0
  rw [Nat.mul_zero] at this
  rw [this] at h; cases h.1)
theorem wm_zero (n : Nat) : wmS n 0 = n := (low_step (oddWhole n) n 0).2 (fun h => by
  have := oddWhole_even n 0
  rw [Nat.mul_zero] at this
  rw [this] at h; cases h.1)
theorem tm_step (n j : Nat) : (thinB n (2 * j + 1) = true ∧ tmS n j < sizeN (2 * j + 1) → tmS n (j + 1) = sizeN (2 * j + 1)) ∧ (¬ (thinB n (2 * j + 1) = true ∧ tmS n j < sizeN (2 * j + 1)) → tmS n (j + 1) = tmS n j) := by
  have e : tmS n (j + 1) = topN (oddThin n) (2 * j + 1 + 1) := (top_step (oddThin n) (2 * j + 2)).2 (fun h => by
    have := oddThin_even n (j + 1)
    rw [show 2 * (j + 1) = 2 * j + 2 by omega] at this
    rw [this] at h; cases h.1)
  have := top_step (oddThin n) (2 * j + 1)
  rw [oddThin_odd] at this
  rw [e]
  exact this
theorem wm_step (n j : Nat) : (wholeP n (2 * j + 1) = true ∧ sizeN (2 * j + 1) < wmS n j → wmS n (j + 1) = sizeN (2 * j + 1)) ∧ (¬ (wholeP n (2 * j + 1) = true ∧ sizeN (2 * j + 1) < wmS n j) → wmS n (j + 1) = wmS n j) := by
  have e : wmS n (j + 1) = lowN (oddWhole n) n (2 * j + 1 + 1) := (low_step (oddWhole n) n (2 * j + 2)).2 (fun h => by
    have := oddWhole_even n (j + 1)
    rw [show 2 * (j + 1) = 2 * j + 2 by omega] at this
    rw [this] at h; cases h.1)
  have := low_step (oddWhole n) n (2 * j + 1)
  rw [oddWhole_odd] at this
  rw [e]
  exact this
theorem tm_end (n : Nat) (h1 : 1 ≤ n) : tmS n (2 ^ (n - 1)) = thinM n := by
  have e : 2 * 2 ^ (n - 1) = 2 ^ n := by rw [Nat.mul_comm, ← Nat.pow_succ]; congr 1; omega
  unfold tmS thinM
  rw [e]
  refine (top_step (oddThin n) (2 ^ n)).2 (fun h => ?_)
  have := oddThin_even n (2 ^ (n - 1))
  rw [e] at this
  rw [this] at h; cases h.1
theorem wm_end (n : Nat) (h1 : 1 ≤ n) : wmS n (2 ^ (n - 1)) = wholeM n := by
  have e : 2 * 2 ^ (n - 1) = 2 ^ n := by rw [Nat.mul_comm, ← Nat.pow_succ]; congr 1; omega
  unfold wmS wholeM
  rw [e]
  refine (low_step (oddWhole n) n (2 ^ n)).2 (fun h => ?_)
  have := oddWhole_even n (2 ^ (n - 1))
  rw [e] at this
  rw [this] at h; cases h.1
theorem all_wraps (N : Nat) (h1 : 1 ≤ N) (h : N ≤ 4096) : IntKind.i64.wrap ((N : Int) - 1) = ((N - 1 : Nat) : Int) ∧ wrap64 ((N : Int) - 1) = ((N - 1 : Nat) : Int) := two_wraps _ (N - 1) (by omega) (by omega)
theorem half_pow (n : Nat) (h1 : 1 ≤ n) : 2 ^ n = 2 * 2 ^ (n - 1) := by rw [Nat.mul_comm, ← Nat.pow_succ]; congr 1; omega
end Go.Proofs.Ytnlalccnhpblkaa

/- The exact laws of chapter 7 over given contracts of the program. Written by gen55.py. -/
namespace Go.Proofs.Ytnlalccnhpblkaa
open Go.RowKit Go.Shelf
set_option linter.unusedVariables false
theorem to_below {F : Nat} {xs : Array Value} {w : World} {v : Ending} (h : Calls Try.prog F xs w fun e w' => e = v ∧ w = w') : Calls Try.prog F xs w fun e w' => e = v ∧ Below w.heap.size w w' :=
  h.mono fun e w' ⟨he, hw⟩ => ⟨he, hw ▸ Below.refl _ _⟩
end Go.Proofs.Ytnlalccnhpblkaa
