/- Differences of sets: how often each one comes. -/
import Derived.Test.YtaklmepioeoohaaStepQ
import Derived.Test.YtaklmepioeoohaaGC
namespace Go.Proofs.Ytaklmepioeoohaa
set_option linter.unusedVariables false
/-- Whether the places v and w of a set have the difference d. -/
def eD (n s v w d : Nat) : Nat := b2n (s.testBit v && s.testBit w && (rest n ((v : Int) - (w : Int)) == d))
/-- How often d has come, the places below v having been gone through, and v with those below w. -/
def difTo (n s v w d : Nat) : Nat := sumTo (fun v' => sumTo (fun w' => eD n s v' w' d) n) v + sumTo (fun w' => eD n s v w' d) w
/-- How often d comes. -/
def difN (n s d : Nat) : Nat := sizeN (s &&& shiftN n s (d : Int))
theorem difTo_zero (n s d : Nat) : difTo n s 0 0 d = 0 := rfl
theorem difTo_step (n s v w d : Nat) : difTo n s v (w + 1) d = difTo n s v w d + eD n s v w d := by
  show sumTo (fun v' => sumTo (fun w' => eD n s v' w' d) n) v + (sumTo (fun w' => eD n s v w' d) w + eD n s v w d) = _
  rw [← Nat.add_assoc]; rfl
theorem difTo_up (n s v d : Nat) : difTo n s v n d = difTo n s (v + 1) 0 d := rfl
theorem b2n_le (b : Bool) : b2n b ≤ 1 := by cases b <;> simp [b2n]
theorem dsum_le (f : Nat → Nat) (b k : Nat) (h : ∀ v, f v ≤ b) : sumTo f k ≤ b * k := by
  induction k with
  | zero => simp [sumTo]
  | succ k ih =>
    show sumTo f k + f k ≤ b * (k + 1)
    have := h k
    rw [Nat.mul_add]
    omega
theorem difTo_le (n s v w d : Nat) (h2 : n ≤ 12) (hv : v ≤ n) (hw : w ≤ n) : difTo n s v w d ≤ 200 := by
  have h1 : ∀ v', sumTo (fun w' => eD n s v' w' d) n ≤ 12 := fun v' => by
    have := dsum_le (fun w' => eD n s v' w' d) 1 n (fun w' => b2n_le _)
    omega
  have h3 := dsum_le (fun v' => sumTo (fun w' => eD n s v' w' d) n) 12 v h1
  have h4 := dsum_le (fun w' => eD n s v w' d) 1 w (fun w' => b2n_le _)
  have h5 : difTo n s v w d = sumTo (fun v' => sumTo (fun w' => eD n s v' w' d) n) v + sumTo (fun w' => eD n s v w' d) w := rfl
  omega
theorem rest_swap (n v w d : Nat) (h1 : 1 ≤ n) (h2 : n ≤ 12) (hw : w < n) (hd : d < n) : rest n ((v : Int) - (w : Int)) = d ↔ w = rest n ((v : Int) - (d : Int)) := by
  have e1 := rest_cast n ((v : Int) - (w : Int)) h1
  have e2 := rest_cast n ((v : Int) - (d : Int)) h1
  generalize rest n ((v : Int) - (w : Int)) = a at *
  generalize rest n ((v : Int) - (d : Int)) = b at *
  have h : n = 1 ∨ n = 2 ∨ n = 3 ∨ n = 4 ∨ n = 5 ∨ n = 6 ∨ n = 7 ∨ n = 8 ∨ n = 9 ∨ n = 10 ∨ n = 11 ∨ n = 12 := by omega
  rcases h with rfl | rfl | rfl | rfl | rfl | rfl | rfl | rfl | rfl | rfl | rfl | rfl <;> omega
theorem sum_at (g : Nat → Nat) (a k : Nat) (h : ∀ w, w < k → w ≠ a → g w = 0) : sumTo g k = if a < k then g a else 0 := by
  induction k with
  | zero => rfl
  | succ k ih =>
    show sumTo g k + g k = _
    rw [ih fun w hw hn => h w (by omega) hn]
    by_cases e : a = k
    · subst e
      rw [if_neg (by omega), if_pos (by omega), Nat.zero_add]
    · rw [h k (by omega) (fun c => e c.symm), Nat.add_zero]
      by_cases hk : a < k
      · rw [if_pos hk, if_pos (by omega)]
      · rw [if_neg hk, if_neg (by omega)]
theorem dif_row (n s v d : Nat) (h1 : 1 ≤ n) (h2 : n ≤ 12) (hs : s < 2 ^ n) (hv : v < n) (hd : d < n) : sumTo (fun w => eD n s v w d) n = b2n ((s &&& shiftN n s (d : Int)).testBit v) := by
  have hr := rest_lt n ((v : Int) - (d : Int)) h1
  rw [sum_at _ (rest n ((v : Int) - (d : Int))) n fun w hw hn => ?_, if_pos hr]
  · unfold eD
    rw [(rest_swap n v _ d h1 h2 hr hd).2 rfl, Nat.testBit_and, shift_mem n s (d : Int) h1 hs v hv]
    simp
  · unfold eD
    have : ¬ rest n ((v : Int) - (w : Int)) = d := fun c => hn ((rest_swap n v w d h1 h2 hw hd).1 c)
    simp [this, b2n]
theorem dif_all (n s d : Nat) (h1 : 1 ≤ n) (h2 : n ≤ 12) (hs : s < 2 ^ n) (hd : d < n) : difTo n s n 0 d = difN n s d := by
  show sumTo (fun v' => sumTo (fun w' => eD n s v' w' d) n) n + 0 = sizeN (s &&& shiftN n s (d : Int))
  rw [Nat.add_zero, size_sum n _ h2 (Nat.lt_of_le_of_lt Nat.and_le_left hs)]
  exact sumTo_congr _ _ n fun v hv => dif_row n s v d h1 h2 hs hv hd
/-- Whether an even set: all places from 2 on come as often as 1. -/
def evN (n s : Nat) : Nat → Bool
  | 0 => true
  | v + 1 => (Nat.ble v 1 || Nat.beq (difN n s v) (difN n s 1)) && evN n s v
def evenB (n s : Nat) : Bool := evN n s n
theorem ev_at (n s k : Nat) (h : evN n s k = true) (v : Nat) (h2 : 2 ≤ v) (hv : v < k) : difN n s v = difN n s 1 := by
  induction k with
  | zero => omega
  | succ k ih =>
    have h' : ((Nat.ble k 1 || Nat.beq (difN n s k) (difN n s 1)) && evN n s k) = true := h
    rw [Bool.and_eq_true] at h'
    by_cases e : v = k
    · subst e
      rcases (Bool.or_eq_true _ _).mp h'.1 with c | c
      · have := Nat.le_of_ble_eq_true c; omega
      · exact Nat.eq_of_beq_eq_true c
    · exact ih h'.2 (by omega)
theorem ev_of (n s k : Nat) (h : ∀ v, 2 ≤ v → v < k → difN n s v = difN n s 1) : evN n s k = true := by
  induction k with
  | zero => rfl
  | succ k ih =>
    show ((Nat.ble k 1 || Nat.beq (difN n s k) (difN n s 1)) && evN n s k) = true
    rw [ih fun v h1 h2 => h v h1 (by omega), Bool.and_true]
    by_cases hk : k ≤ 1
    · rw [Nat.ble_eq_true_of_le hk]; rfl
    · rw [h k (by omega) (by omega), Nat.beq_refl, Bool.or_true]
theorem ev_not (n s k v : Nat) (h2 : 2 ≤ v) (hv : v < k) (hne : difN n s v ≠ difN n s 1) : evN n s k = false := by
  cases hc : evN n s k
  · rfl
  · exact absurd (ev_at n s k hc v h2 hv) hne
/-- The number of ways of an even set, -1 for others. -/
def evV (n s : Nat) : Int := if evenB n s then (difN n s 1 : Int) else -1
def thN (n s : Nat) : Nat → Bool
  | 0 => true
  | v + 1 => (Nat.beq v 0 || Nat.ble (difN n s v) 1) && thN n s v
def thinB (n s : Nat) : Bool := thN n s n
theorem th_at (n s k : Nat) (h : thN n s k = true) (v : Nat) (h1 : 1 ≤ v) (hv : v < k) : difN n s v ≤ 1 := by
  induction k with
  | zero => omega
  | succ k ih =>
    have h' : ((Nat.beq k 0 || Nat.ble (difN n s k) 1) && thN n s k) = true := h
    rw [Bool.and_eq_true] at h'
    by_cases e : v = k
    · subst e
      rcases (Bool.or_eq_true _ _).mp h'.1 with c | c
      · have := Nat.eq_of_beq_eq_true c; omega
      · exact Nat.le_of_ble_eq_true c
    · exact ih h'.2 (by omega)
theorem th_of (n s k : Nat) (h : ∀ v, 1 ≤ v → v < k → difN n s v ≤ 1) : thN n s k = true := by
  induction k with
  | zero => rfl
  | succ k ih =>
    show ((Nat.beq k 0 || Nat.ble (difN n s k) 1) && thN n s k) = true
    rw [ih fun v h1 h2 => h v h1 (by omega), Bool.and_true]
    by_cases hk : k = 0
    · subst hk; rfl
    · rw [Nat.ble_eq_true_of_le (h k (by omega) (by omega)), Bool.or_true]
theorem th_not (n s k v : Nat) (h1 : 1 ≤ v) (hv : v < k) (hne : ¬ difN n s v ≤ 1) : thN n s k = false := by
  cases hc : thN n s k
  · rfl
  · exact absurd (th_at n s k hc v h1 hv) hne
theorem dif_le (n s d : Nat) (h2 : n ≤ 12) (hs : s < 2 ^ n) : difN n s d ≤ 12 := Nat.le_trans (sizeN_le n _ h2 (Nat.lt_of_le_of_lt Nat.and_le_left hs)) h2
end Go.Proofs.Ytaklmepioeoohaa
