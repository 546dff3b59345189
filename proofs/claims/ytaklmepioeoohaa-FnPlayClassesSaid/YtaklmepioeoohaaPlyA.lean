/- Plays of a ring: what a play is, and all plays gone through (promises 66, 68 to 71). -/
import Derived.Test.YtaklmepioeoohaaDifN
import Derived.Test.YtaklmepioeoohaaGD
namespace Go.Proofs.Ytaklmepioeoohaa
set_option linter.unusedVariables false
/-- A play of a ring. -/
def playB (n s : Nat) : Bool := Nat.ble 3 n && (Nat.beq (n % 2) 1 && (!s.testBit 0 && (Nat.beq (s &&& turnN n s (-1)) 0 && Nat.beq (s ||| turnN n s (-1)) (2 ^ n - 2))))
theorem nbeq_iff (a b : Nat) : Nat.beq a b = true ↔ a = b := ⟨Nat.eq_of_beq_eq_true, fun h => by rw [h]; exact Nat.beq_refl b⟩
theorem play_iff (n s : Nat) : playB n s = true ↔ 3 ≤ n ∧ n % 2 = 1 ∧ s.testBit 0 = false ∧ s &&& turnN n s (-1) = 0 ∧ s ||| turnN n s (-1) = 2 ^ n - 2 := by
  unfold playB
  simp only [Bool.and_eq_true, Bool.not_eq_true', nbeq_iff, Nat.ble_eq]
/-- Whether v beats w. -/
def beatB (n s v w : Nat) : Bool := s.testBit (rest n ((w : Int) - (v : Int)))
/-- Whether three places beat one another around. -/
def circB (n s a b c : Nat) : Bool := beatB n s a b == beatB n s b c && beatB n s a b == beatB n s c a
def thC (n s a b c : Nat) : Nat := sumTo (fun x => if Nat.ble (b + 1) x && circB n s a b x then 1 else 0) c
def thB (n s a b : Nat) : Nat := sumTo (fun x => if Nat.ble (a + 1) x then thC n s a x n else 0) b
def thA (n s a : Nat) : Nat := sumTo (fun x => thB n s x n) a
/-- The number of threes that beat one another around. -/
def threeN (n s : Nat) : Nat := thA n s n
theorem sumK_le (f : Nat → Nat) (m k : Nat) (h : ∀ x, x < k → f x ≤ m) : sumTo f k ≤ k * m := by
  induction k with
  | zero => exact Nat.zero_le _
  | succ k ih =>
    have a := ih fun x hx => h x (by omega)
    have b := h k (by omega)
    show sumTo f k + f k ≤ (k + 1) * m
    rw [Nat.succ_mul]
    omega
theorem thC_le (n s a b c : Nat) (h2 : n ≤ 12) (hc : c ≤ n) : thC n s a b c ≤ 12 := by
  have := sumK_le (fun x => if Nat.ble (b + 1) x && circB n s a b x then 1 else 0) 1 c (fun x _ => by
    show (if _ then 1 else 0) ≤ 1
    split <;> omega)
  unfold thC
  omega
theorem thB_le (n s a b : Nat) (h2 : n ≤ 12) (hb : b ≤ n) : thB n s a b ≤ 144 := by
  have := sumK_le (fun x => if Nat.ble (a + 1) x then thC n s a x n else 0) 12 b (fun x _ => by
    show (if _ then thC n s a x n else 0) ≤ 12
    split
    · exact thC_le n s a x n h2 (Nat.le_refl n)
    · omega)
  unfold thB
  omega
theorem thA_le (n s a : Nat) (h2 : n ≤ 12) (ha : a ≤ n) : thA n s a ≤ 1728 := by
  have := sumK_le (fun x => thB n s x n) 144 a (fun x _ => thB_le n s x n h2 (Nat.le_refl n))
  unfold thA
  omega
theorem sumZ_none (f : Nat → Nat) (k : Nat) (h : ∀ x, x < k → f x = 0) : sumTo f k = 0 := by
  have := sumK_le f 0 k fun x hx => Nat.le_of_eq (h x hx)
  omega
theorem thC_start (n s a b : Nat) : thC n s a b (b + 1) = 0 := sumZ_none _ _ fun x hx => by
  have : Nat.ble (b + 1) x = false := by cases h : Nat.ble (b + 1) x; rfl; have := Nat.le_of_ble_eq_true h; omega
  simp [this]
theorem thB_start (n s a : Nat) : thB n s a (a + 1) = 0 := sumZ_none _ _ fun x hx => by
  have : Nat.ble (a + 1) x = false := by cases h : Nat.ble (a + 1) x; rfl; have := Nat.le_of_ble_eq_true h; omega
  simp [this]
theorem thC_yes (n s a b c : Nat) (hc : b < c) (h : circB n s a b c = true) : thC n s a b (c + 1) = thC n s a b c + 1 := by
  show thC n s a b c + (if Nat.ble (b + 1) c && circB n s a b c then 1 else 0) = _
  rw [Nat.ble_eq_true_of_le hc, h]
  rfl
theorem thC_no (n s a b c : Nat) (h : circB n s a b c = false) : thC n s a b (c + 1) = thC n s a b c := by
  show thC n s a b c + (if Nat.ble (b + 1) c && circB n s a b c then 1 else 0) = _
  rw [h, Bool.and_false]
  rfl
theorem thB_step (n s a b : Nat) (hb : a < b) : thB n s a b + thC n s a b n = thB n s a (b + 1) := by
  show _ = thB n s a b + (if Nat.ble (a + 1) b then thC n s a b n else 0)
  rw [Nat.ble_eq_true_of_le hb]
  rfl
theorem thA_step (n s a : Nat) : thA n s a + thB n s a n = thA n s (a + 1) := rfl
/-- Places in two steps. -/
def twiceN (n s : Nat) : Nat := lessN (s ||| sumN n s s) 1
/-- All that is said of a play, computed. -/
def playK (n s : Nat) : Bool := !playB n s || (Nat.beq (turnN n s (-1)) (otherN n s) && (playB n (turnN n s (-1)) && (Nat.beq (24 * threeN n s) ((n + 1) * n * (n - 1)) && (Nat.beq (twiceN n s) (2 ^ n - 2) && (Nat.beq (partsN n s) 1 && (Nat.beq (mostN n s n) 2 && (!evenB n s || Nat.beq n (4 * difN n s 1 + 3))))))))
def allH (p : Nat → Bool) : Nat → Nat → Bool
  | 0, a => p a
  | k + 1, a => allH p k a && allH p k (a + 2 ^ k)
theorem allH_at (p : Nat → Bool) (k a i : Nat) (h : allH p k a = true) (h1 : a ≤ i) (h2 : i < a + 2 ^ k) : p i = true := by
  induction k generalizing a with
  | zero =>
    obtain rfl : i = a := by simp at h2; omega
    exact h
  | succ k ih =>
    have h' : (allH p k a && allH p k (a + 2 ^ k)) = true := h
    rw [Bool.and_eq_true] at h'
    rw [Nat.pow_succ] at h2
    by_cases c : i < a + 2 ^ k
    · exact ih a h'.1 h1 c
    · exact ih (a + 2 ^ k) h'.2 (by omega) (by omega)
theorem play_all : ((List.range 13).all fun n => allH (playK n) n 0) = true := by decide +kernel
theorem play_says (n s : Nat) (h2 : n ≤ 12) (hs : s < 2 ^ n) (h : playB n s = true) :
    turnN n s (-1) = otherN n s ∧ playB n (turnN n s (-1)) = true ∧ 24 * threeN n s = (n + 1) * n * (n - 1) ∧ twiceN n s = 2 ^ n - 2 ∧ partsN n s = 1 ∧ mostN n s n = 2 ∧ (evenB n s = true → n = 4 * difN n s 1 + 3) := by
  have ha := allH_at (playK n) n 0 s (List.all_eq_true.1 play_all n (List.mem_range.2 (by omega))) (Nat.zero_le _) (by omega)
  unfold playK at ha
  rw [h] at ha
  simp only [Bool.not_true, Bool.false_or, Bool.and_eq_true, nbeq_iff, Bool.or_eq_true, Bool.not_eq_true'] at ha
  obtain ⟨a, b, c, d, e, f, g⟩ := ha
  refine ⟨a, b, c, d, e, f, fun he => ?_⟩
  rcases g with g | g
  · rw [he] at g; cases g
  · exact g
end Go.Proofs.Ytaklmepioeoohaa
