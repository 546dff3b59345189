/- Differences of sets: even, thin and whole sets (promises 59 to 63). -/
import Derived.Test.YtaklmepioeoohaaDifN
import Derived.Test.YtaklmepioeoohaaFreA
namespace Go.Proofs.Ytaklmepioeoohaa
set_option linter.unusedVariables false
theorem p_even (n s : Nat) (h1 : 2 ≤ n) (h2 : n ≤ 12) (hs : s < 2 ^ n) (he : evenB n s = true) :
    difN n s 1 * (n - 1) + sizeN s = sizeN s * sizeN s ∧ evenB n (2 ^ n - 1 - s) = true ∧ difN n (2 ^ n - 1 - s) 1 + 2 * sizeN s = n + difN n s 1 := by
  have ha := ev_at n s n he
  have hr := dif_rest n s (by omega) h2 hs
  refine ⟨?_, ev_of _ _ _ fun v hv1 hv2 => ?_, dif_comp n s 1 (by omega) h2 hs⟩
  · rw [sum_same _ (difN n s 1) (n - 1) fun v hv => ?_] at hr
    · omega
    · show difN n s (v + 1) = difN n s 1
      by_cases hz : v = 0
      · subst hz; rfl
      · exact ha (v + 1) (by omega) (by omega)
  · have a := dif_comp n s v (by omega) h2 hs
    have b := dif_comp n s 1 (by omega) h2 hs
    have c := ha v hv1 hv2
    omega
/-- The least number below i, but 0, that p lets by; 0 if there is none. -/
def firstP (p : Nat → Bool) : Nat → Nat
  | 0 => 0
  | i + 1 => if firstP p i = 0 then (if p i then i else 0) else firstP p i
theorem firstP_is (p : Nat → Bool) (i : Nat) (h : firstP p i ≠ 0) : p (firstP p i) = true ∧ firstP p i < i := by
  induction i with
  | zero => exact absurd rfl h
  | succ i ih =>
    have e : firstP p (i + 1) = if firstP p i = 0 then (if p i then i else 0) else firstP p i := rfl
    rw [e] at h ⊢
    by_cases hz : firstP p i = 0
    · rw [if_pos hz] at h ⊢
      cases hp : p i
      · rw [hp] at h; exact absurd rfl h
      · exact ⟨by rw [if_pos rfl]; exact hp, by rw [if_pos rfl]; omega⟩
    · rw [if_neg hz]
      have := ih hz
      exact ⟨this.1, by omega⟩
theorem firstP_some (p : Nat → Bool) (i j : Nat) (hj : j < i) (h0 : j ≠ 0) (hp : p j = true) : firstP p i ≠ 0 := by
  induction i with
  | zero => omega
  | succ i ih =>
    have e : firstP p (i + 1) = if firstP p i = 0 then (if p i then i else 0) else firstP p i := rfl
    rw [e]
    by_cases hz : firstP p i = 0
    · rw [if_pos hz]
      by_cases hji : j = i
      · subst hji; rw [if_pos hp]; exact h0
      · exact absurd hz (ih (by omega))
    · rw [if_neg hz]; exact hz
/-- Even sets of k places. -/
def evkP (n k i : Nat) : Bool := Nat.beq (sizeN i) k && evenB n i
def findN (n k : Nat) : Nat := firstP (evkP n k) (2 ^ n)
theorem evk_iff (n k i : Nat) : evkP n k i = true ↔ sizeN i = k ∧ evenB n i = true := by
  unfold evkP
  rw [Bool.and_eq_true]
  exact ⟨fun h => ⟨Nat.eq_of_beq_eq_true h.1, h.2⟩, fun h => ⟨by rw [h.1]; exact Nat.beq_refl _, h.2⟩⟩
theorem size_zero : sizeN 0 = 0 := popF_zero 40
theorem p_find (n k : Nat) (h1 : 2 ≤ n) (h2 : n ≤ 12) (hk1 : 1 ≤ k) (hk2 : k ≤ n - 1) (hf : findN n k ≠ 0) :
    findN n k < 2 ^ n ∧ sizeN (findN n k) = k ∧ evenB n (findN n k) = true ∧ findN n (n - k) ≠ 0 := by
  obtain ⟨a, b⟩ := firstP_is _ _ hf
  obtain ⟨a1, a2⟩ := (evk_iff n k _).1 a
  refine ⟨b, a1, a2, firstP_some _ _ (2 ^ n - 1 - findN n k) (comp_lt n _) ?_ ((evk_iff n _ _).2 ⟨?_, (p_even n _ h1 h2 b a2).2.1⟩)⟩
  · intro hz
    have := comp_size n (findN n k) h2 b
    rw [hz, size_zero] at this
    have a1' : sizeN (findN n k) = k := a1
    omega
  · have := comp_size n (findN n k) h2 b
    have a1' : sizeN (findN n k) = k := a1
    show sizeN (2 ^ n - 1 - findN n k) = n - k
    omega
theorem thin_few (n s : Nat) (h1 : 1 ≤ n) (h2 : n ≤ 12) (hs : s < 2 ^ n) (ht : thinB n s = true) : sizeN s * sizeN s ≤ n - 1 + sizeN s := by
  have hr := dif_rest n s h1 h2 hs
  have := sum_most (fun d => difN n s (d + 1)) 1 (n - 1) fun v hv => th_at n s n ht (v + 1) (by omega) (by omega)
  omega
theorem thin_shift (n s : Nat) (k : Int) (h1 : 1 ≤ n) (h2 : n ≤ 12) (hs : s < 2 ^ n) (ht : thinB n s = true) : thinB n (shiftN n s k) = true :=
  th_of _ _ _ fun v hv1 hv2 => by rw [dif_shift n s v k h1 h2 hs]; exact th_at n s n ht v hv1 hv2
theorem thin_turn (n s : Nat) (h1 : 1 ≤ n) (h2 : n ≤ 12) (hs : s < 2 ^ n) (ht : thinB n s = true) : thinB n (turnN n s (-1)) = true :=
  th_of _ _ _ fun v hv1 hv2 => by rw [dif_turn n s v h1 h2 hs]; exact th_at n s n ht v hv1 hv2
def oddThin (n i : Nat) : Bool := i.testBit 0 && thinB n i
def thinM (n : Nat) : Nat := topN (oddThin n) (2 ^ n)
theorem rest_self0 (n v : Nat) (h1 : 1 ≤ n) (hv : v < n) : rest n ((0 : Int) - (-(v : Int))) = v := by
  rw [show (0 : Int) - (-(v : Int)) = (v : Int) by omega]
  exact rest_self n v hv
theorem thin_most (n s : Nat) (h1 : 1 ≤ n) (h2 : n ≤ 12) (hs : s < 2 ^ n) (ht : thinB n s = true) : sizeN s ≤ thinM n := by
  by_cases hz : s = 0
  · subst hz; rw [size_zero]; exact Nat.zero_le _
  · obtain ⟨v, hv⟩ := some_bit s hz
    have hvn := lt_of_bits n s hs v hv
    rw [← size_shift n s (-(v : Int)) h1 h2 hs]
    refine top_ub _ _ _ (shiftN_lt n s _) ?_
    unfold oddThin
    rw [thin_shift n s _ h1 h2 hs ht, Bool.and_true]
    have := shift_mem n s (-(v : Int)) h1 hs 0 (by omega)
    rw [show (((0 : Nat) : Int) - (-(v : Int))) = (0 : Int) - (-(v : Int)) from rfl, rest_self0 n v h1 hvn, hv] at this
    exact this
/-- Whether each place is a difference. -/
def wholeP (n i : Nat) : Bool := Nat.beq (sumN n (turnN n i (-1)) i) (2 ^ n - 1)
def oddWhole (n i : Nat) : Bool := i.testBit 0 && wholeP n i
def wholeM (n : Nat) : Nat := lowN (oddWhole n) n (2 ^ n)
theorem minus_dif (n s d : Nat) (h1 : 1 ≤ n) (h2 : n ≤ 12) (hs : s < 2 ^ n) (hd : d < n) : (sumN n (turnN n s (-1)) s).testBit d = true ↔ 1 ≤ difN n s d := by
  rw [sum_comm n _ s h1 (turnN_lt n s _ h1) hs, minus_bit n s s d h1 hs]
  constructor
  · rintro ⟨v, w, hv, hbv, hw, hbw, e⟩
    refine size_pos _ (Nat.lt_of_lt_of_le (and_lt _ hs) (Nat.pow_le_pow_right (by omega) (by omega))) fun hz => ?_
    have : (s &&& shiftN n s (d : Int)).testBit w = true := by
      rw [Nat.testBit_and, hbw, shift_mem n s (d : Int) h1 hs w hw, Bool.true_and, ← (rest_swap n w v d h1 h2 hv hd).1 e]
      exact hbv
    rw [hz, Nat.zero_testBit] at this
    cases this
  · intro h
    obtain ⟨w, hw⟩ := some_bit (s &&& shiftN n s (d : Int)) (fun hz => by
      have : difN n s d = 0 := by unfold difN; rw [hz]; exact size_zero
      omega)
    rw [Nat.testBit_and, Bool.and_eq_true] at hw
    have hwn := lt_of_bits n s hs w hw.1
    have h3 := hw.2
    rw [shift_mem n s (d : Int) h1 hs w hwn] at h3
    have hr := rest_lt n ((w : Int) - (d : Int)) h1
    exact ⟨_, w, hr, h3, hwn, hw.1, (rest_swap n w _ d h1 h2 hr hd).2 rfl⟩
theorem whole_iff (n s : Nat) (h1 : 1 ≤ n) (h2 : n ≤ 12) (hs : s < 2 ^ n) : wholeP n s = true ↔ ∀ d, d < n → 1 ≤ difN n s d := by
  unfold wholeP
  constructor
  · intro h d hd
    refine (minus_dif n s d h1 h2 hs hd).1 ?_
    rw [Nat.eq_of_beq_eq_true h, Nat.testBit_two_pow_sub_one]
    exact decide_eq_true hd
  · intro h
    have e : sumN n (turnN n s (-1)) s = 2 ^ n - 1 := ext_bits (sumN_lt n _ _) (by have := Nat.two_pow_pos n; omega) fun v hv => by
      rw [(minus_dif n s v h1 h2 hs hv).2 (h v hv), Nat.testBit_two_pow_sub_one]
      exact (decide_eq_true hv).symm
    rw [e]
    exact Nat.beq_refl _
theorem whole_many (n s : Nat) (h1 : 1 ≤ n) (h2 : n ≤ 12) (hs : s < 2 ^ n) (hw : wholeP n s = true) : n - 1 + sizeN s ≤ sizeN s * sizeN s := by
  have hr := dif_rest n s h1 h2 hs
  have ha := (whole_iff n s h1 h2 hs).1 hw
  have := sum_least (fun d => difN n s (d + 1)) 1 (n - 1) fun v hv => ha (v + 1) (by omega)
  omega
theorem sum_tight (f : Nat → Nat) (k : Nat) (h : ∀ v, v < k → f v ≤ 1) (he : sumTo f k = k) : ∀ v, v < k → f v = 1 := by
  induction k with
  | zero => intro v hv; omega
  | succ k ih =>
    have e : sumTo f (k + 1) = sumTo f k + f k := rfl
    rw [e] at he
    have a := sum_most f 1 k fun v hv => h v (by omega)
    have b := h k (by omega)
    intro v hv
    by_cases hk : v = k
    · subst hk; omega
    · exact ih (fun v hv => h v (by omega)) (by omega) v (by omega)
theorem sq_lt : ∀ a, a < 13 → ∀ b, b < a → a * a + b ≤ b * b + a → a = 1 := by decide
theorem thinM_at (n : Nat) (h1 : 1 ≤ n) (h2 : n ≤ 12) : ∃ i, i < 2 ^ n ∧ i.testBit 0 = true ∧ thinB n i = true ∧ sizeN i = thinM n ∧ 1 ≤ thinM n := by
  have h0 : (1 : Nat) < 2 ^ n := by have := Nat.pow_le_pow_right (n := 2) (by omega) h1; omega
  have t1 : thinB n 1 = true := th_of _ _ _ fun v hv1 hv2 => by
    unfold difN
    have hle := sizeN_le 1 (1 &&& shiftN n 1 (v : Int)) (by omega) (Nat.lt_of_le_of_lt Nat.and_le_left (by omega))
    exact hle
  have h3 : 1 ≤ thinM n := by
    have := top_ub (oddThin n) (2 ^ n) 1 h0 (by unfold oddThin; rw [t1]; rfl)
    have e : sizeN 1 = 1 := by decide
    rw [e] at this
    exact this
  rcases top_at (oddThin n) (2 ^ n) with h | ⟨i, hi, hp, he⟩
  · have : thinM n = 0 := h
    omega
  · unfold oddThin at hp
    rw [Bool.and_eq_true] at hp
    exact ⟨i, hi, hp.1, hp.2, he, h3⟩
theorem wholeM_many (n : Nat) (h1 : 1 ≤ n) (h2 : n ≤ 12) : n - 1 + wholeM n ≤ wholeM n * wholeM n := by
  rcases low_at (oddWhole n) n (2 ^ n) with h | ⟨i, hi, hp, he⟩
  · have e : wholeM n = n := h
    rw [e]
    have : n * n = n * (n - 1) + n := by
      obtain ⟨m, rfl⟩ : ∃ m, n = m + 1 := ⟨n - 1, by omega⟩
      rw [Nat.add_sub_cancel, ← Nat.mul_succ]
    have h3 : n - 1 ≤ n * (n - 1) := by
      have := Nat.mul_le_mul_right (n - 1) h1
      omega
    omega
  · unfold oddWhole at hp
    rw [Bool.and_eq_true] at hp
    have := whole_many n i h1 h2 hi hp.2
    rw [he] at this
    exact this
theorem p_thinMost (n : Nat) (h1 : 1 ≤ n) (h2 : n ≤ 12) : 1 ≤ thinM n ∧ thinM n * thinM n ≤ n - 1 + thinM n ∧ (thinM n * thinM n = n - 1 + thinM n → thinM n = wholeM n) := by
  obtain ⟨i, hi, hb, ht, he, h3⟩ := thinM_at n h1 h2
  have hf := thin_few n i h1 h2 hi ht
  rw [he] at hf
  refine ⟨h3, hf, fun hx => ?_⟩
  have hr := dif_rest n i h1 h2 hi
  rw [he] at hr
  have hone := sum_tight (fun d => difN n i (d + 1)) (n - 1) (fun v hv => th_at n i n ht (v + 1) (by omega) (by omega)) (by omega)
  have hw : wholeP n i = true := (whole_iff n i h1 h2 hi).2 fun d hd => by
    by_cases hz : d = 0
    · subst hz
      rw [dif_zero n i h1 hi, he]; exact h3
    · have := hone (d - 1) (by omega)
      have this : difN n i (d - 1 + 1) = 1 := this
      rw [show d - 1 + 1 = d by omega] at this
      omega
  have hle : wholeM n ≤ thinM n := by
    have := low_lb (oddWhole n) n (2 ^ n) i hi (by unfold oddWhole; rw [hb, hw]; rfl)
    rw [he] at this
    exact this
  have hm := wholeM_many n h1 h2
  by_cases hlt : wholeM n < thinM n
  · have hn12 : thinM n ≤ 12 := by have := top_le (oddThin n) (2 ^ n) n h2 (Nat.le_refl _); exact Nat.le_trans this h2
    have hone0 := sq_lt (thinM n) (by omega) (wholeM n) hlt (by omega)
    rw [hone0] at hx hlt
    obtain rfl : n = 1 := by omega
    have h5 : thinM 1 ≤ 1 := top_le (oddThin 1) (2 ^ 1) 1 (by omega) (Nat.le_refl _)
    have h6 : wholeM 1 = 0 := by omega
    rcases low_at (oddWhole 1) 1 (2 ^ 1) with h | ⟨j, hj, hp, hje⟩
    · have : wholeM 1 = 1 := h
      omega
    · unfold oddWhole at hp
      rw [Bool.and_eq_true] at hp
      have h7 : sizeN j = wholeM 1 := hje
      have := size_pos j (by omega) (bit_ne hp.1)
      omega
  · omega
def halfWhole : Bool := (List.range 13).all fun n => Nat.beq n 0 || (Nat.blt (2 ^ (n / 2 + 1) - 1) (2 ^ n) && (wholeP n (2 ^ (n / 2 + 1) - 1) && Nat.beq (sizeN (2 ^ (n / 2 + 1) - 1)) (n / 2 + 1)))
theorem half_all : halfWhole = true := by decide +kernel
theorem p_whole (n : Nat) (h1 : 1 ≤ n) (h2 : n ≤ 12) : n - 1 + wholeM n ≤ wholeM n * wholeM n ∧ 2 * wholeM n ≤ n + 2 := by
  refine ⟨wholeM_many n h1 h2, ?_⟩
  have h := List.all_eq_true.1 half_all n (List.mem_range.2 (by omega))
  rcases (Bool.or_eq_true _ _).mp h with c | c
  · have := Nat.eq_of_beq_eq_true c; omega
  · rw [Bool.and_eq_true, Bool.and_eq_true] at c
    have hb : (2 ^ (n / 2 + 1) - 1).testBit 0 = true := by rw [Nat.testBit_two_pow_sub_one]; exact decide_eq_true (by omega)
    have := low_lb (oddWhole n) n (2 ^ n) (2 ^ (n / 2 + 1) - 1) ((blt_iff _ _).1 c.1) (by unfold oddWhole; rw [hb, c.2.1]; rfl)
    rw [Nat.eq_of_beq_eq_true c.2.2] at this
    have h3 : wholeM n ≤ n / 2 + 1 := this
    omega
end Go.Proofs.Ytaklmepioeoohaa
