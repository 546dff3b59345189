/- Distances, their greatest one, their sum, layers and words: what the promises say of them. -/
import Derived.Test.YtnlalccnhpblkaaGreatFarK
import Derived.Test.YtnlalccnhpblkaaGreatGF
import Derived.Test.YtnlalccnhpblkaaGreatGD
import Derived.Test.YtnlalccnhpblkaaGreatStepQ
import Derived.Test.YtnlalccnhpblkaaGreatSame
import Derived.Test.YtnlalccnhpblkaaGreatItr
namespace Go.Proofs.YtnlalccnhpblkaaGreat
open Go.RowKit
set_option linter.unusedVariables false
theorem dist_of_part (n s v : Nat) (h : (partN n s).testBit v = true) : distN n s v = (farN n s v : Int) := by unfold distN; rw [h]; rfl
theorem dist_of_not (n s v : Nat) (h : (partN n s).testBit v = false) : distN n s v = -1 := by unfold distN; rw [h]; rfl
theorem dist_neg (n s v : Nat) : decide (distN n s v < 0) = !(partN n s).testBit v := by
  cases h : (partN n s).testBit v
  · rw [dist_of_not n s v h]; simp
  · rw [dist_of_part n s v h]; simp
theorem far_lt (n s v : Nat) (h1 : 1 ≤ n) (h2 : n ≤ 12) (hs : s < 2 ^ n) (hp : (partN n s).testBit v = true) : farN n s v < n := by
  rcases Nat.lt_or_ge (farN n s v) n with h | h
  · exact h
  · exfalso
    have he : farN n s v = n := by have := far_le n s v; omega
    have hno : (iterN n s (n - 1)).testBit v = false := by
      cases hb : (iterN n s (n - 1)).testBit v
      · rfl
      · have := (far_iff n s v (n - 1) (by omega)).1 hb; omega
    rw [← iter_part n s h1 h2 hs] at hp
    have hl := last_bit n s (n - 1) v h1 hs
    rw [show n - 1 + 1 = n by omega, hp, hno] at hl
    have hne : lastN n s n ≠ 0 := fun e => by rw [e, Nat.zero_testBit] at hl; cases hl
    have := last_le n s n h1 h2 hs hne
    omega
/-- The triangle. -/
theorem dist_add (n s v w : Nat) (h1 : 1 ≤ n) (h2 : n ≤ 12) (hs : s < 2 ^ n) (hv : v < n) (hw : w < n) (hdv : 0 ≤ distN n s v) (hdw : 0 ≤ distN n s w) : distN n s ((v + w) % n) ≤ distN n s v + distN n s w := by
  have pv : (partN n s).testBit v = true := by
    cases h : (partN n s).testBit v
    · rw [dist_of_not n s v h] at hdv; omega
    · rfl
  have pw : (partN n s).testBit w = true := by
    cases h : (partN n s).testBit w
    · rw [dist_of_not n s w h] at hdw; omega
    · rfl
  rw [dist_of_part n s v pv, dist_of_part n s w pw]
  have lv := far_lt n s v h1 h2 hs pv
  have lw := far_lt n s w h1 h2 hs pw
  have hb := iter_add n s _ _ v w h1 hs hv hw ((far_iff n s v _ lv).2 (Nat.le_refl _)) ((far_iff n s w _ lw).2 (Nat.le_refl _))
  cases h : (partN n s).testBit ((v + w) % n)
  · rw [dist_of_not _ _ _ h]; omega
  · rw [dist_of_part _ _ _ h]
    have hl := far_lt n s _ h1 h2 hs h
    by_cases c : farN n s v + farN n s w < n
    · have := (far_iff n s _ _ c).1 hb
      omega
    · omega
theorem most_lt (n s : Nat) (h1 : 1 ≤ n) (h2 : n ≤ 12) (hs : s < 2 ^ n) : mostN n s n < n := by
  rcases (most_is n s n).met with h | ⟨v, hv, e⟩
  · omega
  · rw [Bool.and_eq_true] at hv
    have := far_lt n s v h1 h2 hs hv.1
    omega
theorem sum_mono (n s t x y : Nat) (h1 : 1 ≤ n) (hs : s < 2 ^ n) (ht : t < 2 ^ n) (hst : ∀ i, s.testBit i = true → t.testBit i = true) (hxy : ∀ i, x.testBit i = true → y.testBit i = true) (i : Nat) (h : (sumN n s x).testBit i = true) : (sumN n t y).testBit i = true := by
  obtain ⟨u, k, hu, hub, hk, hkb, e⟩ := (sumN_bit n s x i h1 hs).1 h
  exact (sumN_bit n t y i h1 ht).2 ⟨u, k, hu, hxy u hub, hk, hst k hkb, e⟩
theorem iter_sub (n s t d : Nat) (h1 : 1 ≤ n) (hs : s < 2 ^ n) (ht : t < 2 ^ n) (hst : ∀ i, s.testBit i = true → t.testBit i = true) : ∀ i, (iterN n s d).testBit i = true → (iterN n t d).testBit i = true := by
  induction d with
  | zero => exact fun i h => h
  | succ d ih =>
    intro i h
    rw [iter_up, Nat.testBit_or, Bool.or_eq_true] at h ⊢
    rcases h with h | h
    · exact .inl (ih i h)
    · exact .inr (sum_mono n s t _ _ h1 hs ht hst ih i h)
theorem far_sub (n s t v : Nat) (h1 : 1 ≤ n) (hs : s < 2 ^ n) (ht : t < 2 ^ n) (hst : ∀ i, s.testBit i = true → t.testBit i = true) : farN n t v ≤ farN n s v := by
  rcases Nat.lt_or_ge (farN n s v) n with h | h
  · exact (far_iff n t v _ h).1 (iter_sub n s t _ h1 hs ht hst v ((far_iff n s v _ h).2 (Nat.le_refl _)))
  · have := far_le n t v; omega
theorem part_full (n s v : Nat) (h1 : 1 ≤ n) (hp : partsN n s = 1) (hv : v < n) : (partN n s).testBit v = true := by
  rw [part_bit n s v h1, hp]; exact ⟨hv, Nat.one_dvd v⟩
theorem most_both (n s : Nat) (h1 : 1 ≤ n) (h2 : n ≤ 12) (hs : s < 2 ^ n) (hp : partsN n s = 1) : mostN n (bothN n s) n ≤ mostN n s n := by
  have hb := bothN_lt n s h1 hs
  rcases (most_is n (bothN n s) n).met with h | ⟨v, hv, e⟩
  · omega
  · simp only [Bool.and_eq_true, decide_eq_true_eq] at hv
    have h3 := far_sub n s (bothN n s) v h1 hs hb (fun i hi => by unfold bothN; rw [Nat.testBit_or, hi, Bool.true_or])
    have h4 := (most_is n s n).le v (by simp only [Bool.and_eq_true, decide_eq_true_eq]; exact ⟨part_full n s v h1 hp hv.2, hv.2⟩)
    omega
/-- Places of the distance 1 are the steps. -/
theorem far_one (n s v : Nat) (hn : 1 < n) (hs : s < 2 ^ n) : farN n s v ≤ 1 ↔ v = 0 ∨ s.testBit v = true := by
  rw [← far_iff n s v 1 hn, iter_one n s (by omega) hs, Nat.testBit_or, Bool.or_eq_true]
  constructor
  · rintro (h | h)
    · left
      by_cases c : v = 0
      · exact c
      · rw [Nat.testBit_lt_two_pow (Nat.one_lt_two_pow c)] at h; cases h
    · exact .inr h
  · rintro (h | h)
    · subst h; exact .inl rfl
    · exact .inr h
theorem far_none (n s v : Nat) (h1 : 1 ≤ n) : farN n s v = 0 ↔ v = 0 := by
  constructor
  · intro h
    have hb := (far_iff n s v 0 (by omega)).2 (by omega)
    by_cases c : v = 0
    · exact c
    · rw [show iterN n s 0 = 1 from rfl, Nat.testBit_lt_two_pow (Nat.one_lt_two_pow c)] at hb; cases hb
  · intro h
    subst h
    have := (far_iff n s 0 0 (by omega)).1 (show Nat.testBit 1 0 = true from rfl)
    omega
theorem step_part (n s v : Nat) (h1 : 1 ≤ n) (hs : s < 2 ^ n) (hv : s.testBit v = true) : (partN n s).testBit v = true := by
  have hvn := lt_of_bits n s hs v hv
  rw [part_bit n s v h1]
  exact ⟨hvn, parts_dvd_step n s n v hvn hv⟩
theorem part_zero (n s : Nat) (h1 : 1 ≤ n) : (partN n s).testBit 0 = true := by
  rw [part_bit n s 0 h1]; exact ⟨h1, Nat.dvd_zero _⟩
theorem dist_is_one (n s v : Nat) (h1 : 1 ≤ n) (hs : s < 2 ^ n) (h0 : s.testBit 0 = false) (hv : v < n) : distN n s v = 1 ↔ s.testBit v = true := by
  constructor
  · intro h
    have hp := part_of n s v 1 h
    rw [dist_of_part n s v hp] at h
    have hn : 1 < n := by
      rcases Nat.lt_or_ge 1 n with c | c
      · exact c
      · have hv0 : v = 0 := by omega
        have := (far_none n s v h1).2 hv0
        omega
    rcases (far_one n s v hn hs).1 (by omega) with e | e
    · have := (far_none n s v h1).2 e; omega
    · exact e
  · intro h
    have hv0 : v ≠ 0 := fun e => by rw [e, h0] at h; cases h
    rw [dist_of_part n s v (step_part n s v h1 hs h)]
    have a := (far_one n s v (by omega) hs).2 (.inr h)
    have b : farN n s v ≠ 0 := fun e => hv0 ((far_none n s v h1).1 e)
    omega
theorem lay_zero (n s : Nat) (h1 : 1 ≤ n) : layN n s n 0 = 1 := by
  unfold layN
  have e := sumTo_one (fun _ => 0) (fun v => b2n (distN n s v == ((0 : Nat) : Int))) 0 n (fun u hu => ?_) rfl
  · rw [e, sumTo_none, if_pos (show 0 < n by omega)]
    have : distN n s 0 = 0 := by rw [dist_of_part n s 0 (part_zero n s h1), (far_none n s 0 h1).2 rfl]; rfl
    rw [this]; rfl
  · have : ¬ distN n s u = 0 := fun h => hu (dist_none n s u h1 h)
    simp [b2n, this]
theorem lay_one (n s : Nat) (h1 : 1 ≤ n) (h2 : n ≤ 12) (hs : s < 2 ^ n) (h0 : s.testBit 0 = false) : layN n s n 1 = sizeN s := by
  rw [size_sum n s h2 hs]
  unfold layN
  refine sumTo_congr _ _ _ fun v hv => ?_
  congr 1
  rw [Bool.eq_iff_iff, beq_iff_eq]
  exact dist_is_one n s v h1 hs h0 hv
theorem most_step (n s : Nat) (h1 : 1 ≤ n) (hs : s < 2 ^ n) (h0 : s.testBit 0 = false) : 0 < mostN n s n ↔ s ≠ 0 := by
  constructor
  · intro h e
    subst e
    rcases (most_is n 0 n).met with c | ⟨v, hv, e⟩
    · omega
    · simp only [Bool.and_eq_true, decide_eq_true_eq] at hv
      have hpz := ((part_bit n 0 v h1).1 hv.1).2
      have hpn : partsN n 0 = n := over_zero _ _ _
      rw [hpn] at hpz
      have : v = 0 := Nat.eq_zero_of_dvd_of_lt hpz hv.2
      rw [(far_none n 0 v h1).2 this] at e
      omega
  · intro h
    obtain ⟨v, hv⟩ := some_bit s h
    have hvn := lt_of_bits n s hs v hv
    have hle := (most_is n s n).le v (by simp only [Bool.and_eq_true, decide_eq_true_eq]; exact ⟨step_part n s v h1 hs hv, hvn⟩)
    have hv0 : v ≠ 0 := fun e => by rw [e, h0] at hv; cases hv
    have : farN n s v ≠ 0 := fun e => hv0 ((far_none n s v h1).1 e)
    omega
theorem sum_point (c m : Nat) (g : Nat → Nat) : sumTo (fun d => g d * b2n (c == d)) m = if c < m then g c else 0 := by
  have e := sumTo_one (fun _ => 0) (fun d => g d * b2n (c == d)) c m (fun u hu => by simp [b2n, show ¬ c = u from fun h => hu h.symm]) rfl
  rw [e, sumTo_none]
  simp [b2n]
theorem lay_sum (n s m : Nat) (g : Nat → Nat) (hm : ∀ v, v < n → (partN n s).testBit v = true → farN n s v < m) : sumTo (fun d => g d * layN n s n d) m = sumTo (fun v => if (partN n s).testBit v then g (farN n s v) else 0) n := by
  have e1 : sumTo (fun d => g d * layN n s n d) m = sumTo (fun d => sumTo (fun v => g d * b2n (distN n s v == (d : Int))) n) m :=
    sumTo_congr _ _ _ fun d hd => (sumTo_mul (g d) _ n).symm
  rw [e1, sumTo_swap]
  refine sumTo_congr _ _ _ fun v hv => ?_
  cases hb : (partN n s).testBit v
  · have : ∀ d : Nat, (distN n s v == (d : Int)) = false := fun d => by rw [dist_of_not n s v hb]; simp
    rw [sumTo_congr _ (fun _ => 0) m (fun d hd => by rw [this d]; rfl), sumTo_none]
    rfl
  · have : ∀ d : Nat, (distN n s v == (d : Int)) = (farN n s v == d) := fun d => by
      rw [dist_of_part n s v hb, Bool.eq_iff_iff, beq_iff_eq, beq_iff_eq]; omega
    rw [sumTo_congr _ (fun d => g d * b2n (farN n s v == d)) m (fun d hd => by rw [this d]), sum_point, if_pos (hm v hv hb)]
    rfl
theorem lay_total (n s : Nat) (h1 : 1 ≤ n) (h2 : n ≤ 12) : sumTo (fun d => layN n s n d) (mostN n s n + 1) = sizeN (partN n s) := by
  have h := lay_sum n s (mostN n s n + 1) (fun _ => 1) (fun v hv hb => by
    have := (most_is n s n).le v (by simp only [Bool.and_eq_true, decide_eq_true_eq]; exact ⟨hb, hv⟩)
    omega)
  rw [sumTo_congr _ (fun d => 1 * layN n s n d) _ (fun d _ => (Nat.one_mul _).symm), h, size_sum n _ h2 (partF_lt n s h1)]
  refine sumTo_congr _ _ _ fun v hv => ?_
  cases (partN n s).testBit v <;> rfl
/-- The sum of all distances. -/
def allN (n s : Nat) : Nat := sumTo (farN n s) n
theorem lay_weighed (n s : Nat) (h1 : 1 ≤ n) (hp : partsN n s = 1) : sumTo (fun d => d * layN n s n d) (mostN n s n + 1) = allN n s := by
  have h := lay_sum n s (mostN n s n + 1) (fun d => d) (fun v hv hb => by
    have := (most_is n s n).le v (by simp only [Bool.and_eq_true, decide_eq_true_eq]; exact ⟨hb, hv⟩)
    omega)
  rw [h]
  exact sumTo_congr _ _ _ fun v hv => by rw [part_full n s v h1 hp hv]; rfl
theorem sum_all (n s : Nat) (h1 : 1 ≤ n) (hp : partsN n s = 1) : farSumN n s n = ((allN n s : Nat) : Int) := by
  rw [sum_eq n s n h1 hp (Nat.le_refl n)]
  congr 1
  exact sumTo_congr _ _ _ fun v hv => by rw [part_full n s v h1 hp hv, Nat.zero_testBit]; rfl
theorem sumTo_const (c k : Nat) : sumTo (fun _ => c) k = c * k := by
  induction k with
  | zero => rfl
  | succ k ih =>
    show sumTo (fun _ => c) k + c = c * (k + 1)
    rw [ih, Nat.mul_succ]
theorem sumTo_ge (f g : Nat → Nat) (k : Nat) (h : ∀ v, v < k → f v ≤ g v) : sumTo f k ≤ sumTo g k := by
  induction k with
  | zero => exact Nat.le_refl _
  | succ k ih =>
    have := ih (fun v hv => h v (by omega))
    have := h k (by omega)
    show sumTo f k + f k ≤ sumTo g k + g k
    omega
theorem all_facts (n s : Nat) (h1 : 1 ≤ n) (h2 : n ≤ 12) (hs : s < 2 ^ n) (h0 : s.testBit 0 = false) : 2 * n ≤ allN n s + sizeN s + 2 ∧ sizeN s + 1 ≤ n ∧ (sizeN s + 1 = n → allN n s + 1 ≤ n) ∧ n ≤ allN n s + 1 := by
  have hz : sumTo (fun v => b2n (v == 0)) n = 1 := by
    have e := sumTo_one (fun _ => 0) (fun v => b2n (v == 0)) 0 n (fun u hu => by simp [b2n, hu]) rfl
    rw [e, sumTo_none, if_pos (show 0 < n by omega)]; rfl
  have hfar : ∀ v, v < n → v ≠ 0 → 1 ≤ farN n s v ∧ (s.testBit v = false → 2 ≤ farN n s v) ∧ (s.testBit v = true → farN n s v = 1) := fun v hv hv0 => by
    have a : farN n s v ≠ 0 := fun e => hv0 ((far_none n s v h1).1 e)
    have b := far_one n s v (by omega) hs
    refine ⟨by omega, fun hb => ?_, fun hb => ?_⟩
    · rcases Nat.lt_or_ge 1 (farN n s v) with c | c
      · omega
      · rcases b.1 c with e | e
        · exact absurd e hv0
        · rw [hb] at e; cases e
    · have := b.2 (.inr hb); omega
  have hsz := size_sum n s h2 hs
  have hso := other_size n s h1 h2 hs h0
  refine ⟨?_, by omega, fun he => ?_, ?_⟩
  · have h := sumTo_ge (fun _ => 2) (fun v => (farN n s v + b2n (s.testBit v)) + 2 * b2n (v == 0)) n (fun v hv => by
      by_cases e : v = 0
      · subst e; simp [b2n]
      · have hf := hfar v hv e
        cases hb : s.testBit v
        · have := hf.2.1 hb; simp [b2n, e]; omega
        · have := hf.1; simp [b2n, e]; omega)
    rw [sumTo_const, sumTo_add, sumTo_add, sumTo_mul, hz, ← hsz] at h
    show 2 * n ≤ sumTo (farN n s) n + sizeN s + 2
    omega
  · have hall : ∀ v, v < n → v ≠ 0 → s.testBit v = true := fun v hv hv0 => by
      cases hb : s.testBit v
      · exfalso
        have h := sumTo_ge (fun u => b2n (s.testBit u) + (b2n (u == 0) + b2n (u == v))) (fun _ => 1) n (fun u hu => by
          by_cases e : u = 0
          · subst e; rw [h0]; simp [b2n, show ¬ (0 = v) from fun h => hv0 h.symm]
          · by_cases e2 : u = v
            · subst e2; rw [hb]; simp [b2n, e]
            · simp [b2n, e, e2]; split <;> omega)
        have hvz : sumTo (fun u => b2n (u == v)) n = 1 := by
          have e := sumTo_one (fun _ => 0) (fun u => b2n (u == v)) v n (fun u hu => by simp [b2n, hu]) rfl
          rw [e, sumTo_none, if_pos hv]; simp [b2n]
        rw [sumTo_const, sumTo_add, sumTo_add, hz, hvz, ← hsz] at h
        omega
      · rfl
    have h := sumTo_ge (fun v => farN n s v + b2n (v == 0)) (fun _ => 1) n (fun v hv => by
      by_cases e : v = 0
      · subst e; rw [(far_none n s 0 h1).2 rfl]; simp [b2n]
      · have := (hfar v hv e).2.2 (hall v hv e); simp [b2n, e, this])
    rw [sumTo_const, sumTo_add, hz] at h
    show sumTo (farN n s) n + 1 ≤ n
    omega
  · have h := sumTo_ge (fun _ => 1) (fun v => farN n s v + b2n (v == 0)) n (fun v hv => by
      by_cases e : v = 0
      · subst e; simp [b2n]
      · have := (hfar v hv e).1; simp [b2n, e]; omega)
    rw [sumTo_const, sumTo_add, hz] at h
    show n ≤ sumTo (farN n s) n + 1
    omega
theorem seek_first (p : Nat → Bool) (f k y : Nat) (hk : k ≤ y) (hf : y < k + f) (hy : p y = true) : seekN p f k ≤ y := by
  induction f generalizing k with
  | zero => omega
  | succ f ih =>
    by_cases c : p k = true
    · rw [seek_yes p _ k c]; exact hk
    · have c' : p k = false := by simpa using c
      rw [seek_no p f k c']
      have hne : k ≠ y := fun e => c (by rw [e]; exact hy)
      exact ih (k + 1) (by omega) (by omega)
/-- The steps of a word: each is one of the steps, and none is less than the one ahead of it. -/
theorem word_steps (n s d v : Nat) (h1 : 1 ≤ n) (h2 : n ≤ 12) (hs : s < 2 ^ n) (h0 : s.testBit 0 = false) (hv : v < n) (hd : distN n s v = (d : Int)) :
    (∀ i, i < d → ∃ k : Nat, (wordN n s d v).getD i 0 = (k : Int) ∧ k < n ∧ s.testBit k = true ∧ nearK n s (d - 1) v ≤ k) ∧ (∀ i, i + 1 < d → (wordN n s d v).getD i 0 ≤ (wordN n s d v).getD (i + 1) 0) ∧ sumL (wordN n s d v) d % n = v := by
  induction d generalizing v with
  | zero =>
    refine ⟨fun i hi => by omega, fun i hi => by omega, ?_⟩
    have := dist_none n s v h1 hd
    subst this
    exact Nat.zero_mod n
  | succ d ih =>
    have hk := near_suits n s v d h1 h2 hs h0 hd
    obtain ⟨k, hkk⟩ : ∃ k, nearK n s d v = k := ⟨_, rfl⟩
    rw [hkk] at hk
    obtain ⟨hl, hk1, hkn⟩ := hk
    have hl' := hl
    unfold leadP at hl'
    rw [Bool.and_eq_true, beq_iff_eq] at hl'
    have hz := rest_lt n ((v : Int) - (k : Int)) h1
    have hback := back_arc n v k h1 hv hkn
    have hstay : ∀ y, y < n → s.testBit y = true → nearB n s v y = false → nearB n s (rest n ((v : Int) - (k : Int))) y = false := fun y hy hyb hn => near_stays n s v k y d h1 h2 hs hv hd hl'.1 hkn hyb hy hl hn
    obtain ⟨z, hze⟩ : ∃ z, rest n ((v : Int) - (k : Int)) = z := ⟨_, rfl⟩
    rw [hze] at hl' hz hback hstay
    have hw : wordN n s (d + 1) v = (k : Int) :: wordN n s d z := by
      show (nearK n s d v : Int) :: wordN n s d (rest n ((v : Int) - (nearK n s d v : Int))) = _
      rw [hkk, hze]
    obtain ⟨i1, i2, i3⟩ := ih z hz hl'.2
    -- the next least step is not less
    have hnext : ∀ e, d = e + 1 → k ≤ nearK n s e z := fun e he => by
      subst he
      have hs2 := near_suits n s z e h1 h2 hs h0 hl'.2
      rcases Nat.lt_or_ge (nearK n s e z) k with c | c
      · exfalso
        have hls := hs2.1
        have hb2 : s.testBit (nearK n s e z) = true := by
          have := hls
          unfold leadP at this
          rw [Bool.and_eq_true] at this
          exact this.1
        have hpz := part_of n s z _ hl'.2
        have hpv := part_of n s v _ hd
        have hyes : nearB n s z (nearK n s e z) = true := by rw [near_lead n s z _ e h1 hpz hb2 hs2.2.2 hl'.2]; exact hls
        have hnov : nearB n s v (nearK n s e z) = false := by
          rw [near_lead n s v _ (e + 1) h1 hpv hb2 hs2.2.2 hd]
          cases hq : leadP n s (e + 1) v (nearK n s e z)
          · rfl
          · exfalso
            have hseek := seek_first (leadP n s (e + 1) v) (n - 1) 1 (nearK n s e z) hs2.2.1 (by have := hs2.2.2; omega) hq
            have : nearK n s (e + 1) v ≤ nearK n s e z := hseek
            omega
        rw [hstay _ hs2.2.2 hb2 hnov] at hyes
        cases hyes
      · exact c
    refine ⟨fun i hi => ?_, fun i hi => ?_, ?_⟩
    · rw [hw]
      cases i with
      | zero => exact ⟨k, rfl, hkn, hl'.1, by rw [show d + 1 - 1 = d by omega, hkk]; exact Nat.le_refl _⟩
      | succ i =>
        obtain ⟨k', e1, e2, e3, e4⟩ := i1 i (by omega)
        refine ⟨k', ?_, e2, e3, ?_⟩
        · simpa using e1
        · rw [show d + 1 - 1 = d by omega, hkk]
          have := hnext (d - 1) (by omega)
          omega
    · rw [hw]
      cases i with
      | zero =>
        obtain ⟨k', e1, e2, e3, e4⟩ := i1 0 (by omega)
        have := hnext (d - 1) (by omega)
        simp only [List.getD_cons_zero, List.getD_cons_succ]
        rw [e1]
        omega
      | succ i =>
        have := i2 i (by omega)
        simpa using this
    · rw [hw]
      have e : sumL ((k : Int) :: wordN n s d z) (d + 1) = k + sumL (wordN n s d z) d := by
        unfold sumL
        have hcons : ∀ j, sumTo (fun i => (((k : Int) :: wordN n s d z).getD i 0).toNat) (j + 1) = k + sumTo (fun i => ((wordN n s d z).getD i 0).toNat) j := by
          intro j
          induction j with
          | zero => show 0 + (k : Int).toNat = k + 0; simp
          | succ j ih =>
            have e1 : sumTo (fun i => (((k : Int) :: wordN n s d z).getD i 0).toNat) (j + 1 + 1) = sumTo (fun i => (((k : Int) :: wordN n s d z).getD i 0).toNat) (j + 1) + ((wordN n s d z).getD j 0).toNat := rfl
            have e2 : sumTo (fun i => ((wordN n s d z).getD i 0).toNat) (j + 1) = sumTo (fun i => ((wordN n s d z).getD i 0).toNat) j + ((wordN n s d z).getD j 0).toNat := rfl
            rw [e1, e2, ih]
            omega
        exact hcons d
      rw [e, Nat.add_mod, i3]
      have hkm : k % n = k := Nat.mod_eq_of_lt hkn
      rw [hkm, Nat.add_comm]
      exact hback
end Go.Proofs.YtnlalccnhpblkaaGreat
