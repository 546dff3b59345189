/- Kneser's inequality on rings of at most 12 places: what was computed says it. -/
import Derived.Test.YthccchelemnnfaaKneserF
import Derived.Test.YthccchelemnnfaaKneserE
import Derived.Test.YthccchelemnnfaaPHolds
import Derived.Test.YthccchelemnnfaaPAlike
import Derived.Test.YthccchelemnnfaaPRing
namespace Go.Proofs.Ythccchelemnnfaa
open Go.RowKit
set_option linter.unusedVariables false
theorem pop_all : ((List.range 64).all fun i => (List.range 64).all fun j => popC (i * 64 + j) == popF 12 (i * 64 + j)) = true := by decide +kernel
theorem popC_size (n x : Nat) (h2 : n ≤ 12) (hx : x < 2 ^ n) : popC x = sizeN x := by
  have hp := pow_le n h2
  have a := List.all_eq_true.1 pop_all (x / 64) (List.mem_range.2 (by omega))
  have b := List.all_eq_true.1 a (x % 64) (List.mem_range.2 (by omega))
  have e : x / 64 * 64 + x % 64 = x := by omega
  rw [e] at b
  rw [sizeN_of 12 x (Nat.le_refl _) (pow_mono h2 hx)]
  exact eq_of_beq b
theorem rot_shift (n b v : Nat) (hv : v < n) : rotC n b v = shiftN n b (v : Int) := by
  unfold rotC shiftN shl
  rw [rest_self n v hv]
theorem beq_bit (h v : Nat) : Nat.beq ((h >>> v) % 2) 1 = h.testBit v := by
  rw [Nat.testBit, Nat.and_comm, Nat.and_one_is_mod]
  rcases Nat.mod_two_eq_zero_or_one (h >>> v) with e | e <;> rw [e] <;> rfl
theorem sumF_eq (n a h j : Nat) (hj : j ≤ n) : sumF n a h j = overSet h (sumS n a) j 0 := by
  induction j with
  | zero => rfl
  | succ j ih =>
    rw [over_step]
    show (if Nat.beq ((h >>> j) % 2) 1 then sumF n a h j ||| rotC n a j else sumF n a h j) = _
    rw [beq_bit, ih (by omega), rot_shift n a j (by omega)]
    rfl
theorem sumF_sum (n a h : Nat) : sumF n a h n = sumN n a h := sumF_eq n a h n (Nat.le_refl n)
theorem holdF_eq (n o j : Nat) (hj : j ≤ n) : holdF n o j = upto (holdS n o) j 0 := by
  induction j with
  | zero => rfl
  | succ j ih =>
    show (if Nat.beq (rotC n o j) o then holdF n o j ||| 2 ^ j else holdF n o j) = (if shiftN n o (j : Int) = o then upto (holdS n o) j 0 ||| 2 ^ j else upto (holdS n o) j 0)
    rw [ih (by omega), rot_shift n o j (by omega)]
    by_cases e : shiftN n o (j : Int) = o
    · rw [if_pos e, if_pos (show Nat.beq (shiftN n o (j : Int)) o = true from by rw [e]; exact Nat.beq_refl o)]
    · rw [if_neg e, if_neg (fun h => e (Nat.eq_of_beq_eq_true h))]
theorem holdF_hold (n o : Nat) : holdF n o n = holdsN n o := by
  rw [holdF_eq n o n (Nat.le_refl n)]
  exact (overAll (holdS n o) n n 0 (Nat.le_refl n)).symm
/-- Sums have places of both less what holds them. -/
def Kne (n a b : Nat) : Prop := sizeN (sumN n a (holdsN n (sumN n a b))) + sizeN (sumN n b (holdsN n (sumN n a b))) ≤ sizeN (sumN n a b) + sizeN (holdsN n (sumN n a b))
theorem kneF_ok (n a b : Nat) (h2 : n ≤ 12) (h : kneF n a b (sumN n a b) = true) : Kne n a b := by
  have h' := Nat.le_of_ble_eq_true h
  rw [holdF_hold, sumF_sum, sumF_sum, popC_size n _ h2 (sumN_lt n _ _), popC_size n _ h2 (sumN_lt n _ _), popC_size n _ h2 (sumN_lt n _ _), popC_size n _ h2 (holdsN_lt n _)] at h'
  exact h'
theorem aper_mem (n o d : Nat) (l : List Nat) (h : aperL n o l = true) (hd : d ∈ l) : rotC n o d ≠ o := by
  induction l with
  | nil => cases hd
  | cons e l ih =>
    have h' : (!(Nat.beq (rotC n o e) o) && aperL n o l) = true := h
    rw [Bool.and_eq_true] at h'
    rcases List.mem_cons.1 hd with rfl | hd
    · intro he
      have h3 := h'.1
      rw [he] at h3
      rw [Nat.beq_refl] at h3
      cases h3
    · exact ih h'.2 hd
def askB : Bool := (List.range 13).all fun n => (List.range n).all fun g => g == 0 || n % g != 0 || (asks n).any fun d => d % g == 0 && decide (d < n)
theorem ask_all : askB = true := by decide +kernel
theorem ask_some (n g : Nat) (h2 : n ≤ 12) (hg : g < n) (hg0 : g ≠ 0) (hd : n % g = 0) : ∃ d, d ∈ asks n ∧ d % g = 0 ∧ d < n := by
  have h := ask_all
  unfold askB at h
  have h' := List.all_eq_true.1 (List.all_eq_true.1 h n (List.mem_range.2 (by omega))) g (List.mem_range.2 hg)
  have e0 : (g == 0) = false := by simpa using hg0
  have e1 : (n % g != 0) = false := by simp [hd]
  rw [e0, e1, Bool.false_or, Bool.false_or, List.any_eq_true] at h'
  obtain ⟨d, hm, hx⟩ := h'
  rw [Bool.and_eq_true] at hx
  exact ⟨d, hm, eq_of_beq hx.1, of_decide_eq_true hx.2⟩
theorem aper_hold (n o : Nat) (h1 : 1 ≤ n) (h2 : n ≤ 12) (ho : o < 2 ^ n) (h : aperL n o (asks n) = true) : holdsN n o = 1 := by
  have hp := hold_part n o h1 ho
  obtain ⟨hg1, hg2⟩ := partsN_pos n (holdsN n o) h1
  have hdn : partsN n (holdsN n o) ∣ n := parts_dvd_n n _ n
  have hb := fun i => part_bit n (holdsN n o) i h1
  rw [← hp] at hb
  have hgn : partsN n (holdsN n o) = n := by
    refine Classical.byContradiction fun hne => ?_
    obtain ⟨d, hm, hd, hlt⟩ := ask_some n (partsN n (holdsN n o)) h2 (by omega) (by omega) (Nat.mod_eq_zero_of_dvd hdn)
    have hbit := (hb d).2 ⟨hlt, Nat.dvd_of_mod_eq_zero hd⟩
    obtain ⟨_, e⟩ := (hold_bit n o d h1).1 hbit
    refine aper_mem n o d _ h hm ?_
    rw [rot_shift n o d hlt]
    exact e
  refine Nat.eq_of_testBit_eq fun i => ?_
  rw [Bool.eq_iff_iff, hb i, hgn]
  constructor
  · rintro ⟨hi, hd⟩
    have : i = 0 := Nat.eq_zero_of_dvd_of_lt hd hi
    subst this
    rfl
  · intro hi
    by_cases e : i = 0
    · subst e
      exact ⟨h1, Nat.dvd_zero _⟩
    · rw [Nat.testBit_lt_two_pow (Nat.one_lt_two_pow e)] at hi
      cases hi
def holdFullB : Bool := (List.range 13).all fun n => holdsN n (2 ^ n - 1) == 2 ^ n - 1
theorem hold_full_all : holdFullB = true := by decide +kernel
theorem hold_full (n : Nat) (h2 : n ≤ 12) : holdsN n (2 ^ n - 1) = 2 ^ n - 1 := by
  have h := hold_full_all
  unfold holdFullB at h
  exact eq_of_beq (List.all_eq_true.1 h n (List.mem_range.2 (by omega)))
theorem full_of_size (n o : Nat) (h2 : n ≤ 12) (ho : o < 2 ^ n) (h : sizeN o = n) : o = 2 ^ n - 1 := by
  have hp := pow_le n h2
  have hf := full_size n h2
  unfold sizeN at h hf
  refine popF_same 40 _ _ (by omega) (by omega) (fun i hi => ?_) (by omega)
  have hin := lt_of_bits n _ ho i hi
  rw [Nat.testBit_two_pow_sub_one]
  simpa using hin
theorem kne_full (n a b : Nat) (h2 : n ≤ 12) (h : sumN n a b = 2 ^ n - 1) : Kne n a b := by
  unfold Kne
  rw [h, hold_full n h2, full_size n h2]
  have x := size_le n _ h2 (sumN_lt n a (2 ^ n - 1))
  have y := size_le n _ h2 (sumN_lt n b (2 ^ n - 1))
  omega
theorem leaf_ok (n a b : Nat) (h1 : 1 ≤ n) (h2 : n ≤ 12) (ha : a < 2 ^ n) (hb : b < 2 ^ n) (h : leafB n a b (sumN n a b) (sizeN a) (sizeN b) = true) : Kne n a b := by
  have ho := sumN_lt n a b
  unfold leafB at h
  rw [Bool.or_eq_true, Bool.or_eq_true, Bool.and_eq_true] at h
  rcases h with (h | ⟨h, h'⟩) | h
  · have e := Nat.eq_of_beq_eq_true h
    rw [popC_size n _ h2 ho] at e
    exact kne_full n a b h2 (full_of_size n _ h2 ho e)
  · have e := Nat.le_of_ble_eq_true h'
    rw [popC_size n _ h2 ho] at e
    unfold Kne
    rw [aper_hold n _ h1 h2 ho h, sum_one n a h1 ha, sum_one n b h1 hb]
    have := one_size 0 (by omega)
    simp only [Nat.pow_zero] at this
    omega
  · exact kneF_ok n a b h2 h
theorem over_mono (a : Nat) (n b : Nat) (j d i : Nat) (h : (overSet a (sumS n b) j 0).testBit i = true) : (overSet a (sumS n b) (j + d) 0).testBit i = true := by
  induction d with
  | zero => exact h
  | succ d ih =>
    rw [← Nat.add_assoc, over_step]
    split
    · show (overSet a (sumS n b) (j + d) 0 ||| shiftN n b (((j + d : Nat)) : Int)).testBit i = true
      rw [Nat.testBit_or, ih, Bool.true_or]
    · exact ih
theorem over_full (a n b j : Nat) (hj : j ≤ n) (h : overSet a (sumS n b) j 0 = 2 ^ n - 1) : overSet a (sumS n b) n 0 = 2 ^ n - 1 := by
  have hl : overSet a (sumS n b) n 0 < 2 ^ n := sumN_lt n b a
  have hp := Nat.two_pow_pos n
  refine ext_below n _ _ hl (by omega) fun i hi => ?_
  have e : (overSet a (sumS n b) j 0).testBit i = true := by
    rw [h, Nat.testBit_two_pow_sub_one]
    simpa using hi
  have := over_mono a n b j (n - j) i e
  rw [show j + (n - j) = n by omega] at this
  rw [this, Nat.testBit_two_pow_sub_one]
  simpa using hi
theorem go_match (f : Nat → Bool) (x : Nat) : (match x with | 0 => f 0 | m + 1 => f (m + 1)) = f x := by cases x <;> rfl
theorem mod_step (a j : Nat) : a % 2 ^ (j + 1) = if a.testBit j then a % 2 ^ j + 2 ^ j else a % 2 ^ j := by
  rw [Nat.mod_pow_succ, Nat.testBit, Nat.and_comm, Nat.and_one_is_mod, Nat.shiftRight_eq_div_pow]
  rcases Nat.mod_two_eq_zero_or_one (a / 2 ^ j) with e | e <;> rw [e] <;> simp
theorem go_ok (n a b cb : Nat) (ha : a < 2 ^ n) (k : Nat) : ∀ j, j + k = n → goB n b cb (rots n b j k) (2 ^ j) (a % 2 ^ j) (overSet a (sumS n b) j 0) (cntB a j) = true →
    a = 0 ∨ overSet a (sumS n b) n 0 = 2 ^ n - 1 ∨ leafB n a b (overSet a (sumS n b) n 0) (cntB a n) cb = true := by
  induction k with
  | zero =>
    intro j hj h
    obtain rfl : j = n := by omega
    have h' : (Nat.beq (a % 2 ^ j) 0 || leafB j (a % 2 ^ j) b (overSet a (sumS j b) j 0) (cntB a j) cb) = true := h
    rw [Nat.mod_eq_of_lt ha, Bool.or_eq_true] at h'
    rcases h' with h' | h'
    · exact .inl (Nat.eq_of_beq_eq_true h')
    · exact .inr (.inr h')
  | succ k ih =>
    intro j hj h
    have h' : (Nat.beq (overSet a (sumS n b) j 0) (2 ^ n - 1) || (goB n b cb (rots n b (j + 1) k) (2 * 2 ^ j) (a % 2 ^ j) (overSet a (sumS n b) j 0) (cntB a j) && (match overSet a (sumS n b) j 0 ||| rotC n b j with | 0 => goB n b cb (rots n b (j + 1) k) (2 * 2 ^ j) (a % 2 ^ j + 2 ^ j) 0 (cntB a j + 1) | m + 1 => goB n b cb (rots n b (j + 1) k) (2 * 2 ^ j) (a % 2 ^ j + 2 ^ j) (m + 1) (cntB a j + 1)))) = true := h
    rw [go_match (fun x => goB n b cb (rots n b (j + 1) k) (2 * 2 ^ j) (a % 2 ^ j + 2 ^ j) x (cntB a j + 1)), Bool.or_eq_true, Bool.and_eq_true] at h'
    rcases h' with h' | ⟨h3, h4⟩
    · exact .inr (.inl (over_full a n b j (by omega) (Nat.eq_of_beq_eq_true h')))
    · refine ih (j + 1) (by omega) ?_
      have hc : cntB a (j + 1) = cntB a j + if a.testBit j then 1 else 0 := rfl
      rw [over_step, mod_step, hc, Nat.pow_succ, Nat.mul_comm (2 ^ j) 2]
      cases hb : a.testBit j
      · simpa using h3
      · rw [rot_shift n b j (by omega)] at h4
        simpa [sumS] using h4
theorem least_ok (n b v : Nat) (h : ∀ u, u < n → b ≤ rotC n b u) (hv : v ≤ n) : leastB n b v = true := by
  induction v with
  | zero => rfl
  | succ v ih =>
    show (Nat.ble b (rotC n b v) && leastB n b v) = true
    rw [ih (by omega), Bool.and_true]
    exact Nat.ble_eq_true_of_le (h v (by omega))
theorem kne_least (n a b : Nat) (h1 : 1 ≤ n) (h2 : n ≤ 12) (ha : a < 2 ^ n) (hb : b < 2 ^ n) (ha0 : a ≠ 0) (hb0 : b ≠ 0) (hl : ∀ u, u < n → b ≤ rotC n b u) : Kne n a b := by
  have h := one_all n b h1 h2 hb
  unfold oneB at h
  rw [least_ok n b n hl (Nat.le_refl n), Nat.ble_eq_true_of_le (show 1 ≤ b by omega)] at h
  have h' : goB n b (popC b) (rots n b 0 n) 1 0 0 0 = true := by simpa using h
  rw [popC_size n b h2 hb] at h'
  have hs : sumN n a b = overSet a (sumS n b) n 0 := sum_comm n a b h1 ha hb
  have hz : sizeN a = cntB a n := by rw [sizeN_of n a h2 ha, popF_cnt]
  have hm : a % 2 ^ 0 = 0 := by rw [Nat.pow_zero]; exact Nat.mod_one a
  rcases go_ok n a b (sizeN b) ha n 0 (by omega) (by rw [hm]; exact h') with h' | h' | h'
  · exact absurd h' ha0
  · exact kne_full n a b h2 (by rw [hs]; exact h')
  · refine leaf_ok n a b h1 h2 ha hb ?_
    rw [hs, hz]
    exact h'
theorem shift_or (n x y : Nat) (l : Int) (h1 : 1 ≤ n) (hx : x < 2 ^ n) (hy : y < 2 ^ n) : shiftN n (x ||| y) l = shiftN n x l ||| shiftN n y l := by
  refine ext_below n _ _ (shiftN_lt n _ l) (Nat.or_lt_two_pow (shiftN_lt n x l) (shiftN_lt n y l)) fun i hi => ?_
  rw [Nat.testBit_or, shift_mem n _ l h1 (Nat.or_lt_two_pow hx hy) i hi, shift_mem n x l h1 hx i hi, shift_mem n y l h1 hy i hi, Nat.testBit_or]
theorem shift_none (n : Nat) (l : Int) (h1 : 1 ≤ n) : shiftN n 0 l = 0 := by
  refine ext_below n _ _ (shiftN_lt n 0 l) (Nat.two_pow_pos n) fun i hi => ?_
  rw [shift_mem n 0 l h1 (Nat.two_pow_pos n) i hi, Nat.zero_testBit, Nat.zero_testBit]
theorem sum_shift (n m a : Nat) (l : Int) (h1 : 1 ≤ n) (hm : m < 2 ^ n) : sumN n (shiftN n m l) a = shiftN n (sumN n m a) l := by
  have h : ∀ j, j ≤ n → overSet a (sumS n (shiftN n m l)) j 0 = shiftN n (overSet a (sumS n m) j 0) l := by
    intro j
    induction j with
    | zero => intro _; exact (shift_none n l h1).symm
    | succ j ih =>
      intro hj
      rw [over_step, over_step, ih (by omega)]
      split
      · have hl := overSet_lt (sumS n m) n (2 ^ n) 0 a j (Nat.two_pow_pos n) (by omega) (sumS_lt n m)
        show shiftN n (overSet a (sumS n m) j 0) l ||| shiftN n (shiftN n m l) (j : Int) = shiftN n (overSet a (sumS n m) j 0 ||| shiftN n m (j : Int)) l
        rw [shift_or n _ _ l h1 hl (shiftN_lt n m _), shift_shift n m l j h1 hm, shift_shift n m j l h1 hm, Int.add_comm]
      · rfl
  exact h n (Nat.le_refl n)
theorem shift_undo (n o : Nat) (l : Int) (h1 : 1 ≤ n) (ho : o < 2 ^ n) : shiftN n (shiftN n o l) (-l) = o := by
  rw [shift_shift n o l _ h1 ho, Int.add_right_neg]
  exact shift_zero n o h1 ho
theorem hold_shift (n o : Nat) (l : Int) (h1 : 1 ≤ n) (ho : o < 2 ^ n) : holdsN n (shiftN n o l) = holdsN n o := by
  refine Nat.eq_of_testBit_eq fun i => ?_
  rw [Bool.eq_iff_iff, hold_bit n _ i h1, hold_bit n o i h1]
  constructor
  · rintro ⟨hi, e⟩
    refine ⟨hi, ?_⟩
    rw [shift_shift n o l i h1 ho, Int.add_comm, ← shift_shift n o i l h1 ho] at e
    have h := congrArg (fun x => shiftN n x (-l)) e
    simp only [shift_undo n _ l h1 (shiftN_lt n o _), shift_undo n o l h1 ho] at h
    exact h
  · rintro ⟨hi, e⟩
    refine ⟨hi, ?_⟩
    rw [shift_shift n o l i h1 ho, Int.add_comm, ← shift_shift n o i l h1 ho, e]
theorem kne_shift (n a m : Nat) (l : Int) (h1 : 1 ≤ n) (h2 : n ≤ 12) (ha : a < 2 ^ n) (hm : m < 2 ^ n) (h : Kne n a m) : Kne n a (shiftN n m l) := by
  unfold Kne at *
  have hs : sumN n a (shiftN n m l) = shiftN n (sumN n a m) l := by
    rw [sum_comm n a _ h1 ha (shiftN_lt n m l), sum_shift n m a l h1 hm, sum_comm n m a h1 hm ha]
  rw [hs, hold_shift n _ l h1 (sumN_lt n a m), sum_shift n m _ l h1 hm, size_shift n _ l h1 h2 (sumN_lt n _ _), size_shift n _ l h1 h2 (sumN_lt n _ _)]
  exact h
theorem kneser (n a b : Nat) (h1 : 1 ≤ n) (h2 : n ≤ 12) (ha : a < 2 ^ n) (hb : b < 2 ^ n) (ha0 : a ≠ 0) (hb0 : b ≠ 0) : Kne n a b := by
  obtain ⟨k, hk, e⟩ := (least_spec n b h1 hb).2
  have hl := leastN_lt n b hb
  have hne : leastN n b ≠ 0 := by
    intro h0
    have hz := size_shift n b (k : Int) h1 h2 hb
    rw [← e, h0] at hz
    have hp := pow_le n h2
    have := size_pos b (by omega) hb0
    unfold sizeN at *
    rw [popF_zero] at hz
    omega
  have hall : ∀ u, u < n → leastN n b ≤ rotC n (leastN n b) u := fun u hu => by
    rw [rot_shift n _ u hu, e, shift_shift n b k u h1 hb, ← e]
    exact least_le n b _ h1 hb
  have h := kne_shift n a (leastN n b) (-(k : Int)) h1 h2 ha hl (kne_least n a (leastN n b) h1 h2 ha hl ha0 hne hall)
  rw [e, shift_undo n b k h1 hb] at h
  exact h
end Go.Proofs.Ythccchelemnnfaa
