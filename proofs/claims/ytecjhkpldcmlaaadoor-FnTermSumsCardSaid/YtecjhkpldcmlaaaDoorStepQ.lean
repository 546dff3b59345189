/- Even steps, other steps, parts and arcs that lead back, told of numbers. -/
import Derived.Test.YtecjhkpldcmlaaaDoorGL
import Derived.Test.YtecjhkpldcmlaaaDoorStepWA
import Derived.Test.YtecjhkpldcmlaaaDoorGC
namespace Go.Proofs.YtecjhkpldcmlaaaDoor
open Go.RowKit
set_option linter.unusedVariables false
/-- The place turned by -1. -/
def neg (n v : Nat) : Nat := rest n (-(v : Int))
theorem neg_lt (n v : Nat) (h1 : 1 ≤ n) : neg n v < n := rest_lt n _ h1
theorem neg_neg' (n v : Nat) (h1 : 1 ≤ n) (hv : v < n) : neg n (neg n v) = v := by
  unfold neg
  rw [rest_neg n _ h1, Int.neg_neg]
  exact rest_self n v hv
theorem neg_val (n v : Nat) (h1 : 1 ≤ n) (hv : v < n) : neg n v = if v = 0 then 0 else n - v := by
  have g := rest_cast n (-(v : Int)) h1
  unfold neg
  split
  · rename_i h
    subst h
    simp [rest]
  · rw [← Int.add_emod_right, Int.emod_eq_of_lt (by omega) (by omega)] at g
    omega
theorem turn_neg_bit (n s v : Nat) (h1 : 1 ≤ n) (hs : s < 2 ^ n) (hv : v < n) : (turnN n s (-1)).testBit v = s.testBit (neg n v) := by
  rw [Bool.eq_iff_iff, turnN_bit]
  constructor
  · rintro ⟨u, hu, hb, rfl⟩
    rw [show rest n (-(u : Int)) = neg n u from rfl, neg_neg' n u h1 hu]
    exact hb
  · intro h
    exact ⟨neg n v, neg_lt n v h1, h, neg_neg' n v h1 hv⟩
theorem even_neg (n s : Nat) (h1 : 1 ≤ n) (hs : s < 2 ^ n) : bothN n s = s ↔ ∀ v, v < n → s.testBit (neg n v) = s.testBit v := by
  rw [← even_iff n s h1 hs]
  constructor
  · intro h v hv
    rw [← turn_neg_bit n s v h1 hs hv, h]
  · intro h
    refine Nat.eq_of_testBit_eq fun i => ?_
    by_cases hi : i < n
    · rw [turn_neg_bit n s i h1 hs hi, h i hi]
    · rw [Nat.testBit_lt_two_pow (Nat.lt_of_lt_of_le hs (Nat.pow_le_pow_right (by omega) (by omega))), Nat.testBit_lt_two_pow (Nat.lt_of_lt_of_le (turnN_lt n s (-1) h1) (Nat.pow_le_pow_right (by omega) (by omega)))]
theorem turn_zero_bit (n s : Nat) (h1 : 1 ≤ n) (hs : s < 2 ^ n) (h0 : s.testBit 0 = false) : (turnN n s (-1)).testBit 0 = false := by
  rw [turn_neg_bit n s 0 h1 hs h1, neg_val n 0 h1 h1]
  exact h0
theorem other_zero_bit (n s : Nat) : (otherN n s).testBit 0 = false := by rw [otherN_bit]; simp
theorem both_bit (n s v : Nat) (h1 : 1 ≤ n) (hs : s < 2 ^ n) (hv : v < n) : (bothN n s).testBit v = (s.testBit v || s.testBit (neg n v)) := by
  unfold bothN
  rw [Nat.testBit_or, turn_neg_bit n s v h1 hs hv]
theorem both_zero_bit (n s : Nat) (h1 : 1 ≤ n) (hs : s < 2 ^ n) (h0 : s.testBit 0 = false) : (bothN n s).testBit 0 = false := by
  rw [both_bit n s 0 h1 hs h1, neg_val n 0 h1 h1]
  simp [h0]
theorem both_both (n s : Nat) (h1 : 1 ≤ n) (hs : s < 2 ^ n) : bothN n (bothN n s) = bothN n s := by
  rw [even_neg n _ h1 (bothN_lt n s h1 hs)]
  intro v hv
  rw [both_bit n s v h1 hs hv, both_bit n s _ h1 hs (neg_lt n v h1), neg_neg' n v h1 hv, Bool.or_comm]
theorem both_sub (n s : Nat) : lessN s (bothN n s) = 0 := by
  refine Nat.eq_of_testBit_eq fun i => ?_
  unfold bothN
  rw [lessN_bit, Nat.testBit_or, Nat.zero_testBit]
  cases s.testBit i <;> simp
theorem even_other (n s : Nat) (h1 : 1 ≤ n) (hs : s < 2 ^ n) (h : bothN n s = s) : bothN n (otherN n s) = otherN n s := by
  rw [even_neg n _ h1 (otherN_lt n s)]
  intro v hv
  have e := (even_neg n s h1 hs).1 h v hv
  have hl := neg_lt n v h1
  have hn := neg_val n v h1 hv
  rw [otherN_bit, otherN_bit, e]
  have hz : (neg n v = 0) ↔ v = 0 := by
    rw [hn]
    split
    · simp [*]
    · omega
  simp [hv, hl, hz]
theorem other_other (n s : Nat) (hs : s < 2 ^ n) (h0 : s.testBit 0 = false) : otherN n (otherN n s) = s := by
  refine Nat.eq_of_testBit_eq fun i => ?_
  rw [otherN_bit, otherN_bit]
  by_cases hi : i < n
  · by_cases hz : i = 0
    · subst hz
      simp [h0]
    · simp [hi, hz]
  · have := Nat.testBit_lt_two_pow (Nat.lt_of_lt_of_le hs (Nat.pow_le_pow_right (n := 2) (by omega) (show n ≤ i by omega)))
    simp [hi, this]
theorem other_and (n s : Nat) : s &&& otherN n s = 0 := by
  refine Nat.eq_of_testBit_eq fun i => ?_
  rw [Nat.testBit_and, otherN_bit, Nat.zero_testBit]
  cases s.testBit i <;> simp
theorem other_or (n s : Nat) (hs : s < 2 ^ n) (h0 : s.testBit 0 = false) : s ||| otherN n s = otherN n 0 := by
  refine Nat.eq_of_testBit_eq fun i => ?_
  rw [Nat.testBit_or, otherN_bit, otherN_bit, Nat.zero_testBit]
  by_cases hb : s.testBit i = true
  · have hi := lt_of_bits n s hs i hb
    have hz : i ≠ 0 := fun e => by rw [e, h0] at hb; cases hb
    simp [hb, hi, hz]
  · have hb' : s.testBit i = false := by simpa using hb
    simp [hb']
def otherB : Bool := (List.range 13).all fun n => n == 0 || sizeN (otherN n 0) + 1 == n
theorem other_all : otherB = true := by decide +kernel
theorem other_size (n s : Nat) (h1 : 1 ≤ n) (h2 : n ≤ 12) (hs : s < 2 ^ n) (h0 : s.testBit 0 = false) : sizeN s + sizeN (otherN n s) + 1 = n := by
  have h := other_all
  unfold otherB at h
  have h' := List.all_eq_true.1 h n (List.mem_range.2 (by omega))
  have hne : n ≠ 0 := by omega
  have h'' : sizeN (otherN n 0) + 1 = n := by simpa [hne] using h'
  have hb := popF_both 40 s (otherN n s)
  rw [other_or n s hs h0, other_and n s, popF_zero] at hb
  unfold sizeN at *
  omega
theorem parts_dvd_iff (n s d : Nat) : d ∣ partsN n s ↔ d ∣ n ∧ ∀ v, v < n → s.testBit v = true → d ∣ v := by
  constructor
  · intro h
    exact ⟨Nat.dvd_trans h (parts_dvd_n n s n), fun v hv hb => Nat.dvd_trans h (parts_dvd_step n s n v hv hb)⟩
  · rintro ⟨hn, hv⟩
    have : ∀ j, j ≤ n → d ∣ overSet s partsS j n := by
      intro j
      induction j with
      | zero => intro _; exact hn
      | succ j ih =>
        intro hj
        rw [over_step]
        split
        · exact Nat.dvd_gcd (ih (by omega)) (hv j (by omega) (by assumption))
        · exact ih (by omega)
    exact this n (Nat.le_refl n)
theorem parts_both (n s : Nat) (h1 : 1 ≤ n) (hs : s < 2 ^ n) : partsN n (bothN n s) = partsN n s := by
  refine Nat.dvd_antisymm ?_ ?_
  · rw [parts_dvd_iff n s]
    have h := (parts_dvd_iff n (bothN n s) _).1 (Nat.dvd_refl _)
    exact ⟨h.1, fun v hv hb => h.2 v hv (by rw [both_bit n s v h1 hs hv, hb, Bool.true_or])⟩
  · rw [parts_dvd_iff n (bothN n s)]
    have h := (parts_dvd_iff n s _).1 (Nat.dvd_refl _)
    refine ⟨h.1, fun v hv hb => ?_⟩
    rw [both_bit n s v h1 hs hv, Bool.or_eq_true] at hb
    rcases hb with hb | hb
    · exact h.2 v hv hb
    · have hd := h.2 _ (neg_lt n v h1) hb
      rw [neg_val n v h1 hv] at hd
      by_cases hz : v = 0
      · subst hz
        exact Nat.dvd_zero _
      · rw [if_neg hz] at hd
        have e : n = (n - v) + v := by omega
        have hn := h.1
        generalize partsN n s = g at *
        exact (Nat.dvd_add_iff_right hd).2 (by rw [← e]; exact hn)
theorem parts_one (n s : Nat) (h1 : 1 ≤ n) : partsN n s = 1 ∨ partsN n (otherN n s) = 1 := by
  by_cases hn : n = 1
  · subst hn
    have := partsN_pos 1 s (by omega)
    omega
  · cases hb : s.testBit 1
    · right
      exact Nat.dvd_one.1 (parts_dvd_step n (otherN n s) n 1 (by omega) (by rw [otherN_bit, hb]; simp; omega))
    · left
      exact Nat.dvd_one.1 (parts_dvd_step n s n 1 (by omega) hb)
theorem shift_self_bit (n s v : Nat) (h1 : 1 ≤ n) (hs : s < 2 ^ n) (h0 : s.testBit 0 = false) (hv : v < n) : (shiftN n s (v : Int)).testBit v = false := by
  rw [shift_mem n s v h1 hs v hv, Int.sub_self]
  have : rest n 0 = 0 := by simp [rest]
  rw [this]
  exact h0
def partB : Bool := (List.range 13).all fun n => (List.range 13).all fun g => n == 0 || g == 0 || n % g != 0 || (sizeN (multN n g) * g == n && holdsN n (multN n g) == multN n g)
theorem part_all : partB = true := by decide +kernel
theorem part_facts (n s : Nat) (h1 : 1 ≤ n) (h2 : n ≤ 12) : sizeN (partN n s) * partsN n s = n ∧ holdsN n (partN n s) = partN n s := by
  have hd : partsN n s ∣ n := parts_dvd_n n s n
  obtain ⟨hg1, hg2⟩ := partsN_pos n s h1
  unfold partN
  generalize partsN n s = g at *
  have hm : n % g = 0 := Nat.mod_eq_zero_of_dvd hd
  have h := part_all
  unfold partB at h
  have h' := List.all_eq_true.1 (List.all_eq_true.1 h n (List.mem_range.2 (by omega))) g (List.mem_range.2 (by omega))
  have hn : n ≠ 0 := by omega
  have hg : g ≠ 0 := by omega
  simpa [hn, hg, hm] using h'
theorem partN_lt (n s : Nat) (h1 : 1 ≤ n) : partN n s < 2 ^ n := by
  have hd : partsN n s ∣ n := parts_dvd_n n s n
  exact mult_lt n _ _ _ (Nat.div_mul_cancel hd) (partsN_pos n s h1).1 (Nat.le_refl _)
theorem cnt_sum (x k : Nat) : cntB x k = sumTo (fun u => b2n (x.testBit u)) k := by
  induction k with
  | zero => rfl
  | succ k ih =>
    show cntB x k + (if x.testBit k then 1 else 0) = sumTo (fun u => b2n (x.testBit u)) k + b2n (x.testBit k)
    rw [ih]; rfl
theorem size_sum (n x : Nat) (h2 : n ≤ 12) (hx : x < 2 ^ n) : sizeN x = sumTo (fun u => b2n (x.testBit u)) n := by
  rw [sizeN_of n x h2 hx, popF_cnt, cnt_sum]
/-- Whether an arc leads from v to u. -/
def arc (n s v u : Nat) : Nat := b2n (s.testBit (rest n ((u : Int) - (v : Int))))
theorem arc_row (n s v : Nat) (h1 : 1 ≤ n) (h2 : n ≤ 12) (hs : s < 2 ^ n) : sumTo (fun u => arc n s v u) n = sizeN s := by
  rw [← size_shift n s (v : Int) h1 h2 hs, size_sum n _ h2 (shiftN_lt n s _)]
  refine sumTo_congr _ _ _ fun u hu => ?_
  unfold arc
  rw [shift_mem n s v h1 hs u hu]
theorem gcd_minus (n : Nat) (h1 : 1 ≤ n) (h2 : n ≤ 12) : Nat.gcd (rest n (-1)) n = 1 := (gcd_rest n 1 h1 h2 (by omega) (Nat.gcd_one_left n)).2
theorem rest_sub_neg (n u v : Nat) (h1 : 1 ≤ n) : neg n (rest n ((v : Int) - (u : Int))) = rest n ((u : Int) - (v : Int)) := by
  unfold neg
  rw [rest_neg n _ h1, Int.neg_sub]
theorem arc_column (n s u : Nat) (h1 : 1 ≤ n) (h2 : n ≤ 12) (hs : s < 2 ^ n) : sumTo (fun v => arc n s v u) n = sizeN s := by
  have ht := turnN_lt n s (-1) h1
  rw [← turn_unit n s (-1) h1 h2 hs (gcd_minus n h1 h2), ← size_shift n _ (u : Int) h1 h2 ht, size_sum n _ h2 (shiftN_lt n _ _)]
  refine sumTo_congr _ _ _ fun v hv => ?_
  unfold arc
  rw [shift_mem n _ u h1 ht v hv, turn_neg_bit n s _ h1 hs (rest_lt n _ h1), rest_sub_neg n u v h1]
theorem cut_sum (n s t : Nat) (h1 : 1 ≤ n) (h2 : n ≤ 12) (hs : s < 2 ^ n) (ht : t < 2 ^ n) : cutsN n s t = sumTo (fun v => b2n (t.testBit v) * sumTo (fun u => arc n s v u * b2n (!t.testBit u)) n) n := by
  have h : ∀ j, j ≤ n → overSet t (cutS n s t) j 0 = sumTo (fun v => b2n (t.testBit v) * sumTo (fun u => arc n s v u * b2n (!t.testBit u)) n) j := by
    intro j
    induction j with
    | zero => intro _; rfl
    | succ j ih =>
      intro hj
      rw [over_step]
      show _ = sumTo (fun v => b2n (t.testBit v) * sumTo (fun u => arc n s v u * b2n (!t.testBit u)) n) j + b2n (t.testBit j) * sumTo (fun u => arc n s j u * b2n (!t.testBit u)) n
      rw [← ih (by omega)]
      cases hb : t.testBit j
      · simp [b2n]
      · have e : sizeN (lessN (shiftN n s (j : Int)) t) = sumTo (fun u => arc n s j u * b2n (!t.testBit u)) n := by
          rw [size_sum n _ h2 (lessN_lt t (shiftN_lt n s _))]
          refine sumTo_congr _ _ _ fun u hu => ?_
          unfold arc
          rw [lessN_bit, shift_mem n s j h1 hs u hu]
          cases s.testBit (rest n ((u : Int) - (j : Int))) <;> cases t.testBit u <;> rfl
        simp only [if_true, cutS, e, b2n, Nat.one_mul]
  exact h n (Nat.le_refl n)
theorem compl_bit (n t i : Nat) (ht : t < 2 ^ n) (hi : i < n) : (2 ^ n - 1 - t).testBit i = !t.testBit i := by
  have h := Nat.testBit_two_pow_sub_succ ht i
  rw [show 2 ^ n - (t + 1) = 2 ^ n - 1 - t by omega] at h
  rw [h]
  simp [hi]
theorem cut_back (n s t : Nat) (h1 : 1 ≤ n) (h2 : n ≤ 12) (hs : s < 2 ^ n) (ht : t < 2 ^ n) : cutsN n s (2 ^ n - 1 - t) = cutsN n s t := by
  have hc : 2 ^ n - 1 - t < 2 ^ n := by omega
  rw [cut_sum n s t h1 h2 hs ht, cut_sum n s _ h1 h2 hs hc]
  have e : sumTo (fun v => b2n ((2 ^ n - 1 - t).testBit v) * sumTo (fun u => arc n s v u * b2n (!(2 ^ n - 1 - t).testBit u)) n) n = sumTo (fun v => b2n (!t.testBit v) * sumTo (fun u => arc n s v u * b2n (t.testBit u)) n) n := by
    refine sumTo_congr _ _ _ fun v hv => ?_
    rw [compl_bit n t v ht hv]
    congr 1
    refine sumTo_congr _ _ _ fun u hu => ?_
    rw [compl_bit n t u ht hu, Bool.not_not]
  rw [e]
  have A : sumTo (fun v => b2n (t.testBit v) * sumTo (fun u => arc n s v u * b2n (!t.testBit u)) n) n + sumTo (fun v => b2n (t.testBit v) * sumTo (fun u => arc n s v u * b2n (t.testBit u)) n) n = sizeN t * sizeN s := by
    rw [← sumTo_add, size_sum n t h2 ht, Nat.mul_comm, ← sumTo_mul]
    refine sumTo_congr _ _ _ fun v hv => ?_
    rw [← Nat.mul_add, ← sumTo_add, Nat.mul_comm (sizeN s), ← arc_row n s v h1 h2 hs]
    congr 1
    refine sumTo_congr _ _ _ fun u hu => ?_
    cases t.testBit u <;> simp [b2n]
  have B : sumTo (fun v => b2n (!t.testBit v) * sumTo (fun u => arc n s v u * b2n (t.testBit u)) n) n + sumTo (fun v => b2n (t.testBit v) * sumTo (fun u => arc n s v u * b2n (t.testBit u)) n) n = sizeN t * sizeN s := by
    rw [← sumTo_add]
    have e1 : sumTo (fun v => b2n (!t.testBit v) * sumTo (fun u => arc n s v u * b2n (t.testBit u)) n + b2n (t.testBit v) * sumTo (fun u => arc n s v u * b2n (t.testBit u)) n) n = sumTo (fun v => sumTo (fun u => arc n s v u * b2n (t.testBit u)) n) n := by
      refine sumTo_congr _ _ _ fun v hv => ?_
      cases t.testBit v <;> simp [b2n]
    rw [e1, sumTo_swap, size_sum n t h2 ht, Nat.mul_comm, ← sumTo_mul]
    refine sumTo_congr _ _ _ fun u hu => ?_
    rw [← arc_column n s u h1 h2 hs, Nat.mul_comm _ (b2n _), ← sumTo_mul]
    refine sumTo_congr _ _ _ fun v hv => ?_
    exact Nat.mul_comm _ _
  omega
theorem over_zero {α : Type} (f : Nat → α → α) (k : Nat) (a : α) : overSet 0 f k a = a := by
  induction k with
  | zero => rfl
  | succ k ih =>
    rw [over_step, Nat.zero_testBit]
    exact ih
theorem cut_none (n s : Nat) : cutsN n s 0 = 0 := over_zero _ _ _
theorem cut_full (n s : Nat) (h1 : 1 ≤ n) (h2 : n ≤ 12) (hs : s < 2 ^ n) : cutsN n s (2 ^ n - 1) = 0 := by
  have h := cut_back n s 0 h1 h2 hs (Nat.two_pow_pos n)
  rw [cut_none, Nat.sub_zero] at h
  exact h
end Go.Proofs.YtecjhkpldcmlaaaDoor
