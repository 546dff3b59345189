/- Free sets: what is counted, and the greatest and the least of sizes. -/
import Derived.Test.YtgcfgegbbfbaaaaGC
namespace Go.Proofs.Ytgcfgegbbfbaaaa
set_option linter.unusedVariables false
/-- Whether no arc joins places of a set. -/
def fsetN (n s x : Nat) : Bool := Nat.beq (sumN n s x &&& x) 0
/-- Whether each place is in a set, or an arc leads to it from there. -/
def wideN (n s x : Nat) : Bool := Nat.beq (sumN n (s ||| 1) x) (2 ^ n - 1)
/-- Whether a set has no place that is a sum of two. -/
def sumlN (n x : Nat) : Bool := Nat.beq (sumN n x x &&& x) 0
/-- The greatest size of the first k sets that p lets by. -/
def topN (p : Nat → Bool) : Nat → Nat
  | 0 => 0
  | i + 1 => if p i && Nat.blt (topN p i) (sizeN i) then sizeN i else topN p i
/-- The least one, b at most. -/
def lowN (p : Nat → Bool) (b : Nat) : Nat → Nat
  | 0 => b
  | i + 1 => if p i && Nat.blt (sizeN i) (lowN p b i) then sizeN i else lowN p b i
/-- How many of the first k sets p lets by. -/
def cntP (p : Nat → Bool) : Nat → Nat
  | 0 => 0
  | i + 1 => if p i then cntP p i + 1 else cntP p i
theorem top_congr (p q : Nat → Bool) (k : Nat) (h : ∀ i, i < k → p i = q i) : topN p k = topN q k := by
  induction k with
  | zero => rfl
  | succ k ih =>
    show (if p k && Nat.blt (topN p k) (sizeN k) then sizeN k else topN p k) = (if q k && Nat.blt (topN q k) (sizeN k) then sizeN k else topN q k)
    rw [ih fun i hi => h i (by omega), h k (by omega)]
theorem low_congr (p q : Nat → Bool) (b k : Nat) (h : ∀ i, i < k → p i = q i) : lowN p b k = lowN q b k := by
  induction k with
  | zero => rfl
  | succ k ih =>
    show (if p k && Nat.blt (sizeN k) (lowN p b k) then sizeN k else lowN p b k) = (if q k && Nat.blt (sizeN k) (lowN q b k) then sizeN k else lowN q b k)
    rw [ih fun i hi => h i (by omega), h k (by omega)]
theorem cnt_congr (p q : Nat → Bool) (k : Nat) (h : ∀ i, i < k → p i = q i) : cntP p k = cntP q k := by
  induction k with
  | zero => rfl
  | succ k ih =>
    show (if p k then cntP p k + 1 else cntP p k) = (if q k then cntP q k + 1 else cntP q k)
    rw [ih fun i hi => h i (by omega), h k (by omega)]
theorem blt_iff (a b : Nat) : Nat.blt a b = true ↔ a < b := by
  show Nat.ble (a + 1) b = true ↔ _
  rw [Nat.ble_eq]; omega
theorem top_step (p : Nat → Bool) (i : Nat) : (p i = true ∧ topN p i < sizeN i → topN p (i + 1) = sizeN i) ∧ (¬ (p i = true ∧ topN p i < sizeN i) → topN p (i + 1) = topN p i) := by
  have e : topN p (i + 1) = if p i && Nat.blt (topN p i) (sizeN i) then sizeN i else topN p i := rfl
  constructor
  · rintro ⟨h1, h2⟩
    rw [e, if_pos]
    rw [h1, Bool.true_and, blt_iff]; exact h2
  · intro h
    rw [e, if_neg]
    rw [Bool.and_eq_true, blt_iff]; exact h
theorem low_step (p : Nat → Bool) (b i : Nat) : (p i = true ∧ sizeN i < lowN p b i → lowN p b (i + 1) = sizeN i) ∧ (¬ (p i = true ∧ sizeN i < lowN p b i) → lowN p b (i + 1) = lowN p b i) := by
  have e : lowN p b (i + 1) = if p i && Nat.blt (sizeN i) (lowN p b i) then sizeN i else lowN p b i := rfl
  constructor
  · rintro ⟨h1, h2⟩
    rw [e, if_pos]
    rw [h1, Bool.true_and, blt_iff]; exact h2
  · intro h
    rw [e, if_neg]
    rw [Bool.and_eq_true, blt_iff]; exact h
theorem cnt_step (p : Nat → Bool) (i : Nat) : cntP p (i + 1) = if p i then cntP p i + 1 else cntP p i := rfl
/-- The greatest size is one, and no size is greater. -/
theorem top_ub (p : Nat → Bool) (k i : Nat) (hi : i < k) (h : p i = true) : sizeN i ≤ topN p k := by
  induction k with
  | zero => omega
  | succ k ih =>
    obtain ⟨a, b⟩ := top_step p k
    by_cases c : p k = true ∧ topN p k < sizeN k
    · rw [a c]
      by_cases e : i = k
      · subst e; exact Nat.le_refl _
      · exact Nat.le_trans (ih (by omega)) (Nat.le_of_lt c.2)
    · rw [b c]
      by_cases e : i = k
      · subst e
        exact Nat.le_of_not_lt fun h2 => c ⟨h, h2⟩
      · exact ih (by omega)
theorem top_at (p : Nat → Bool) (k : Nat) : topN p k = 0 ∨ ∃ i, i < k ∧ p i = true ∧ sizeN i = topN p k := by
  induction k with
  | zero => exact .inl rfl
  | succ k ih =>
    obtain ⟨a, b⟩ := top_step p k
    by_cases c : p k = true ∧ topN p k < sizeN k
    · exact .inr ⟨k, by omega, c.1, (a c).symm⟩
    · rw [b c]
      rcases ih with e | ⟨i, h1, h2, h3⟩
      · exact .inl e
      · exact .inr ⟨i, by omega, h2, h3⟩
theorem top_eq (p : Nat → Bool) (k m : Nat) (h : ∀ i, i < k → p i = true → sizeN i ≤ m) (h2 : m = 0 ∨ ∃ i, i < k ∧ p i = true ∧ sizeN i = m) : topN p k = m := by
  refine Nat.le_antisymm ?_ ?_
  · rcases top_at p k with e | ⟨i, h1, h2, h3⟩
    · rw [e]; exact Nat.zero_le _
    · rw [← h3]; exact h i h1 h2
  · rcases h2 with e | ⟨i, h1, h2, h3⟩
    · rw [e]; exact Nat.zero_le _
    · rw [← h3]; exact top_ub p k i h1 h2
theorem low_lb (p : Nat → Bool) (b k i : Nat) (hi : i < k) (h : p i = true) : lowN p b k ≤ sizeN i := by
  induction k with
  | zero => omega
  | succ k ih =>
    obtain ⟨u, v⟩ := low_step p b k
    by_cases c : p k = true ∧ sizeN k < lowN p b k
    · rw [u c]
      by_cases e : i = k
      · subst e; exact Nat.le_refl _
      · exact Nat.le_trans (Nat.le_of_lt c.2) (ih (by omega))
    · rw [v c]
      by_cases e : i = k
      · subst e
        exact Nat.le_of_not_lt fun h2 => c ⟨h, h2⟩
      · exact ih (by omega)
theorem low_at (p : Nat → Bool) (b k : Nat) : lowN p b k = b ∨ ∃ i, i < k ∧ p i = true ∧ sizeN i = lowN p b k := by
  induction k with
  | zero => exact .inl rfl
  | succ k ih =>
    obtain ⟨u, v⟩ := low_step p b k
    by_cases c : p k = true ∧ sizeN k < lowN p b k
    · exact .inr ⟨k, by omega, c.1, (u c).symm⟩
    · rw [v c]
      rcases ih with e | ⟨i, h1, h2, h3⟩
      · exact .inl e
      · exact .inr ⟨i, by omega, h2, h3⟩
theorem low_le (p : Nat → Bool) (b k : Nat) : lowN p b k ≤ b := by
  induction k with
  | zero => exact Nat.le_refl _
  | succ k ih =>
    obtain ⟨u, v⟩ := low_step p b k
    by_cases c : p k = true ∧ sizeN k < lowN p b k
    · rw [u c]; omega
    · rw [v c]; exact ih
theorem low_eq (p : Nat → Bool) (b k m : Nat) (hb : m ≤ b) (h : ∀ i, i < k → p i = true → m ≤ sizeN i) (h2 : m = b ∨ ∃ i, i < k ∧ p i = true ∧ sizeN i = m) : lowN p b k = m := by
  refine Nat.le_antisymm ?_ ?_
  · rcases h2 with e | ⟨i, h1, h2, h3⟩
    · rw [e]; exact low_le p b k
    · rw [← h3]; exact low_lb p b k i h1 h2
  · rcases low_at p b k with e | ⟨i, h1, h2, h3⟩
    · rw [e]; exact hb
    · rw [← h3]; exact h i h1 h2
theorem cnt_le (p : Nat → Bool) (k : Nat) : cntP p k ≤ k := by
  induction k with
  | zero => exact Nat.le_refl _
  | succ k ih =>
    rw [cnt_step]
    split <;> omega
theorem top_le (p : Nat → Bool) (k n : Nat) (h2 : n ≤ 12) (hk : k ≤ 2 ^ n) : topN p k ≤ n := by
  rcases top_at p k with e | ⟨i, h1, _, h3⟩
  · rw [e]; exact Nat.zero_le _
  · rw [← h3]; exact sizeN_le n i h2 (Nat.lt_of_lt_of_le h1 hk)
def mostF (n s : Nat) : Nat := topN (fsetN n s) (2 ^ n)
def manyF (n s : Nat) : Nat := cntP (fsetN n s) (2 ^ n)
def fullF (n s : Nat) : Nat := mostF n (otherN n (bothN n s))
def watchF (n s : Nat) : Nat := lowN (wideN n s) n (2 ^ n)
def sumlF (n : Nat) : Nat := topN (sumlN n) (2 ^ n)
/-- Whether a set is neat. -/
def neatN (n s x : Nat) : Bool := Nat.beq (sizeN x * sizeN (s ||| 1)) n && wideN n s x
/-- The neat ones among the first k sets, in order. -/
def neatL (n s : Nat) : Nat → List Int
  | 0 => []
  | i + 1 => if neatN n s i then neatL n s i ++ [(i : Int)] else neatL n s i
theorem neat_len (n s k : Nat) : (neatL n s k).length ≤ k := by
  induction k with
  | zero => exact Nat.le_refl _
  | succ k ih =>
    have e : neatL n s (k + 1) = if neatN n s k then neatL n s k ++ [(k : Int)] else neatL n s k := rfl
    rw [e]
    split
    · rw [List.length_append, List.length_singleton]; omega
    · omega
theorem sum_empty (n s : Nat) : sumN n s 0 = 0 := by
  show overSet 0 (sumS n s) n 0 = 0
  have : ∀ k, overSet 0 (sumS n s) k 0 = 0 := fun k => by
    induction k with
    | zero => rfl
    | succ k ih =>
      show (if (0 : Nat).testBit k then _ else overSet 0 (sumS n s) k 0) = 0
      rw [Nat.zero_testBit]
      exact ih
  exact this n
theorem wide_zero (n s : Nat) (h1 : 1 ≤ n) : wideN n s 0 = false := by
  have h : 2 ≤ 2 ^ n := by have := Nat.pow_le_pow_right (n := 2) (by omega) h1; simpa using this
  unfold wideN
  rw [sum_empty]
  cases hb : Nat.beq 0 (2 ^ n - 1)
  · rfl
  · have := Nat.eq_of_beq_eq_true hb
    omega
theorem watch_one (n s : Nat) (h1 : 1 ≤ n) : lowN (wideN n s) n 1 = n := (low_step (wideN n s) n 0).2 (fun h => by rw [wide_zero n s h1] at h; exact Bool.noConfusion h.1)
theorem neat_one (n s : Nat) (h1 : 1 ≤ n) : neatL n s 1 = [] := by
  show (if neatN n s 0 then _ else neatL n s 0) = []
  unfold neatN
  rw [wide_zero n s h1, Bool.and_false]
  rfl
end Go.Proofs.Ytgcfgegbbfbaaaa
