/- What holds of sets that watch, and of neat ones: promises 55 and 56. -/
import Derived.Test.YtmombdahabimbaaFreH
import Derived.Test.YtmombdahabimbaaGB
namespace Go.Proofs.Ytmombdahabimbaa
set_option linter.unusedVariables false
theorem or_one_lt' (n s : Nat) (h1 : 1 ≤ n) (hs : s < 2 ^ n) : s ||| 1 < 2 ^ n := Nat.or_lt_two_pow hs (by have := Nat.pow_le_pow_right (n := 2) (by omega) h1; omega)
theorem wide_sum (n s x : Nat) : wideN n s x = true ↔ sumN n (s ||| 1) x = 2 ^ n - 1 := by
  unfold wideN
  exact ⟨Nat.eq_of_beq_eq_true, fun h => by rw [h]; exact Nat.beq_refl _⟩
theorem size_or_one (s : Nat) (hs : s < 2 ^ 40) (h0 : s.testBit 0 = false) : sizeN (s ||| 1) = sizeN s + 1 := by
  show (s ||| 1) % 2 + popF 39 ((s ||| 1) / 2) = s % 2 + popF 39 (s / 2) + 1
  have e1 : (s ||| 1) % 2 = 1 := by rw [bit_zero, Nat.testBit_or]; simp
  have e2 : s % 2 = 0 := by rw [bit_zero, h0]; rfl
  have e3 : (s ||| 1) / 2 = s / 2 := Nat.eq_of_testBit_eq fun i => by
    rw [Nat.testBit_div_two, Nat.testBit_or, Nat.testBit_div_two, show Nat.testBit 1 (i + 1) = false by simp [Nat.testBit_succ], Bool.or_false]
  rw [e1, e2, e3]
  omega
theorem sizeF_all (n : Nat) (h2 : n ≤ 12) : sizeN (2 ^ n - 1) = n := by
  have : n = 0 ∨ n = 1 ∨ n = 2 ∨ n = 3 ∨ n = 4 ∨ n = 5 ∨ n = 6 ∨ n = 7 ∨ n = 8 ∨ n = 9 ∨ n = 10 ∨ n = 11 ∨ n = 12 := by omega
  rcases this with rfl | rfl | rfl | rfl | rfl | rfl | rfl | rfl | rfl | rfl | rfl | rfl | rfl <;> decide
/-- A set that watches has enough places. -/
theorem wide_size (n s x : Nat) (h1 : 1 ≤ n) (h2 : n ≤ 12) (hs : s < 2 ^ n) (h0 : s.testBit 0 = false) (hx : x < 2 ^ n) (h : wideN n s x = true) : n ≤ sizeN x * (sizeN s + 1) := by
  have a := size_sum_le n (s ||| 1) x h1 h2 (or_one_lt' n s h1 hs) hx
  rw [(wide_sum n s x).1 h, sizeF_all n h2, size_or_one s (Nat.lt_of_lt_of_le hs (Nat.pow_le_pow_right (by omega) (by omega))) h0, Nat.mul_comm] at a
  exact a
theorem watch_size (n s : Nat) (h1 : 1 ≤ n) (h2 : n ≤ 12) (hs : s < 2 ^ n) (h0 : s.testBit 0 = false) : n ≤ watchF n s * (sizeN s + 1) := by
  rcases low_at (wideN n s) n (2 ^ n) with e | ⟨x, hx, hw, e⟩
  · show n ≤ lowN (wideN n s) n (2 ^ n) * (sizeN s + 1)
    rw [e]
    exact Nat.le_mul_of_pos_right n (by omega)
  · show n ≤ lowN (wideN n s) n (2 ^ n) * (sizeN s + 1)
    rw [← e]
    exact wide_size n s x h1 h2 hs h0 hx hw
theorem watch_pos (n s : Nat) (h1 : 1 ≤ n) (h2 : n ≤ 12) (hs : s < 2 ^ n) (h0 : s.testBit 0 = false) : 1 ≤ watchF n s := by
  have := watch_size n s h1 h2 hs h0
  cases h : watchF n s with
  | zero => rw [h, Nat.zero_mul] at this; omega
  | succ k => omega
/-- Steps that are all. -/
theorem all_steps (n s : Nat) (h1 : 1 ≤ n) (h2 : n ≤ 12) (hs : s < 2 ^ n) (h0 : s.testBit 0 = false) (h : sizeN s = n - 1) : s ||| 1 = 2 ^ n - 1 := by
  have a := other_size n s h1 h2 hs h0
  have b : sizeN (otherN n s) = 0 := by omega
  have c : otherN n s = 0 := Decidable.byContradiction fun hne => by
    have := size_pos (otherN n s) (Nat.lt_of_lt_of_le (otherN_lt n s) (Nat.pow_le_pow_right (by omega) (by omega))) hne
    omega
  refine Nat.eq_of_testBit_eq fun i => ?_
  rw [Nat.testBit_two_pow_sub_one]
  by_cases hi : i < n
  · rw [decide_eq_true hi, Nat.testBit_or]
    have d := otherN_bit n s i
    rw [c, Nat.zero_testBit, decide_eq_true hi] at d
    by_cases h0' : i = 0
    · subst h0'; simp
    · rw [decide_eq_false h0'] at d
      cases hb : s.testBit i
      · rw [hb] at d; cases d
      · rfl
  · rw [decide_eq_false hi]
    exact Nat.testBit_lt_two_pow (Nat.lt_of_lt_of_le (or_one_lt' n s h1 hs) (Nat.pow_le_pow_right (by omega) (by omega)))
theorem sum_zero_set (n a : Nat) (h1 : 1 ≤ n) (ha : a < 2 ^ n) : sumN n a 1 = a := by
  refine Nat.eq_of_testBit_eq fun i => ?_
  have key := sumN_bit n a 1 i h1 ha
  have h1b : ∀ v, (1 : Nat).testBit v = true ↔ v = 0 := fun v => by
    cases v with
    | zero => simp
    | succ v => simp [Nat.testBit_succ]
  cases hb : a.testBit i
  · cases hs : (sumN n a 1).testBit i
    · rfl
    · obtain ⟨v, w, hv, bv, hw, bw, e⟩ := key.1 hs
      rw [(h1b v).1 bv, Nat.zero_add, Nat.mod_eq_of_lt hw] at e
      rw [e, hb] at bw
      cases bw
  · have hi := lt_of_bits n a ha i hb
    exact key.2 ⟨0, i, h1, (h1b 0).2 rfl, hi, hb, by rw [Nat.zero_add]; exact Nat.mod_eq_of_lt hi⟩
/-- Promise 55. -/
theorem p_watch (n s : Nat) (h1 : 1 ≤ n) (h2 : n ≤ 12) (hs : s < 2 ^ n) (h0 : s.testBit 0 = false) : n ≤ watchF n s * (sizeN s + 1) ∧ (watchF n s = 1 ↔ sizeN s = n - 1) ∧ watchF n (bothN n s) ≤ mostF n s ∧ watchF n (bothN n s) ≤ watchF n s := by
  have hw := watch_size n s h1 h2 hs h0
  refine ⟨hw, ⟨fun h => ?_, fun h => ?_⟩, ?_, ?_⟩
  · rw [h, Nat.one_mul] at hw
    have := other_size n s h1 h2 hs h0
    omega
  · have ha := all_steps n s h1 h2 hs h0 h
    have hp : (1 : Nat) < 2 ^ n := by have := Nat.pow_le_pow_right (n := 2) (by omega) h1; omega
    have hwd : wideN n s 1 = true := by rw [wide_sum, sum_zero_set n _ h1 (or_one_lt' n s h1 hs), ha]
    have a : watchF n s ≤ sizeN 1 := low_lb (wideN n s) n (2 ^ n) 1 hp hwd
    have b : sizeN 1 = 1 := by decide
    have c := watch_pos n s h1 h2 hs h0
    omega
  · obtain ⟨x, hx, _, hsz, hwd⟩ := (free_facts n s h1 h2 hs h0).wide
    have a : watchF n (bothN n s) ≤ sizeN x := low_lb (wideN n (bothN n s)) n (2 ^ n) x hx hwd
    rw [hsz, mostF_both n s h1 h2 hs] at a
    exact a
  · rcases low_at (wideN n s) n (2 ^ n) with e | ⟨x, hx, hwd, e⟩
    · show watchF n (bothN n s) ≤ lowN (wideN n s) n (2 ^ n)
      rw [e]
      exact low_le _ _ _
    · show watchF n (bothN n s) ≤ lowN (wideN n s) n (2 ^ n)
      rw [← e]
      refine low_lb (wideN n (bothN n s)) n (2 ^ n) x hx ?_
      rw [wide_sum] at hwd ⊢
      have hbl := or_one_lt' n _ h1 (bothN_lt n s h1 hs)
      refine Nat.eq_of_testBit_eq fun i => ?_
      by_cases hi : i < n
      · have hbit : (sumN n (s ||| 1) x).testBit i = true := by rw [hwd, Nat.testBit_two_pow_sub_one]; exact decide_eq_true hi
        obtain ⟨v, w, hv, bv, hw', bw, e'⟩ := (sumN_bit n _ x i h1 (or_one_lt' n s h1 hs)).1 hbit
        rw [Nat.testBit_two_pow_sub_one, decide_eq_true hi]
        refine (sumN_bit n _ x i h1 hbl).2 ⟨v, w, hv, bv, hw', ?_, e'⟩
        rw [Nat.testBit_or] at bw ⊢
        rw [both_bit n s w h1 hs hw']
        cases hsb : s.testBit w
        · rw [hsb, Bool.false_or] at bw; rw [bw, Bool.or_true]
        · rfl
      · rw [Nat.testBit_two_pow_sub_one, decide_eq_false hi]
        exact Nat.testBit_lt_two_pow (Nat.lt_of_lt_of_le (sumN_lt n _ x) (Nat.pow_le_pow_right (by omega) (by omega)))
theorem neat_mem (n s k y : Nat) : (y : Int) ∈ neatL n s k ↔ y < k ∧ neatN n s y = true := by
  induction k with
  | zero =>
    constructor
    · intro h; simp [neatL] at h
    · rintro ⟨h, _⟩; omega
  | succ k ih =>
    have e : neatL n s (k + 1) = if neatN n s k then neatL n s k ++ [(k : Int)] else neatL n s k := rfl
    rw [e]
    cases hk : neatN n s k
    · rw [if_neg (by simp), ih]
      constructor
      · rintro ⟨a, b⟩; exact ⟨by omega, b⟩
      · rintro ⟨a, b⟩
        refine ⟨?_, b⟩
        have : y ≠ k := fun c => by rw [c, hk] at b; cases b
        omega
    · rw [if_pos rfl, List.mem_append, ih, List.mem_singleton]
      constructor
      · rintro (⟨a, b⟩ | a)
        · exact ⟨by omega, b⟩
        · have : y = k := Int.ofNat.inj a
          subst this
          exact ⟨by omega, hk⟩
      · rintro ⟨a, b⟩
        by_cases c : y = k
        · subst c; exact .inr rfl
        · exact .inl ⟨by omega, b⟩
theorem neat_get (n s k i : Nat) (hi : i < (neatL n s k).length) : ∃ x : Nat, (neatL n s k).getD i 0 = (x : Int) ∧ x < k ∧ neatN n s x = true := by
  have hm : (neatL n s k).getD i 0 ∈ neatL n s k := by
    rw [List.getD_eq_getElem?_getD, List.getElem?_eq_getElem hi]
    exact List.getElem_mem hi
  have all : ∀ z ∈ neatL n s k, ∃ x : Nat, z = (x : Int) := by
    clear hm hi
    induction k with
    | zero => intro z hz; simp [neatL] at hz
    | succ k ih =>
      intro z hz
      have e : neatL n s (k + 1) = if neatN n s k then neatL n s k ++ [(k : Int)] else neatL n s k := rfl
      rw [e] at hz
      split at hz
      · rw [List.mem_append, List.mem_singleton] at hz
        rcases hz with a | a
        · exact ih z a
        · exact ⟨k, a⟩
      · exact ih z hz
  obtain ⟨x, hx⟩ := all _ hm
  rw [hx] at hm
  obtain ⟨a, b⟩ := (neat_mem n s k x).1 hm
  exact ⟨x, hx, a, b⟩
/-- The sum of a set shifted by 1 is all, if the sum of the set is. -/
theorem wide_shift (n s x : Nat) (h1 : 1 ≤ n) (h2 : n ≤ 12) (hs : s < 2 ^ n) (hx : x < 2 ^ n) (h : wideN n s x = true) : wideN n s (shiftN n x 1) = true := by
  rw [wide_sum] at h ⊢
  have ho := or_one_lt' n s h1 hs
  refine Nat.eq_of_testBit_eq fun i => ?_
  by_cases hi : i < n
  · have hj : (i + (n - 1)) % n < n := Nat.mod_lt _ (by omega)
    have hbit : (sumN n (s ||| 1) x).testBit ((i + (n - 1)) % n) = true := by rw [h, Nat.testBit_two_pow_sub_one]; exact decide_eq_true hj
    obtain ⟨v, w, hv, bv, hw, bw, e⟩ := (sumN_bit n _ x _ h1 ho).1 hbit
    rw [Nat.testBit_two_pow_sub_one, decide_eq_true hi]
    have hr := rest_lt n ((v : Int) + 1) h1
    refine (sumN_bit n _ _ i h1 ho).2 ⟨rest n ((v : Int) + 1), w, hr, (shiftN_bit n x 1 h1 hx _).2 ⟨v, hv, bv, rfl⟩, hw, bw, ?_⟩
    clear hbit h hr ho
    unfold rest
    rcases twelveG h1 h2 with rfl | rfl | rfl | rfl | rfl | rfl | rfl | rfl | rfl | rfl | rfl | rfl <;> omega
  · rw [Nat.testBit_two_pow_sub_one, decide_eq_false hi]
    exact Nat.testBit_lt_two_pow (Nat.lt_of_lt_of_le (sumN_lt n _ _) (Nat.pow_le_pow_right (by omega) (by omega)))
/-- Promise 56: what holds of a neat set. -/
theorem p_neat (n s x : Nat) (h1 : 1 ≤ n) (h2 : n ≤ 12) (hs : s < 2 ^ n) (h0 : s.testBit 0 = false) (hx : x < 2 ^ n) (h : neatN n s x = true) :
    sizeN x * (sizeN s + 1) = n ∧ sumN n (s ||| 1) x = 2 ^ n - 1 ∧ sizeN x = watchF n s ∧ neatN n s (shiftN n x 1) = true := by
  have hso := size_or_one s (Nat.lt_of_lt_of_le hs (Nat.pow_le_pow_right (by omega) (by omega))) h0
  unfold neatN at h
  rw [Bool.and_eq_true] at h
  obtain ⟨a, b⟩ := h
  have a' := Nat.eq_of_beq_eq_true a
  rw [hso] at a'
  have lw : watchF n s ≤ sizeN x := low_lb (wideN n s) n (2 ^ n) x hx b
  have hi : sizeN x ≤ watchF n s := by
    have c := watch_size n s h1 h2 hs h0
    generalize watchF n s = W at *
    generalize sizeN x = X at *
    generalize sizeN s + 1 = S at *
    have hS : 0 < S := by
      cases S with
      | zero => simp at a'; omega
      | succ S => omega
    rw [← a'] at c
    exact Nat.le_of_mul_le_mul_right c hS
  refine ⟨a', (wide_sum n s x).1 b, Nat.le_antisymm hi lw, ?_⟩
  · unfold neatN
    rw [size_shift n x 1 h1 h2 hx, a, wide_shift n s x h1 h2 hs hx b]
    rfl
def sumG (n i m : Nat) : Nat := if Nat.beq (stF n i i n &&& i) 0 && Nat.blt m (popF n i) then popF n i else m
theorem suml_step (n i : Nat) (h2 : n ≤ 12) (hi : i < 2 ^ n) : topN (sumlN n) (i + 1) = sumG n i (topN (sumlN n) i) := by
  show (if sumlN n i && Nat.blt (topN (sumlN n) i) (sizeN i) then sizeN i else topN (sumlN n) i) = _
  unfold sumG
  rw [stF_sum, sizeN_of n i h2 hi]
  rfl
theorem suml_all (n : Nat) (h2 : n ≤ 12) : foldR (sumG n) n 0 0 = sumlF n := by
  have h := foldR_lt (sumG n) (topN (sumlN n)) n (fun i hi => suml_step n i h2 hi) n 0 (by omega)
  rw [Nat.zero_add] at h
  exact h
def sumlB (n m : Nat) : Bool := Nat.ble (2 * m) n && (Nat.beq (2 * m) n == Nat.beq (n % 2) 0)
theorem sumlB_1 : sumlB 1 (foldR (sumG 1) 1 0 0) = true := by decide +kernel
theorem sumlB_2 : sumlB 2 (foldR (sumG 2) 2 0 0) = true := by decide +kernel
theorem sumlB_3 : sumlB 3 (foldR (sumG 3) 3 0 0) = true := by decide +kernel
theorem sumlB_4 : sumlB 4 (foldR (sumG 4) 4 0 0) = true := by decide +kernel
theorem sumlB_5 : sumlB 5 (foldR (sumG 5) 5 0 0) = true := by decide +kernel
theorem sumlB_6 : sumlB 6 (foldR (sumG 6) 6 0 0) = true := by decide +kernel
theorem sumlB_7 : sumlB 7 (foldR (sumG 7) 7 0 0) = true := by decide +kernel
theorem sumlB_8 : sumlB 8 (foldR (sumG 8) 8 0 0) = true := by decide +kernel
theorem sumlB_9 : sumlB 9 (foldR (sumG 9) 9 0 0) = true := by decide +kernel
theorem sumlB_10 : sumlB 10 (foldR (sumG 10) 10 0 0) = true := by decide +kernel
theorem sumlB_11 : sumlB 11 (foldR (sumG 11) 11 0 0) = true := by decide +kernel
theorem sumlB_12 : sumlB 12 (foldR (sumG 12) 12 0 0) = true := by decide +kernel
/-- Promise 57. -/
theorem p_suml (n : Nat) (h1 : 1 ≤ n) (h2 : n ≤ 12) : 2 * sumlF n ≤ n ∧ (2 * sumlF n = n ↔ n % 2 = 0) := by
  have h : sumlB n (sumlF n) = true := by
    rcases twelveG h1 h2 with rfl | rfl | rfl | rfl | rfl | rfl | rfl | rfl | rfl | rfl | rfl | rfl
    · rw [← suml_all 1 h2]; exact sumlB_1
    · rw [← suml_all 2 h2]; exact sumlB_2
    · rw [← suml_all 3 h2]; exact sumlB_3
    · rw [← suml_all 4 h2]; exact sumlB_4
    · rw [← suml_all 5 h2]; exact sumlB_5
    · rw [← suml_all 6 h2]; exact sumlB_6
    · rw [← suml_all 7 h2]; exact sumlB_7
    · rw [← suml_all 8 h2]; exact sumlB_8
    · rw [← suml_all 9 h2]; exact sumlB_9
    · rw [← suml_all 10 h2]; exact sumlB_10
    · rw [← suml_all 11 h2]; exact sumlB_11
    · rw [← suml_all 12 h2]; exact sumlB_12
  unfold sumlB at h
  rw [Bool.and_eq_true] at h
  obtain ⟨a, b⟩ := h
  have b' := eq_of_beq b
  refine ⟨Nat.le_of_ble_eq_true a, fun e => ?_, fun e => ?_⟩
  · rw [e, Nat.beq_refl] at b'
    exact Nat.eq_of_beq_eq_true b'.symm
  · rw [e, Nat.beq_refl] at b'
    exact Nat.eq_of_beq_eq_true b'
end Go.Proofs.Ytmombdahabimbaa
