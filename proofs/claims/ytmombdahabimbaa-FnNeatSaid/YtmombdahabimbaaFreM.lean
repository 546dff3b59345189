/- What holds of fair colours by all steps: promises 53 and 54. -/
import Derived.Test.YtmombdahabimbaaFreLA
import Derived.Test.YtmombdahabimbaaFreLB
import Derived.Test.YtmombdahabimbaaFreLC
namespace Go.Proofs.Ytmombdahabimbaa
set_option linter.unusedVariables false
theorem oneC_all (n b : Nat) (h1 : 1 ≤ n) (h2 : n ≤ 8) (hb : b < 2 ^ (n - 1)) : oneC n (2 * b) = true := by
  have : n = 1 ∨ n = 2 ∨ n = 3 ∨ n = 4 ∨ n = 5 ∨ n = 6 ∨ n = 7 ∨ n = 8 := by omega
  rcases this with rfl | rfl | rfl | rfl | rfl | rfl | rfl | rfl
  · exact spanC_ok 1 1 spanC_1 b (by simpa using hb)
  · exact spanC_ok 2 2 spanC_2 b (by simpa using hb)
  · exact spanC_ok 3 4 spanC_3 b (by simpa using hb)
  · exact spanC_ok 4 8 spanC_4 b (by simpa using hb)
  · exact spanC_ok 5 16 spanC_5 b (by simpa using hb)
  · exact spanC_ok 6 32 spanC_6 b (by simpa using hb)
  · exact spanC_ok 7 64 spanC_7 b (by simpa using hb)
  · exact spanC_ok 8 128 spanC_8 b (by simpa using hb)
theorem wayC_ok (n q K j k : Nat) (h : wayC n q K j = true) (hk : k < j) : (waysM q k n 0 0 = 0 ↔ k < K) ∧ (k = 0 ∨ waysM q k n 0 0 % k = 0) := by
  induction j with
  | zero => omega
  | succ j ih =>
    have h' : (withB (fun y => (Nat.beq y 0 == Nat.blt j K) && (Nat.beq j 0 || Nat.beq (y % j) 0)) (waysM q j n 0 0) && wayC n q K j) = true := h
    rw [withB_eq, Bool.and_eq_true] at h'
    by_cases e : k = j
    · subst e
      have a : ((Nat.beq (waysM q k n 0 0) 0 == Nat.blt k K) && (Nat.beq k 0 || Nat.beq (waysM q k n 0 0 % k) 0)) = true := h'.1
      rw [Bool.and_eq_true, Bool.or_eq_true] at a
      obtain ⟨a1, a2⟩ := a
      have a1' := eq_of_beq a1
      refine ⟨⟨fun e => ?_, fun e => ?_⟩, ?_⟩
      · rw [e, Nat.beq_refl] at a1'
        exact (blt_iff k K).1 a1'.symm
      · rw [(blt_iff k K).2 e] at a1'
        exact Nat.eq_of_beq_eq_true a1'
      · rcases a2 with a2 | a2
        · exact .inl (Nat.eq_of_beq_eq_true a2)
        · exact .inr (Nat.eq_of_beq_eq_true a2)
    · exact ih h'.2 (by omega)
theorem half_of {n s : Nat} (h1 : 1 ≤ n) (hs : s < 2 ^ n) (h0 : s.testBit 0 = false) : ∃ b, s = 2 * b ∧ b < 2 ^ (n - 1) := by
  have he : s % 2 = 0 := by
    rw [Nat.testBit_zero] at h0
    rcases Nat.mod_two_eq_zero_or_one s with e | e
    · exact e
    · rw [e] at h0; cases h0
  refine ⟨s / 2, by omega, ?_⟩
  have : 2 ^ n = 2 * 2 ^ (n - 1) := by
    obtain ⟨m, rfl⟩ : ∃ m, n = m + 1 := ⟨n - 1, by omega⟩
    rw [Nat.pow_succ, Nat.add_sub_cancel]; omega
  omega
theorem facts_of (n s : Nat) (h1 : 1 ≤ n) (h2 : n ≤ 8) (hs : s < 2 ^ n) (h0 : s.testBit 0 = false) :
    (fullF n s ≤ colF n s ∧ n ≤ colF n s * mostF n s ∧ colF n s ≤ sizeN (bothN n s) + 1 ∧ (colF n s ≤ 2 ↔ halvesN n s = true)) ∧ (bothN n s = s → wayC n (bothN n s) (colF n s) 5 = true) := by
  obtain ⟨b, e, hb⟩ := half_of h1 hs h0
  have h := oneC_all n b h1 h2 hb
  rw [← e, oneC_eq, endC_eq, colM_eq n s h2] at h
  have hbl := bothN_lt n s h1 hs
  rw [mc_all n _ h1 (by omega) hbl, mc_all n _ h1 (by omega) (otherN_lt n _), Bool.and_eq_true] at h
  obtain ⟨a, c⟩ := h
  have m1 : mostF n (bothN n s) ≤ n := top_le _ _ n (by omega) (Nat.le_refl _)
  have m2 : mostF n (otherN n (bothN n s)) ≤ n := top_le _ _ n (by omega) (Nat.le_refl _)
  have e1 : (manyF n (bothN n s) * 16 + mostF n (bothN n s)) % 16 = mostF n (bothN n s) := by omega
  have e3 : (manyF n (otherN n (bothN n s)) * 16 + mostF n (otherN n (bothN n s))) % 16 = mostF n (otherN n (bothN n s)) := by omega
  unfold factC at a
  rw [e1, e3, Bool.and_eq_true, Bool.and_eq_true, Bool.and_eq_true] at a
  obtain ⟨⟨⟨a1, a2⟩, a3⟩, a4⟩ := a
  rw [mostF_both n s h1 (by omega) hs] at a2
  have a4' := eq_of_beq a4
  refine ⟨⟨Nat.le_of_ble_eq_true a1, Nat.le_of_ble_eq_true a2, ?_, fun hk => ?_, fun hk => ?_⟩, fun hq => ?_⟩
  · rw [sizeN_of n _ (by omega) hbl]
    exact Nat.le_of_ble_eq_true a3
  · rw [← a4']; exact Nat.ble_eq_true_of_le hk
  · rw [hk] at a4'; exact Nat.le_of_ble_eq_true a4'
  · rw [hq, Nat.beq_refl, if_pos rfl] at c
    rw [hq]
    exact c
/-- Promise 53. -/
theorem p_col (n s : Nat) (h1 : 1 ≤ n) (h2 : n ≤ 8) (hs : s < 2 ^ n) (h0 : s.testBit 0 = false) : fullF n s ≤ colF n s ∧ n ≤ colF n s * mostF n s ∧ colF n s ≤ sizeN (bothN n s) + 1 ∧ (colF n s ≤ 2 ↔ halvesN n s = true) := (facts_of n s h1 h2 hs h0).1
/-- Promise 54. -/
theorem p_ways (n s k : Nat) (h1 : 1 ≤ n) (h2 : n ≤ 8) (hs : s < 2 ^ n) (h0 : s.testBit 0 = false) (hk : k ≤ 4) : (waysF n s k = 0 ↔ k < colF n s) ∧ (k = 0 ∨ waysF n s k % k = 0) ∧ waysF n s k ≤ k ^ n := by
  have hbl := bothN_lt n s h1 hs
  have hbb := both_both n s h1 hs
  have h := (facts_of n (bothN n s) h1 h2 hbl (both_zero_bit n s h1 hs h0)).2 hbb
  rw [hbb] at h
  obtain ⟨a, b⟩ := wayC_ok n (bothN n s) (colF n (bothN n s)) 5 k h (by omega)
  have e1 : waysM (bothN n s) k n 0 0 = waysF n s k := waysF_M n s k h2
  have e2 : colF n (bothN n s) = colF n s := by
    show leastK (canF n (bothN n s)) 8 1 = leastK (canF n s) 8 1
    congr 1
    funext j
    show canN (bothN n (bothN n s)) j n [] 0 = canN (bothN n s) j n [] 0
    rw [hbb]
  rw [e1] at a b
  rw [e2] at a
  exact ⟨a, b, cways_le _ k n []⟩
end Go.Proofs.Ytmombdahabimbaa
