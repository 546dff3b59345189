/- Trees of steps on every ring of at most 11 places by all even steps. -/
import Derived.Test.YtookciehnjnmnaaTreeF
namespace Go.Proofs.Ytookciehnjnmnaa
set_option linter.unusedVariables false
theorem spanT_ok (n lo k : Nat) (h : spanT n lo k = true) (b : Nat) (h1 : lo ≤ b) (h2 : b < lo + k) : treeB n (2 * b) = true := by
  induction k with
  | zero => omega
  | succ k ih =>
    have h' : (treeB n (2 * (lo + k)) && spanT n lo k) = true := h
    rw [Bool.and_eq_true] at h'
    by_cases e : b = lo + k
    · rw [e]; exact h'.1
    · exact ih h'.2 (by omega)
theorem spanT_11_0 : spanT 11 0 512 = true := by decide +kernel
theorem spanT_11_512 : spanT 11 512 512 = true := by decide +kernel
theorem spanT_10_0 : spanT 10 0 512 = true := by decide +kernel
theorem spanT_9_0 : spanT 9 0 256 = true := by decide +kernel
theorem spanT_8_0 : spanT 8 0 128 = true := by decide +kernel
theorem spanT_7_0 : spanT 7 0 64 = true := by decide +kernel
theorem spanT_6_0 : spanT 6 0 32 = true := by decide +kernel
theorem spanT_5_0 : spanT 5 0 16 = true := by decide +kernel
theorem spanT_4_0 : spanT 4 0 8 = true := by decide +kernel
theorem spanT_3_0 : spanT 3 0 4 = true := by decide +kernel
theorem spanT_2_0 : spanT 2 0 2 = true := by decide +kernel
theorem spanT_1_0 : spanT 1 0 1 = true := by decide +kernel
theorem treeB_1 (b : Nat) (h : b < 1) : treeB 1 (2 * b) = true := by
  exact spanT_ok 1 0 1 spanT_1_0 b (by omega) (by omega)
theorem treeB_2 (b : Nat) (h : b < 2) : treeB 2 (2 * b) = true := by
  exact spanT_ok 2 0 2 spanT_2_0 b (by omega) (by omega)
theorem treeB_3 (b : Nat) (h : b < 4) : treeB 3 (2 * b) = true := by
  exact spanT_ok 3 0 4 spanT_3_0 b (by omega) (by omega)
theorem treeB_4 (b : Nat) (h : b < 8) : treeB 4 (2 * b) = true := by
  exact spanT_ok 4 0 8 spanT_4_0 b (by omega) (by omega)
theorem treeB_5 (b : Nat) (h : b < 16) : treeB 5 (2 * b) = true := by
  exact spanT_ok 5 0 16 spanT_5_0 b (by omega) (by omega)
theorem treeB_6 (b : Nat) (h : b < 32) : treeB 6 (2 * b) = true := by
  exact spanT_ok 6 0 32 spanT_6_0 b (by omega) (by omega)
theorem treeB_7 (b : Nat) (h : b < 64) : treeB 7 (2 * b) = true := by
  exact spanT_ok 7 0 64 spanT_7_0 b (by omega) (by omega)
theorem treeB_8 (b : Nat) (h : b < 128) : treeB 8 (2 * b) = true := by
  exact spanT_ok 8 0 128 spanT_8_0 b (by omega) (by omega)
theorem treeB_9 (b : Nat) (h : b < 256) : treeB 9 (2 * b) = true := by
  exact spanT_ok 9 0 256 spanT_9_0 b (by omega) (by omega)
theorem treeB_10 (b : Nat) (h : b < 512) : treeB 10 (2 * b) = true := by
  exact spanT_ok 10 0 512 spanT_10_0 b (by omega) (by omega)
theorem treeB_11 (b : Nat) (h : b < 1024) : treeB 11 (2 * b) = true := by
  by_cases c0 : b < 512
  · exact spanT_ok 11 0 512 spanT_11_0 b (by omega) (by omega)
  exact spanT_ok 11 512 512 spanT_11_512 b (by omega) (by omega)
theorem treeB_all (n s : Nat) (h1 : 1 ≤ n) (h2 : n ≤ 11) (hs : s < 2 ^ n) (h0 : s.testBit 0 = false) : treeB n s = true := by
  have he : s % 2 = 0 := by
    rw [Nat.testBit_zero] at h0
    have := Nat.mod_two_eq_zero_or_one s
    rcases this with e | e
    · exact e
    · rw [e] at h0; cases h0
  obtain ⟨b, rfl⟩ : ∃ b, s = 2 * b := ⟨s / 2, by omega⟩
  have hc : n = 1 ∨ n = 2 ∨ n = 3 ∨ n = 4 ∨ n = 5 ∨ n = 6 ∨ n = 7 ∨ n = 8 ∨ n = 9 ∨ n = 10 ∨ n = 11 := by omega
  rcases hc with rfl | rfl | rfl | rfl | rfl | rfl | rfl | rfl | rfl | rfl | rfl
  · exact treeB_1 b (by omega)
  · exact treeB_2 b (by omega)
  · exact treeB_3 b (by omega)
  · exact treeB_4 b (by omega)
  · exact treeB_5 b (by omega)
  · exact treeB_6 b (by omega)
  · exact treeB_7 b (by omega)
  · exact treeB_8 b (by omega)
  · exact treeB_9 b (by omega)
  · exact treeB_10 b (by omega)
  · exact treeB_11 b (by omega)
theorem beq_dec (a b : Nat) : Nat.beq a b = decide (a = b) := by
  cases h : Nat.beq a b
  · exact (decide_eq_false (Nat.ne_of_beq_eq_false h)).symm
  · exact (decide_eq_true (Nat.eq_of_beq_eq_true h)).symm
theorem tree_facts (n b : Nat) (h1 : 1 ≤ n) (h2 : n ≤ 11) (hb : b < 2 ^ n) (h0 : b.testBit 0 = false) (he : evenT n b n = true) :
    (treeN n b = 0 ↔ 1 < partsN n b) ∧ (countT b n + 1 = n → treeN n b = ((n ^ (n - 2) : Nat) : Int)) ∧ 0 ≤ treeN n b ∧
    (countT b n = 2 → ¬ (n % 2 = 0 ∧ b.testBit (n / 2) = true) → partsN n b = 1 → treeN n b = (n : Int)) := by
  have h := treeB_all n b h1 h2 hb h0
  unfold treeB at h
  rw [he, Bool.not_true, Bool.false_or] at h
  simp only [] at h
  generalize treeN n b = t at *
  generalize partsN n b = p at *
  generalize countT b n = c at *
  rw [Bool.and_eq_true, Bool.and_eq_true, Bool.and_eq_true] at h
  obtain ⟨⟨⟨a, b'⟩, d⟩, e⟩ := h
  refine ⟨?_, fun hc => ?_, of_decide_eq_true d, fun hc hn hp => ?_⟩
  · have e1 : Nat.blt 1 p = decide (1 < p) := by
      cases hq : Nat.blt 1 p
      · exact (decide_eq_false (fun h => by rw [Eq.mpr Nat.blt_eq h] at hq; cases hq)).symm
      · exact (decide_eq_true (Eq.mp Nat.blt_eq hq)).symm
    rw [e1, beq_iff_eq] at a
    by_cases c1 : t = 0 <;> by_cases c2 : 1 < p <;> simp_all
  · rw [beq_dec, decide_eq_true hc, Bool.not_true, Bool.false_or] at b'
    exact eq_of_beq b'
  · have e2 : (n % 2 == 0 && b.testBit (n / 2)) = false := by
      cases hq : (n % 2 == 0 && b.testBit (n / 2))
      · rfl
      · rw [Bool.and_eq_true, beq_iff_eq] at hq
        exact absurd hq hn
    rw [beq_dec, beq_dec, decide_eq_true hc, decide_eq_true hp, e2] at e
    simpa using e
end Go.Proofs.Ytookciehnjnmnaa
