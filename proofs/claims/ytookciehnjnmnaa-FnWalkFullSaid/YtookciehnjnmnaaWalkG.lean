/- Walks on every ring of at most 12 places: full sets come just where rounds have no common length, before as many arcs as places; lengths of rounds are told by differences. -/
import Derived.Test.YtookciehnjnmnaaWalkFA
import Derived.Test.YtookciehnjnmnaaWalkFB
import Derived.Test.YtookciehnjnmnaaWalkFC
namespace Go.Proofs.Ytookciehnjnmnaa
set_option linter.unusedVariables false
theorem oneF_1 (b : Nat) (h : b < 1) : oneF 1 (2 * b) = true := by
  exact spanF_ok 1 0 1 spanF_1_0 b (by omega) (by omega)
theorem oneF_2 (b : Nat) (h : b < 2) : oneF 2 (2 * b) = true := by
  exact spanF_ok 2 0 2 spanF_2_0 b (by omega) (by omega)
theorem oneF_3 (b : Nat) (h : b < 4) : oneF 3 (2 * b) = true := by
  exact spanF_ok 3 0 4 spanF_3_0 b (by omega) (by omega)
theorem oneF_4 (b : Nat) (h : b < 8) : oneF 4 (2 * b) = true := by
  exact spanF_ok 4 0 8 spanF_4_0 b (by omega) (by omega)
theorem oneF_5 (b : Nat) (h : b < 16) : oneF 5 (2 * b) = true := by
  exact spanF_ok 5 0 16 spanF_5_0 b (by omega) (by omega)
theorem oneF_6 (b : Nat) (h : b < 32) : oneF 6 (2 * b) = true := by
  exact spanF_ok 6 0 32 spanF_6_0 b (by omega) (by omega)
theorem oneF_7 (b : Nat) (h : b < 64) : oneF 7 (2 * b) = true := by
  exact spanF_ok 7 0 64 spanF_7_0 b (by omega) (by omega)
theorem oneF_8 (b : Nat) (h : b < 128) : oneF 8 (2 * b) = true := by
  exact spanF_ok 8 0 128 spanF_8_0 b (by omega) (by omega)
theorem oneF_9 (b : Nat) (h : b < 256) : oneF 9 (2 * b) = true := by
  exact spanF_ok 9 0 256 spanF_9_0 b (by omega) (by omega)
theorem oneF_10 (b : Nat) (h : b < 512) : oneF 10 (2 * b) = true := by
  exact spanF_ok 10 0 512 spanF_10_0 b (by omega) (by omega)
theorem oneF_11 (b : Nat) (h : b < 1024) : oneF 11 (2 * b) = true := by
  by_cases c0 : b < 512
  · exact spanF_ok 11 0 512 spanF_11_0 b (by omega) (by omega)
  exact spanF_ok 11 512 512 spanF_11_512 b (by omega) (by omega)
theorem oneF_12 (b : Nat) (h : b < 2048) : oneF 12 (2 * b) = true := by
  by_cases c0 : b < 512
  · exact spanF_ok 12 0 512 spanF_12_0 b (by omega) (by omega)
  by_cases c1 : b < 1024
  · exact spanF_ok 12 512 512 spanF_12_512 b (by omega) (by omega)
  by_cases c2 : b < 1536
  · exact spanF_ok 12 1024 512 spanF_12_1024 b (by omega) (by omega)
  exact spanF_ok 12 1536 512 spanF_12_1536 b (by omega) (by omega)
theorem oneF_all (n s : Nat) (h1 : 1 ≤ n) (h2 : n ≤ 12) (hs : s < 2 ^ n) (h0 : s.testBit 0 = false) : oneF n s = true := by
  have he : s % 2 = 0 := by
    rw [Nat.testBit_zero] at h0
    have := Nat.mod_two_eq_zero_or_one s
    rcases this with e | e
    · exact e
    · rw [e] at h0; cases h0
  obtain ⟨b, rfl⟩ : ∃ b, s = 2 * b := ⟨s / 2, by omega⟩
  have hc : n = 1 ∨ n = 2 ∨ n = 3 ∨ n = 4 ∨ n = 5 ∨ n = 6 ∨ n = 7 ∨ n = 8 ∨ n = 9 ∨ n = 10 ∨ n = 11 ∨ n = 12 := by omega
  rcases hc with rfl | rfl | rfl | rfl | rfl | rfl | rfl | rfl | rfl | rfl | rfl | rfl
  · exact oneF_1 b (by omega)
  · exact oneF_2 b (by omega)
  · exact oneF_3 b (by omega)
  · exact oneF_4 b (by omega)
  · exact oneF_5 b (by omega)
  · exact oneF_6 b (by omega)
  · exact oneF_7 b (by omega)
  · exact oneF_8 b (by omega)
  · exact oneF_9 b (by omega)
  · exact oneF_10 b (by omega)
  · exact oneF_11 b (by omega)
  · exact oneF_12 b (by omega)
theorem walk_facts (n s : Nat) (h1 : 1 ≤ n) (h2 : n ≤ 12) (hs : s < 2 ^ n) (h0 : s.testBit 0 = false) :
    (s ≠ 0 → 1 ≤ wturnN n s (2 * n) ∧ (fstN n s (2 * n) ≠ 99 ↔ wturnN n s (2 * n) = 1 ∧ partsN n s = 1) ∧ wturnN n s (2 * n) * partsN n s = backP n s) ∧ (fstN n s (2 * n) ≠ 99 → fstN n s (2 * n) < n) ∧ wturnN n s (2 * n) = wturnN n s n := by
  have h := one_end n s (oneF_all n s h1 h2 hs h0)
  rw [haf_at n s (2 * n) h1 (by omega)] at h
  generalize wturnN n s n = g0 at *
  generalize wturnN n s (2 * n) = g at *
  generalize fstN n s (2 * n) = f at *
  generalize partsN n s = p at *
  generalize backP n s = q at *
  unfold endF at h
  rw [Bool.and_eq_true, Bool.and_eq_true, Bool.or_eq_true, Bool.or_eq_true] at h
  obtain ⟨⟨c0, a⟩, b⟩ := h
  refine ⟨fun hs0 => ?_, fun hf => ?_, Nat.eq_of_beq_eq_true c0⟩
  · rcases a with a | a
    · exact absurd (Nat.eq_of_beq_eq_true a) hs0
    · rw [Bool.and_eq_true, Bool.and_eq_true] at a
      obtain ⟨⟨a1, a2⟩, a3⟩ := a
      refine ⟨Nat.le_of_ble_eq_true a1, ?_, Nat.eq_of_beq_eq_true a3⟩
      have e1 : Nat.beq f 99 = decide (f = 99) := by
        cases hb : Nat.beq f 99
        · exact (decide_eq_false (Nat.ne_of_beq_eq_false hb)).symm
        · exact (decide_eq_true (Nat.eq_of_beq_eq_true hb)).symm
      have e2 : Nat.beq g 1 = decide (g = 1) := by
        cases hb : Nat.beq g 1
        · exact (decide_eq_false (Nat.ne_of_beq_eq_false hb)).symm
        · exact (decide_eq_true (Nat.eq_of_beq_eq_true hb)).symm
      have e3 : Nat.beq p 1 = decide (p = 1) := by
        cases hb : Nat.beq p 1
        · exact (decide_eq_false (Nat.ne_of_beq_eq_false hb)).symm
        · exact (decide_eq_true (Nat.eq_of_beq_eq_true hb)).symm
      rw [e1, e2, e3] at a2
      by_cases c1 : f = 99 <;> by_cases c2 : g = 1 <;> by_cases c3 : p = 1 <;> simp_all
  · rcases b with b | b
    · exact absurd (Nat.eq_of_beq_eq_true b) hf
    · exact Nat.le_of_ble_eq_true b
end Go.Proofs.Ytookciehnjnmnaa
