/- Halved places: rounds of an odd number of arcs, gone through one by one: what is computed. -/
import Derived.Test.YtjgpdmjfpcdklaaWalkF
namespace Go.Proofs.Ytjgpdmjfpcdklaa
set_option linter.unusedVariables false
def whF (n s : Nat) : Nat → Nat
  | 0 => 1
  | k + 1 => match stF n s (whF n s k) n with
    | 0 => 0
    | m + 1 => m + 1
theorem whF_set (n s k : Nat) : whF n s k = wsetN n s k := by
  induction k with
  | zero => rfl
  | succ k ih =>
    have e : whF n s (k + 1) = stF n s (whF n s k) n := by
      show (match stF n s (whF n s k) n with | 0 => 0 | m + 1 => m + 1) = _
      cases stF n s (whF n s k) n <;> rfl
    rw [e, stF_sum, ih]
    rfl
def oddF (n s k : Nat) : Bool := Nat.beq (whF n s k % 2) 0
def halfF (n s : Nat) : Bool := !halvesN n s || (halvesN n (bothN n s) && oddF n s 1 && oddF n s 3 && oddF n s 5 && oddF n s 7)
def spanH (n lo : Nat) : Nat → Bool
  | 0 => true
  | k + 1 => halfF n (2 * (lo + k)) && spanH n lo k
theorem spanH_ok (n lo k : Nat) (h : spanH n lo k = true) (b : Nat) (h1 : lo ≤ b) (h2 : b < lo + k) : halfF n (2 * b) = true := by
  induction k with
  | zero => omega
  | succ k ih =>
    have h' : (halfF n (2 * (lo + k)) && spanH n lo k) = true := h
    rw [Bool.and_eq_true] at h'
    by_cases e : b = lo + k
    · rw [e]; exact h'.1
    · exact ih h'.2 (by omega)
theorem spanH_12_0 : spanH 12 0 1024 = true := by decide +kernel
theorem spanH_12_1024 : spanH 12 1024 1024 = true := by decide +kernel
theorem spanH_11_0 : spanH 11 0 1024 = true := by decide +kernel
theorem spanH_10_0 : spanH 10 0 512 = true := by decide +kernel
theorem spanH_9_0 : spanH 9 0 256 = true := by decide +kernel
theorem spanH_8_0 : spanH 8 0 128 = true := by decide +kernel
theorem spanH_7_0 : spanH 7 0 64 = true := by decide +kernel
theorem spanH_6_0 : spanH 6 0 32 = true := by decide +kernel
theorem spanH_5_0 : spanH 5 0 16 = true := by decide +kernel
theorem spanH_4_0 : spanH 4 0 8 = true := by decide +kernel
theorem spanH_3_0 : spanH 3 0 4 = true := by decide +kernel
theorem spanH_2_0 : spanH 2 0 2 = true := by decide +kernel
theorem spanH_1_0 : spanH 1 0 1 = true := by decide +kernel
theorem halfF_1 (b : Nat) (h : b < 1) : halfF 1 (2 * b) = true := by
  exact spanH_ok 1 0 1 spanH_1_0 b (by omega) (by omega)
theorem halfF_2 (b : Nat) (h : b < 2) : halfF 2 (2 * b) = true := by
  exact spanH_ok 2 0 2 spanH_2_0 b (by omega) (by omega)
theorem halfF_3 (b : Nat) (h : b < 4) : halfF 3 (2 * b) = true := by
  exact spanH_ok 3 0 4 spanH_3_0 b (by omega) (by omega)
theorem halfF_4 (b : Nat) (h : b < 8) : halfF 4 (2 * b) = true := by
  exact spanH_ok 4 0 8 spanH_4_0 b (by omega) (by omega)
theorem halfF_5 (b : Nat) (h : b < 16) : halfF 5 (2 * b) = true := by
  exact spanH_ok 5 0 16 spanH_5_0 b (by omega) (by omega)
theorem halfF_6 (b : Nat) (h : b < 32) : halfF 6 (2 * b) = true := by
  exact spanH_ok 6 0 32 spanH_6_0 b (by omega) (by omega)
theorem halfF_7 (b : Nat) (h : b < 64) : halfF 7 (2 * b) = true := by
  exact spanH_ok 7 0 64 spanH_7_0 b (by omega) (by omega)
theorem halfF_8 (b : Nat) (h : b < 128) : halfF 8 (2 * b) = true := by
  exact spanH_ok 8 0 128 spanH_8_0 b (by omega) (by omega)
theorem halfF_9 (b : Nat) (h : b < 256) : halfF 9 (2 * b) = true := by
  exact spanH_ok 9 0 256 spanH_9_0 b (by omega) (by omega)
theorem halfF_10 (b : Nat) (h : b < 512) : halfF 10 (2 * b) = true := by
  exact spanH_ok 10 0 512 spanH_10_0 b (by omega) (by omega)
theorem halfF_11 (b : Nat) (h : b < 1024) : halfF 11 (2 * b) = true := by
  exact spanH_ok 11 0 1024 spanH_11_0 b (by omega) (by omega)
theorem halfF_12 (b : Nat) (h : b < 2048) : halfF 12 (2 * b) = true := by
  by_cases c0 : b < 1024
  · exact spanH_ok 12 0 1024 spanH_12_0 b (by omega) (by omega)
  exact spanH_ok 12 1024 1024 spanH_12_1024 b (by omega) (by omega)
theorem halfF_all (n s : Nat) (h1 : 1 ≤ n) (h2 : n ≤ 12) (hs : s < 2 ^ n) (h0 : s.testBit 0 = false) : halfF n s = true := by
  have he : s % 2 = 0 := by
    rw [Nat.testBit_zero] at h0
    have := Nat.mod_two_eq_zero_or_one s
    rcases this with e | e
    · exact e
    · rw [e] at h0; cases h0
  obtain ⟨b, rfl⟩ : ∃ b, s = 2 * b := ⟨s / 2, by omega⟩
  have hc : n = 1 ∨ n = 2 ∨ n = 3 ∨ n = 4 ∨ n = 5 ∨ n = 6 ∨ n = 7 ∨ n = 8 ∨ n = 9 ∨ n = 10 ∨ n = 11 ∨ n = 12 := by omega
  rcases hc with rfl | rfl | rfl | rfl | rfl | rfl | rfl | rfl | rfl | rfl | rfl | rfl
  · exact halfF_1 b (by omega)
  · exact halfF_2 b (by omega)
  · exact halfF_3 b (by omega)
  · exact halfF_4 b (by omega)
  · exact halfF_5 b (by omega)
  · exact halfF_6 b (by omega)
  · exact halfF_7 b (by omega)
  · exact halfF_8 b (by omega)
  · exact halfF_9 b (by omega)
  · exact halfF_10 b (by omega)
  · exact halfF_11 b (by omega)
  · exact halfF_12 b (by omega)
theorem odd_none (n s k : Nat) (h : oddF n s k = true) : (wsetN n s k).testBit 0 = false := by
  unfold oddF at h
  rw [whF_set] at h
  rw [Nat.testBit_zero, Nat.eq_of_beq_eq_true h]
  rfl
/-- Halved places have even ways back, and are halved by both. -/
theorem half_facts (n s : Nat) (h1 : 1 ≤ n) (h2 : n ≤ 12) (hs : s < 2 ^ n) (h0 : s.testBit 0 = false) (hh : halvesN n s = true) :
    halvesN n (bothN n s) = true ∧ (wsetN n s 1).testBit 0 = false ∧ (wsetN n s 3).testBit 0 = false ∧ (wsetN n s 5).testBit 0 = false ∧ (wsetN n s 7).testBit 0 = false := by
  have h := halfF_all n s h1 h2 hs h0
  unfold halfF at h
  rw [hh, Bool.not_true, Bool.false_or, Bool.and_eq_true, Bool.and_eq_true, Bool.and_eq_true, Bool.and_eq_true] at h
  obtain ⟨⟨⟨⟨a, b⟩, c⟩, d⟩, e⟩ := h
  exact ⟨a, odd_none n s 1 b, odd_none n s 3 c, odd_none n s 5 d, odd_none n s 7 e⟩
end Go.Proofs.Ytjgpdmjfpcdklaa
