/- Both ways of eliminating, on every ring of at most 11 places by all even steps: in bounds, and the same. -/
import Derived.Test.YtookciehnjnmnaaTreeP
namespace Go.Proofs.Ytookciehnjnmnaa
set_option linter.unusedVariables false
def treeR (n b : Nat) : List (List Int) := rowsT n b (countT b n : Nat) 1 (n - 1)
def bothB (n b : Nat) : Bool := !evenT n b n || (okF (n - 1) 1 (treeR n b) && (!Nat.beq (partsN n b) 1 || (okG (n - 1) 1 (treeR n b) && detG (n - 1) 1 (treeR n b) == treeN n b)) && (Nat.beq (partsN n b) 1 || treeN n b == 0) && Nat.ble (countT b n) 12)
def spanU (n lo : Nat) : Nat → Bool
  | 0 => true
  | k + 1 => bothB n (2 * (lo + k)) && spanU n lo k
theorem spanU_ok (n lo k : Nat) (h : spanU n lo k = true) (b : Nat) (h1 : lo ≤ b) (h2 : b < lo + k) : bothB n (2 * b) = true := by
  induction k with
  | zero => omega
  | succ k ih =>
    have h' : (bothB n (2 * (lo + k)) && spanU n lo k) = true := h
    rw [Bool.and_eq_true] at h'
    by_cases e : b = lo + k
    · rw [e]; exact h'.1
    · exact ih h'.2 (by omega)
theorem spanU_11_0 : spanU 11 0 512 = true := by decide +kernel
theorem spanU_11_512 : spanU 11 512 512 = true := by decide +kernel
theorem spanU_10_0 : spanU 10 0 512 = true := by decide +kernel
theorem spanU_9_0 : spanU 9 0 256 = true := by decide +kernel
theorem spanU_8_0 : spanU 8 0 128 = true := by decide +kernel
theorem spanU_7_0 : spanU 7 0 64 = true := by decide +kernel
theorem spanU_6_0 : spanU 6 0 32 = true := by decide +kernel
theorem spanU_5_0 : spanU 5 0 16 = true := by decide +kernel
theorem spanU_4_0 : spanU 4 0 8 = true := by decide +kernel
theorem spanU_3_0 : spanU 3 0 4 = true := by decide +kernel
theorem spanU_2_0 : spanU 2 0 2 = true := by decide +kernel
theorem spanU_1_0 : spanU 1 0 1 = true := by decide +kernel
theorem bothB_1 (b : Nat) (h : b < 1) : bothB 1 (2 * b) = true := by
  exact spanU_ok 1 0 1 spanU_1_0 b (by omega) (by omega)
theorem bothB_2 (b : Nat) (h : b < 2) : bothB 2 (2 * b) = true := by
  exact spanU_ok 2 0 2 spanU_2_0 b (by omega) (by omega)
theorem bothB_3 (b : Nat) (h : b < 4) : bothB 3 (2 * b) = true := by
  exact spanU_ok 3 0 4 spanU_3_0 b (by omega) (by omega)
theorem bothB_4 (b : Nat) (h : b < 8) : bothB 4 (2 * b) = true := by
  exact spanU_ok 4 0 8 spanU_4_0 b (by omega) (by omega)
theorem bothB_5 (b : Nat) (h : b < 16) : bothB 5 (2 * b) = true := by
  exact spanU_ok 5 0 16 spanU_5_0 b (by omega) (by omega)
theorem bothB_6 (b : Nat) (h : b < 32) : bothB 6 (2 * b) = true := by
  exact spanU_ok 6 0 32 spanU_6_0 b (by omega) (by omega)
theorem bothB_7 (b : Nat) (h : b < 64) : bothB 7 (2 * b) = true := by
  exact spanU_ok 7 0 64 spanU_7_0 b (by omega) (by omega)
theorem bothB_8 (b : Nat) (h : b < 128) : bothB 8 (2 * b) = true := by
  exact spanU_ok 8 0 128 spanU_8_0 b (by omega) (by omega)
theorem bothB_9 (b : Nat) (h : b < 256) : bothB 9 (2 * b) = true := by
  exact spanU_ok 9 0 256 spanU_9_0 b (by omega) (by omega)
theorem bothB_10 (b : Nat) (h : b < 512) : bothB 10 (2 * b) = true := by
  exact spanU_ok 10 0 512 spanU_10_0 b (by omega) (by omega)
theorem bothB_11 (b : Nat) (h : b < 1024) : bothB 11 (2 * b) = true := by
  by_cases c0 : b < 512
  · exact spanU_ok 11 0 512 spanU_11_0 b (by omega) (by omega)
  exact spanU_ok 11 512 512 spanU_11_512 b (by omega) (by omega)
theorem both_facts (n b : Nat) (h1 : 1 ≤ n) (h2 : n ≤ 11) (hb : b < 2 ^ n) (h0 : b.testBit 0 = false) (he : evenT n b n = true) :
    okF (n - 1) 1 (treeR n b) = true ∧ (partsN n b = 1 → okG (n - 1) 1 (treeR n b) = true ∧ detG (n - 1) 1 (treeR n b) = treeN n b) ∧ (partsN n b ≠ 1 → treeN n b = 0) := by
  have hs : b % 2 = 0 := by
    rw [Nat.testBit_zero] at h0
    have := Nat.mod_two_eq_zero_or_one b
    rcases this with e | e
    · exact e
    · rw [e] at h0; cases h0
  obtain ⟨c, rfl⟩ : ∃ c, b = 2 * c := ⟨b / 2, by omega⟩
  have key : bothB n (2 * c) = true := by
    have hc : n = 1 ∨ n = 2 ∨ n = 3 ∨ n = 4 ∨ n = 5 ∨ n = 6 ∨ n = 7 ∨ n = 8 ∨ n = 9 ∨ n = 10 ∨ n = 11 := by omega
    rcases hc with rfl | rfl | rfl | rfl | rfl | rfl | rfl | rfl | rfl | rfl | rfl
    · exact bothB_1 c (by omega)
    · exact bothB_2 c (by omega)
    · exact bothB_3 c (by omega)
    · exact bothB_4 c (by omega)
    · exact bothB_5 c (by omega)
    · exact bothB_6 c (by omega)
    · exact bothB_7 c (by omega)
    · exact bothB_8 c (by omega)
    · exact bothB_9 c (by omega)
    · exact bothB_10 c (by omega)
    · exact bothB_11 c (by omega)
  unfold bothB at key
  rw [he, Bool.not_true, Bool.false_or, Bool.and_eq_true, Bool.and_eq_true, Bool.and_eq_true] at key
  obtain ⟨⟨⟨a, d⟩, e⟩, _⟩ := key
  refine ⟨a, fun hp => ?_, fun hp => ?_⟩
  · rw [hp] at d
    have : (okG (n - 1) 1 (treeR n (2 * c)) && detG (n - 1) 1 (treeR n (2 * c)) == treeN n (2 * c)) = true := d
    rw [Bool.and_eq_true] at this
    exact ⟨this.1, eq_of_beq this.2⟩
  · have hb : Nat.beq (partsN n (2 * c)) 1 = false := by
      cases h : Nat.beq (partsN n (2 * c)) 1
      · rfl
      · exact absurd (Nat.eq_of_beq_eq_true h) hp
    rw [hb, Bool.false_or] at e
    exact eq_of_beq e
end Go.Proofs.Ytookciehnjnmnaa
