/- Differences of sets: the model's greatest thin sets, least whole sets, and units that carry. Written by gen54.py. -/
import Derived.Test.YtaklmepioeoohaaDifB
import Derived.Test.YtaklmepioeoohaaDifQ
import Derived.BigQuiet
namespace Go.Proofs.Ytaklmepioeoohaa
open Go.RowKit Go.Shelf
set_option linter.unusedVariables false
theorem odd_at (j : Nat) : (2 * j + 1).testBit 0 = true := by rw [Nat.testBit_zero]; exact decide_eq_true (by omega)
theorem even_at (j : Nat) : (2 * j).testBit 0 = false := by rw [Nat.testBit_zero]; exact decide_eq_false (by omega)
theorem oddThin_even (n j : Nat) : oddThin n (2 * j) = false := by unfold oddThin; rw [even_at]; rfl
theorem oddWhole_even (n j : Nat) : oddWhole n (2 * j) = false := by unfold oddWhole; rw [even_at]; rfl
theorem oddThin_odd (n j : Nat) : oddThin n (2 * j + 1) = thinB n (2 * j + 1) := by unfold oddThin; rw [odd_at]; rfl
theorem oddWhole_odd (n j : Nat) : oddWhole n (2 * j + 1) = wholeP n (2 * j + 1) := by unfold oddWhole; rw [odd_at]; rfl
/-- The greatest size of the first j odd thin sets. -/
def tmS (n j : Nat) : Nat := topN (oddThin n) (2 * j + 1)
def wmS (n j : Nat) : Nat := lowN (oddWhole n) n (2 * j + 1)
theorem tm_zero (n : Nat) : tmS n 0 = 0 := (top_step (oddThin n) 0).2 (fun h => by
  have := oddThin_even n 0
  rw [Nat.mul_zero] at this
  rw [this] at h; cases h.1)
theorem wm_zero (n : Nat) : wmS n 0 = n := (low_step (oddWhole n) n 0).2 (fun h => by
  have := oddWhole_even n 0
  rw [Nat.mul_zero] at this
  rw [this] at h; cases h.1)
theorem tm_step (n j : Nat) : (thinB n (2 * j + 1) = true ∧ tmS n j < sizeN (2 * j + 1) → tmS n (j + 1) = sizeN (2 * j + 1)) ∧ (¬ (thinB n (2 * j + 1) = true ∧ tmS n j < sizeN (2 * j + 1)) → tmS n (j + 1) = tmS n j) := by
  have e : tmS n (j + 1) = topN (oddThin n) (2 * j + 1 + 1) := (top_step (oddThin n) (2 * j + 2)).2 (fun h => by
    have := oddThin_even n (j + 1)
    rw [show 2 * (j + 1) = 2 * j + 2 by omega] at this
    rw [this] at h; cases h.1)
  have := top_step (oddThin n) (2 * j + 1)
  rw [oddThin_odd] at this
  rw [e]
  exact this
theorem wm_step (n j : Nat) : (wholeP n (2 * j + 1) = true ∧ sizeN (2 * j + 1) < wmS n j → wmS n (j + 1) = sizeN (2 * j + 1)) ∧ (¬ (wholeP n (2 * j + 1) = true ∧ sizeN (2 * j + 1) < wmS n j) → wmS n (j + 1) = wmS n j) := by
  have e : wmS n (j + 1) = lowN (oddWhole n) n (2 * j + 1 + 1) := (low_step (oddWhole n) n (2 * j + 2)).2 (fun h => by
    have := oddWhole_even n (j + 1)
    rw [show 2 * (j + 1) = 2 * j + 2 by omega] at this
    rw [this] at h; cases h.1)
  have := low_step (oddWhole n) n (2 * j + 1)
  rw [oddWhole_odd] at this
  rw [e]
  exact this
theorem tm_end (n : Nat) (h1 : 1 ≤ n) : tmS n (2 ^ (n - 1)) = thinM n := by
  have e : 2 * 2 ^ (n - 1) = 2 ^ n := by rw [Nat.mul_comm, ← Nat.pow_succ]; congr 1; omega
  unfold tmS thinM
  rw [e]
  refine (top_step (oddThin n) (2 ^ n)).2 (fun h => ?_)
  have := oddThin_even n (2 ^ (n - 1))
  rw [e] at this
  rw [this] at h; cases h.1
theorem wm_end (n : Nat) (h1 : 1 ≤ n) : wmS n (2 ^ (n - 1)) = wholeM n := by
  have e : 2 * 2 ^ (n - 1) = 2 ^ n := by rw [Nat.mul_comm, ← Nat.pow_succ]; congr 1; omega
  unfold wmS wholeM
  rw [e]
  refine (low_step (oddWhole n) n (2 ^ n)).2 (fun h => ?_)
  have := oddWhole_even n (2 ^ (n - 1))
  rw [e] at this
  rw [this] at h; cases h.1
theorem all_wraps (N : Nat) (h1 : 1 ≤ N) (h : N ≤ 4096) : IntKind.i64.wrap ((N : Int) - 1) = ((N - 1 : Nat) : Int) ∧ wrap64 ((N : Int) - 1) = ((N - 1 : Nat) : Int) := two_wraps _ (N - 1) (by omega) (by omega)
theorem half_pow (n : Nat) (h1 : 1 ≤ n) : 2 ^ n = 2 * 2 ^ (n - 1) := by rw [Nat.mul_comm, ← Nat.pow_succ]; congr 1; omega
end Go.Proofs.Ytaklmepioeoohaa
