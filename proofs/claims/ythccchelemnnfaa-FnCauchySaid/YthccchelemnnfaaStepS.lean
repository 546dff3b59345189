/- The model's loops of chapter 2. -/
import Derived.Test.YthccchelemnnfaaStepA
namespace Go.Proofs.Ythccchelemnnfaa
open Go.RowKit
set_option linter.unusedVariables false
/-- All places to which ways of at most k arcs lead from 0. -/
def iterN (n s : Nat) (k : Nat) : Nat := upto (fun _ x => x ||| sumN n s x) k 1
theorem iterN_lt (n s k : Nat) (h1 : 1 ≤ n) : iterN n s k < 2 ^ n := by
  refine upto_lt _ n k 1 ?_ (fun v x hv hx => Nat.or_lt_two_pow hx (sumN_lt n s x))
  obtain ⟨m, rfl⟩ : ∃ m, n = m + 1 := ⟨n - 1, by omega⟩
  have := Nat.two_pow_pos m
  rw [Nat.pow_succ]; omega
theorem l2Part_any (n s : Nat) (w : World) (h1 : 1 ≤ n) (h2 : n ≤ 12) (hs : s < 2 ^ n) :
    Calls Try.prog 51 #[.int .i64 (n:Int), .int .i64 (s:Int), .int .i64 1] w fun e w' => e = .returned (.int .i64 ((iterN n s n : Nat) : Int)) ∧ w = w' := by
  have hp := pow_le n h2
  go_enter Try.func51, Try.ntmps51
  go_wp2
  go_loop [2, 7] (fun u v => ∃ j : Nat, j ≤ n ∧ u = .int .i64 ((iterN n s j : Nat) : Int) ∧ v = .int .i64 (j : Int)) (fun _ v => n - (intOf v).toNat)
  case atStart => exact ⟨0, Nat.zero_le _, rfl, rfl⟩
  case round =>
    obtain ⟨j, hj, rfl, rfl⟩ := hrel
    by_cases hlt : j < n
    · have hi := iterN_lt n s j h1
      have hsl := sumN_lt n s (iterN n s j)
      have HC := Lib.hid (l1Sum_any n (iterN n s j) s w h1 h2 hi hs)
      have HO := or_nat (iterN n s j) (sumN n s (iterN n s j)) (by omega) (by omega)
      have HS := Lib.hid (show iterN n s (j + 1) = iterN n s j ||| sumN n s (iterN n s j) from rfl)
      generalize sumN n s (iterN n s j) = q at *
      generalize iterN n s j = g at *
      go_wp2_with (go_at_call 45; refine HC.out.mono ?_; rintro e w' ⟨rfl, rfl⟩)
      go_round
      case rel => exact ⟨j + 1, by omega, by rw [HS.out], by go_num⟩
      case measure => simp [intOf]; omega
    · have e : j = n := by omega
      subst e
      go_wp2
      go_ret
      exact ⟨rfl, rfl⟩
/-- The greatest common divisor of n and all steps. -/
def partsS (v x : Nat) : Nat := Nat.gcd x v
def partsN (n s : Nat) : Nat := overSet s partsS n n
theorem partsO_pos (n s j : Nat) (h1 : 1 ≤ n) : 1 ≤ overSet s partsS j n ∧ overSet s partsS j n ≤ n := by
  induction j with
  | zero => exact ⟨h1, Nat.le_refl _⟩
  | succ j ih =>
    rw [over_step]
    split
    · have h2 := Nat.gcd_pos_of_pos_left j ih.1
      have h3 := Nat.le_of_dvd ih.1 (Nat.gcd_dvd_left (overSet s partsS j n) j)
      show 1 ≤ Nat.gcd (overSet s partsS j n) j ∧ Nat.gcd (overSet s partsS j n) j ≤ n
      omega
    · exact ih
theorem partsN_pos (n s : Nat) (h1 : 1 ≤ n) : 1 ≤ partsN n s ∧ partsN n s ≤ n := partsO_pos n s n h1
/-- Whether each step changes one of two colours, and the way around does not. -/
def halfV (n g v : Nat) : Prop := v / g % 2 ≠ 0 ∧ n / g % 2 ≠ 1
def halvesN (n s : Nat) : Bool := decide (∀ v, v < n → s.testBit v = true → ¬ (v / partsN n s % 2 = 0 ∨ n / partsN n s % 2 = 1))
theorem halves_not (n s v : Nat) (hv : v < n) (hb : s.testBit v = true) (h : v / partsN n s % 2 = 0 ∨ n / partsN n s % 2 = 1) : halvesN n s = false := by
  unfold halvesN
  rw [decide_eq_false_iff_not]
  exact fun hh => hh v hv hb h
theorem halves_all (n s : Nat) (h : ∀ v, v < n → s.testBit v = true → ¬ (v / partsN n s % 2 = 0 ∨ n / partsN n s % 2 = 1)) : halvesN n s = true := by
  unfold halvesN
  rw [decide_eq_true_eq]
  exact h
theorem nonzero_bit (n s : Nat) (hs : s < 2 ^ n) (h : s ≠ 0) : ∃ v, v < n ∧ s.testBit v = true := by
  refine Classical.byContradiction fun hn => h (Nat.eq_of_testBit_eq fun i => ?_)
  rw [Nat.zero_testBit]
  cases hb : s.testBit i
  · rfl
  · exact absurd ⟨i, lt_of_bits n s hs i hb, hb⟩ hn
/-- The number of arcs from places of a set to others. -/
def cutS (n s set v x : Nat) : Nat := x + sizeN (lessN (shiftN n s v) set)
def cutsN (n s set : Nat) : Nat := overSet set (cutS n s set) n 0
theorem sizeN_le (n s : Nat) (h2 : n ≤ 12) (hs : s < 2 ^ n) : sizeN s ≤ n := by
  rw [sizeN_of n s h2 hs]
  clear hs h2
  induction n generalizing s with
  | zero => exact Nat.le_refl _
  | succ n ih =>
    have := ih (s / 2)
    show s % 2 + popF n (s / 2) ≤ n + 1
    omega
theorem cutO_le (n s set j : Nat) (h2 : n ≤ 12) : overSet set (cutS n s set) j 0 ≤ 12 * j := by
  induction j with
  | zero => exact Nat.le_refl _
  | succ j ih =>
    rw [over_step]
    split
    · unfold cutS
      have := sizeN_le n (lessN (shiftN n s j) set) h2 (lessN_lt _ (shiftN_lt n s j))
      unfold cutS at ih
      omega
    · omega
end Go.Proofs.Ythccchelemnnfaa
