/- The model's walks: numbers, sets, full ones, lengths of rounds, squares. -/
import Derived.Test.YtfgolkbafnfblaaWalkB
namespace Go.Proofs.Ytfgolkbafnfblaa
open Go.RowKit
set_option linter.unusedVariables false
theorem sq_le (f : Nat → Nat) (n j T : Nat) (hT : sumTo f n ≤ T) (hj : j ≤ n) : sumTo (fun v => f v * f v) j ≤ T * sumTo f j := by
  induction j with
  | zero => exact Nat.le_refl _
  | succ j ih =>
    have a := ih (by omega)
    have b := Nat.mul_le_mul (Nat.le_trans (sumTo_at f n j (by omega)) hT) (Nat.le_refl (f j))
    show sumTo (fun v => f v * f v) j + f j * f j ≤ T * (sumTo f j + f j)
    rw [Nat.mul_add]
    omega
/-- The sum of the squares of the numbers of walks. -/
def sqN (n s k : Nat) (j : Nat) : Nat := sumTo (fun v => wlkN n s k v * wlkN n s k v) j
theorem sqN_le (n s k j : Nat) (h1 : 1 ≤ n) (h2 : n ≤ 12) (h0 : s.testBit 0 = false) (hk : k ≤ 5) (hj : j ≤ n) : sqN n s k j ≤ 25937424601 := by
  have t : sumTo (wlkN n s k) n ≤ 161051 := by
    rw [wlk_total n s k h1]
    have b : degN n s ≤ 11 := by
      obtain ⟨m, rfl⟩ : ∃ m, n = m + 1 := ⟨n - 1, by omega⟩
      have := deg_le m s h0
      omega
    exact Nat.le_trans (Nat.pow_le_pow_left b k) (Nat.pow_le_pow_right (n := 11) (by omega) hk)
  have a := sq_le (wlkN n s k) n j 161051 t hj
  have b := Nat.mul_le_mul (Nat.le_refl 161051) (Nat.le_trans (sumTo_mono (wlkN n s k) j n hj) t)
  exact Nat.le_trans a b
theorem mul_walks (a : Nat) (ha : a ≤ 161051) : IntKind.i64.wrap ((a : Int) * (a : Int)) = ((a * a : Nat) : Int) ∧ wrap64 ((a : Int) * (a : Int)) = ((a * a : Nat) : Int) ∧ a * a ≤ 25937424601 := by
  have h := Nat.mul_le_mul ha ha
  rw [← Int.natCast_mul]
  generalize a * a = p at *
  exact ⟨IntWalk.i64_in _ ⟨by omega, by omega⟩, IntWalk.wrap64_in _ ⟨by omega, by omega⟩, h⟩
/-- The set of the places to which a walk of k arcs leads. -/
def wsetN (n s : Nat) : Nat → Nat
  | 0 => 1
  | k + 1 => sumN n s (wsetN n s k)
theorem wset_lt (n s k : Nat) (h1 : 1 ≤ n) : wsetN n s k < 2 ^ n := by
  cases k with
  | zero => exact Nat.one_lt_two_pow (by omega)
  | succ k => exact sumN_lt n s _
/-- The greatest common divisor of the lengths of rounds of at most k arcs. -/
def wturnN (n s : Nat) : Nat → Nat
  | 0 => 0
  | k + 1 => if (wsetN n s (k + 1)).testBit 0 then Nat.gcd (wturnN n s k) (k + 1) else wturnN n s k
theorem wturn_le (n s k : Nat) : wturnN n s k ≤ k := by
  induction k with
  | zero => exact Nat.le_refl _
  | succ k ih =>
    show (if (wsetN n s (k + 1)).testBit 0 then Nat.gcd (wturnN n s k) (k + 1) else wturnN n s k) ≤ k + 1
    split
    · exact Nat.le_of_dvd (by omega) (Nat.gcd_dvd_right _ _)
    · omega
end Go.Proofs.Ytfgolkbafnfblaa
