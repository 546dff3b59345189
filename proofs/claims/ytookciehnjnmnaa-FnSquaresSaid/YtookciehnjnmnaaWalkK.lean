/- The square of a sum is at most as many times the sum of the squares. -/
import Derived.Test.YtookciehnjnmnaaWalkH
namespace Go.Proofs.Ytookciehnjnmnaa
set_option linter.unusedVariables false
theorem two_sq (a b : Nat) : 2 * (a * b) ≤ a * a + b * b := by
  rcases Nat.le_total a b with h | h
  · obtain ⟨c, rfl⟩ : ∃ c, b = a + c := ⟨b - a, by omega⟩
    simp only [Nat.mul_add, Nat.add_mul, Nat.mul_comm c a]
    omega
  · obtain ⟨c, rfl⟩ : ∃ c, a = b + c := ⟨a - b, by omega⟩
    simp only [Nat.mul_add, Nat.add_mul, Nat.mul_comm c b]
    omega
theorem sum_two (f : Nat → Nat) (x k : Nat) : 2 * (sumTo f k * x) ≤ sumTo (fun v => f v * f v) k + k * (x * x) := by
  induction k with
  | zero => show 2 * (0 * x) ≤ _; rw [Nat.zero_mul]; exact Nat.zero_le _
  | succ k ih =>
    have h := two_sq (f k) x
    show 2 * ((sumTo f k + f k) * x) ≤ (sumTo (fun v => f v * f v) k + f k * f k) + (k + 1) * (x * x)
    simp only [Nat.add_mul, Nat.mul_add, Nat.one_mul] at ih ⊢
    omega
theorem sum_sq (f : Nat → Nat) (k : Nat) : sumTo f k * sumTo f k ≤ k * sumTo (fun v => f v * f v) k := by
  induction k with
  | zero => exact Nat.le_refl _
  | succ k ih =>
    have h := sum_two f (f k) k
    show (sumTo f k + f k) * (sumTo f k + f k) ≤ (k + 1) * (sumTo (fun v => f v * f v) k + f k * f k)
    simp only [Nat.add_mul, Nat.mul_add, Nat.one_mul, Nat.mul_comm (f k) (sumTo f k)]
    omega
/-- As many times the squares as places are at least the square of all walks. -/
theorem walk_sq (n s k : Nat) : sumTo (wlkN n s k) n * sumTo (wlkN n s k) n ≤ sqN n s k n * n := by
  rw [Nat.mul_comm (sqN n s k n) n]
  exact sum_sq (wlkN n s k) n
end Go.Proofs.Ytookciehnjnmnaa
