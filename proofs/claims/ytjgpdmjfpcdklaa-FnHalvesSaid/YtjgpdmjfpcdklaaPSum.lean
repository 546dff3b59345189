/- The law FnSum: sums go both ways, and have enough places. -/
import Derived.Test.YtjgpdmjfpcdklaaDraw3
import Derived.Test.YtjgpdmjfpcdklaaGB
namespace Go.Proofs.Ytjgpdmjfpcdklaa
open Go.RowKit Go.Shelf
set_option linter.unusedVariables false
theorem popF_le (f s : Nat) : popF f s ≤ f := by
  induction f generalizing s with
  | zero => exact Nat.le_refl _
  | succ f ih =>
    have h1 := ih (s / 2)
    have h2 : s % 2 < 2 := Nat.mod_lt _ (by omega)
    show s % 2 + popF f (s / 2) ≤ f + 1
    omega
theorem sum_none (n a : Nat) : sumN n a 0 = 0 := by
  have h : ∀ j, overSet 0 (sumS n a) j 0 = 0 := by
    intro j
    induction j with
    | zero => rfl
    | succ j ih =>
      show (if (0 : Nat).testBit j then sumS n a j (overSet 0 (sumS n a) j 0) else overSet 0 (sumS n a) j 0) = 0
      rw [Nat.zero_testBit]
      simpa using ih
  exact h n
end Go.Proofs.Ytjgpdmjfpcdklaa
