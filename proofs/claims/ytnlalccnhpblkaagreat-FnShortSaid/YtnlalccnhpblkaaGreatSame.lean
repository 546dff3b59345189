/- Lists of integers in the laws that say more than that two answers are alike. -/
import Derived.Test.YtnlalccnhpblkaaGreatGD
import Derived.Test.YtnlalccnhpblkaaGreatGC
namespace Go.Proofs.YtnlalccnhpblkaaGreat
open Go.RowKit
set_option linter.unusedVariables false
/-- The sum of the first k of a list of natural numbers. -/
def sumL (xs : List Int) (k : Nat) : Nat := sumTo (fun i => (xs.getD i 0).toNat) k
theorem sumL_le (xs : List Int) (c k : Nat) (h : ∀ i, i < xs.length → xs.getD i 0 ≤ (c : Int)) : sumL xs k ≤ c * k := by
  unfold sumL
  induction k with
  | zero => simp [sumTo]
  | succ k ih =>
    show sumTo _ k + (xs.getD k 0).toNat ≤ c * (k + 1)
    have hk : (xs.getD k 0).toNat ≤ c := by
      by_cases e : k < xs.length
      · have := h k e; omega
      · rw [List.getD_eq_getElem?_getD, List.getElem?_eq_none (by omega)]; simp
    rw [Nat.mul_succ]
    omega
end Go.Proofs.YtnlalccnhpblkaaGreat
