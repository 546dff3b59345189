/- Rounds: the model's first one, and how many. -/
import Derived.Test.YtnlalccnhpblkaaGG
namespace Go.Proofs.Ytnlalccnhpblkaa
open Go.RowKit Go.Shelf
set_option linter.unusedVariables false
attribute [local go_sem] Oper.semAt_some
theorem getD_last (xs : List Int) (v : Int) : (xs ++ [v]).getD ((xs ++ [v]).length - 1) 0 = v := by
  rw [List.getD_eq_getElem?_getD, List.length_append]
  simp
/-- How many rounds there are, and the first one. -/
def manyN (n s : Nat) : Nat := cntN n s (n - 1) 0 1
def firstR (n s : Nat) : List Int := putF [0] (firN n s (n - 1) 0 1)
theorem many_le (n s : Nat) (h1 : 1 ≤ n) (h9 : n ≤ 9) : manyN n s ≤ 40320 :=
  Nat.le_trans (cnt_fac n s (n - 1) 0 1 (free_one n h1)) (fac_small (n - 1) (by omega))
end Go.Proofs.Ytnlalccnhpblkaa
