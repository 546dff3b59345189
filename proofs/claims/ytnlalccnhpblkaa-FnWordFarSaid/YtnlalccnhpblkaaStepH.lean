/- Whether places can be given two colours: the program. -/
import Derived.Test.YtnlalccnhpblkaaGC
namespace Go.Proofs.Ytnlalccnhpblkaa
open Go.RowKit Go.Shelf
set_option linter.unusedVariables false
attribute [local go_sem] Oper.semAt_some
theorem quo_nat (a b : Nat) (ha : a < 2 ^ 40) : wrap64 ((a : Int) / (b : Int)) = ((a / b : Nat) : Int) := by
  have h : (a : Int) / (b : Int) = ((a / b : Nat) : Int) := (Int.natCast_ediv a b).symm
  have hd : a / b ≤ a := Nat.div_le_self a b
  rw [h]
  generalize a / b = q at hd
  exact IntWalk.wrap64_in _ (by omega)
theorem rem2_nat (a : Nat) : (a : Int).tmod 2 = ((a % 2 : Nat) : Int) := (Int.ofNat_tmod a 2).symm
end Go.Proofs.Ytnlalccnhpblkaa
