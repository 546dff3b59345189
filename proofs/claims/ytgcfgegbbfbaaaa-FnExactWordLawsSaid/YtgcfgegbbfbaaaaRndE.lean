/- Rounds: one step. -/
import Derived.Test.YtgcfgegbbfbaaaaGG
import Derived.Test.YtgcfgegbbfbaaaaGB
namespace Go.Proofs.Ytgcfgegbbfbaaaa
open Go.RowKit
set_option linter.unusedVariables false
theorem wraps_at' (x : Int) (q : Nat) (h : x = (q : Int)) (hq : q ≤ 1000000) : IntKind.i64.wrap x = (q : Int) ∧ wrap64 x = (q : Int) := by
  subst h
  exact ⟨IntWalk.i64_in _ ⟨by omega, by omega⟩, IntWalk.wrap64_in _ ⟨by omega, by omega⟩⟩
/-- The step k alone. -/
def NoOne (n k : Int) : Prop := ¬ (1 ≤ n ∧ n ≤ 12 ∧ 1 ≤ k ∧ k ≤ n - 1)
end Go.Proofs.Ytgcfgegbbfbaaaa
