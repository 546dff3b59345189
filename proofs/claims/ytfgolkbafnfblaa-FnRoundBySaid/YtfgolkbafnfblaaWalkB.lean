/- The model's numbers of walks. -/
import Derived.Test.YtfgolkbafnfblaaWalkA
import Derived.Test.YtfgolkbafnfblaaGE
namespace Go.Proofs.Ytfgolkbafnfblaa
open Go.RowKit
set_option linter.unusedVariables false
/-- The call has made a list of its own: the numbers of walks. -/
def WalksPost (w : World) (n : Nat) (xs : List Int) (e : Ending) (w' : World) : Prop :=
  ∃ g, e = .returned (.slice (some ⟨g, 0, none⟩) n n) ∧ Below w.heap.size w w' ∧ IsInts w' w.heap.size (.slice (some ⟨g, 0, none⟩) n n) xs
theorem wlk_first (n s : Nat) : (tabI n (fun _ => 0)).set 0 1 = tabW n (wlkN n s 0) := by
  rw [tabI_set]
  exact tabI_congr n _ _ fun x hx => by
    show (if x = 0 then (1 : Int) else 0) = ((if x = 0 then 1 else 0 : Nat) : Int)
    split <;> rfl
theorem half_set (n s : Nat) (f : Nat → Nat) (v d q : Nat) (hq : (v + d) % n = q) (z : Nat) (hz : z = halfW n s f v d q + f v * b2n (s.testBit d)) :
    (tabW n (halfW n s f v d)).set q ((z : Nat) : Int) = tabW n (halfW n s f v (d + 1)) := by
  unfold tabW
  rw [tabI_set]
  refine tabI_congr n _ _ fun x hx => ?_
  rw [half_step]
  unfold arcW
  by_cases e : x = q
  · subst e
    rw [if_pos rfl, if_pos hq, hz]
  · have e' : ¬ (v + d) % n = x := fun h => e (h.symm.trans hq)
    rw [if_neg e, if_neg e', Nat.add_zero]
end Go.Proofs.Ytfgolkbafnfblaa
