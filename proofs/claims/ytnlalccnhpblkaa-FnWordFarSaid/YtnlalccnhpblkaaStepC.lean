/- The number of arcs from a set to others: the program. -/
import Derived.Test.YtnlalccnhpblkaaGC
import Derived.Test.YtnlalccnhpblkaaStepZ
namespace Go.Proofs.Ytnlalccnhpblkaa
open Go.RowKit Go.Shelf
set_option linter.unusedVariables false
attribute [local go_sem] Oper.semAt_some
theorem cutS_lt (n s t v x k : Nat) (h2 : n ≤ 12) (hx : x < 12 * k + 1) : cutS n s t v x < 12 * (k + 1) + 1 := by
  unfold cutS
  have := sizeN_le n (lessN (shiftN n s v) t) h2 (lessN_lt _ (shiftN_lt n s v))
  omega
theorem cutF_lt (n s t : Nat) (h2 : n ≤ 12) (pre : List Nat) : fold (cutS n s t) 0 pre ≤ 12 * pre.length := by
  have h : ∀ (l : List Nat) (a : Nat), l.foldl (fun x v => cutS n s t v x) a ≤ a + 12 * l.length := by
    intro l
    induction l with
    | nil => intro a; simp
    | cons v l ih =>
      intro a
      have := ih (cutS n s t v a)
      have hb := sizeN_le n (lessN (shiftN n s v) t) h2 (lessN_lt _ (shiftN_lt n s v))
      simp only [List.foldl_cons, List.length_cons]
      have e : cutS n s t v a = a + sizeN (lessN (shiftN n s v) t) := rfl
      omega
  have := h pre 0
  unfold fold
  omega
end Go.Proofs.Ytnlalccnhpblkaa
