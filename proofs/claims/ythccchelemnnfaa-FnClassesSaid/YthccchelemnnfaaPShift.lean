/- The law FnShift: shifts lead back. -/
import Derived.Test.YthccchelemnnfaaPSum
import Derived.Test.YthccchelemnnfaaDavenport
namespace Go.Proofs.Ythccchelemnnfaa
open Go.RowKit Go.Shelf
set_option linter.unusedVariables false
def MovePost (W : World) (e : Ending) (w' : World) : Prop :=
  ∃ (n s : Nat) (k : Int), e = .returned (.tuple #[.int .i64 (n : Int), .int .i64 (s : Int), .int .i64 k]) ∧ 1 ≤ n ∧ n ≤ 13 ∧ s < 2 ^ 13 ∧ -20 ≤ k ∧ k ≤ 120 ∧ Below W.heap.size W w'
theorem shift_back (n s : Nat) (k : Int) (h1 : 1 ≤ n) (hs : s < 2 ^ n) : shiftN n (shiftN n s k) (0 - k) = s := by
  refine Nat.eq_of_testBit_eq fun i => ?_
  by_cases hi : i < n
  · rw [shift_mem n _ _ h1 (shiftN_lt n s k) i hi, shift_mem n s k h1 hs _ (rest_lt n _ h1)]
    have e : rest n (((rest n ((i : Int) - (0 - k)) : Nat) : Int) - k) = i := by
      rw [Int.sub_eq_add_neg, rest_rest n _ _ h1, show (i : Int) - (0 - k) + -k = (i : Int) by omega, rest_self n i hi]
    rw [e]
  · have e1 : (shiftN n (shiftN n s k) (0 - k)).testBit i = false := by
      by_cases hb : (shiftN n (shiftN n s k) (0 - k)).testBit i = true
      · exact absurd (lt_of_bits n _ (shiftN_lt n _ _) i hb) hi
      · simpa using hb
    have e2 : s.testBit i = false := by
      by_cases hb : s.testBit i = true
      · exact absurd (lt_of_bits n s hs i hb) hi
      · simpa using hb
    rw [e1, e2]
end Go.Proofs.Ythccchelemnnfaa
