/- The law FnRing: sets have others. -/
import Derived.Test.YthccchelemnnfaaPSum
import Derived.Test.YthccchelemnnfaaRingC
namespace Go.Proofs.Ythccchelemnnfaa
open Go.RowKit Go.Shelf
set_option linter.unusedVariables false
def PairPost (W : World) (e : Ending) (w' : World) : Prop :=
  ∃ x y : Int, e = .returned (.tuple #[.int .i64 x, .int .i64 y]) ∧ Below W.heap.size W w'
theorem sum_one (n s : Nat) (h1 : 1 ≤ n) (hs : s < 2 ^ n) : sumN n s 1 = s := by
  have h0 : ∀ v : Nat, (1 : Nat).testBit v = true ↔ v = 0 := fun v => by
    rw [show (1 : Nat) = 2 ^ 0 from rfl, Nat.testBit_two_pow, decide_eq_true_eq]; omega
  refine Nat.eq_of_testBit_eq fun i => ?_
  rw [Bool.eq_iff_iff, sumN_bit n s 1 i h1 hs]
  constructor
  · rintro ⟨v, w, h2, h3, h4, h5, h6⟩
    obtain rfl := (h0 v).1 h3
    rw [Nat.zero_add, Nat.mod_eq_of_lt h4] at h6
    rw [← h6]; exact h5
  · intro h
    have hi := lt_of_bits n s hs i h
    exact ⟨0, i, by omega, (h0 0).2 rfl, hi, h, by rw [Nat.zero_add, Nat.mod_eq_of_lt hi]⟩
end Go.Proofs.Ythccchelemnnfaa
