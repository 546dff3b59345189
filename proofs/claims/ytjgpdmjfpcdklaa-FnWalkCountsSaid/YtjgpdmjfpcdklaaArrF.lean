/- Full sets and lengths of rounds: the program. -/
import Derived.Test.YtjgpdmjfpcdklaaArrE
namespace Go.Proofs.Ytjgpdmjfpcdklaa
open Go.RowKit Go.Shelf
set_option linter.unusedVariables false
attribute [local go_sem] Oper.semAt_some
theorem mset_all (n s k : Nat) (h1 : 1 ≤ n) (h2 : n ≤ 12) : (∀ x, x < 12 → msetN n s k x = allP n x) ↔ wsetN n s k = 2 ^ n - 1 := by
  constructor
  · intro h
    refine Nat.eq_of_testBit_eq fun x => ?_
    rw [Nat.testBit_two_pow_sub_one]
    by_cases c : x < n
    · have a := h x (by omega)
      unfold msetN allP at a
      rw [if_pos c] at a
      cases hb : (wsetN n s k).testBit x
      · rw [hb] at a; cases a
      · simp [c]
    · rw [Nat.testBit_lt_two_pow (Nat.lt_of_lt_of_le (wset_lt n s k h1) (Nat.pow_le_pow_right (by omega) (by omega)))]
      simp [c]
  · intro h x hx
    unfold msetN allP
    rw [h, Nat.testBit_two_pow_sub_one]
    by_cases c : x < n <;> simp [c, b2n]
theorem turn_lt (n s k : Nat) (h2 : n ≤ 12) (hk : k ≤ n) : wturnN n s k < 2 ^ 40 := by
  have := wturn_le n s k
  omega
/-- What the program answers of full sets. -/
def FullPost (n s : Nat) (e : Ending) : Prop :=
  (∃ k : Nat, k < n ∧ wsetN n s k = 2 ^ n - 1 ∧ (∀ j, j < k → wsetN n s j ≠ 2 ^ n - 1) ∧ e = .returned (.tuple #[.int .i64 (k : Int), .bool true])) ∨
  ((∀ j, j < n → wsetN n s j ≠ 2 ^ n - 1) ∧ e = .returned (.tuple #[.int .i64 0, .bool false]))
end Go.Proofs.Ytjgpdmjfpcdklaa
