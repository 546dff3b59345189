/- The model's functions of chapter 1 as the laws call them. -/
import Derived.Test.YtgadlhcgaeilcaaSpecA
namespace Go.Proofs.Ytgadlhcgaeilcaa
open Go.RowKit
set_option linter.unusedVariables false
theorem l6In_yes (n a b : Int) (w : World) (h1 : a ≤ n) (h2 : n ≤ b) : Calls Try.prog 54 #[.int .i64 n, .int .i64 a, .int .i64 b] w fun e w' => e = .returned (.bool true) ∧ w = w' := by
  have h := l6In_any n a b w
  rw [show decide (a ≤ n ∧ n ≤ b) = true from by simp; omega] at h
  exact h
theorem l6In_no (n a b : Int) (w : World) (hk : ¬ (a ≤ n ∧ n ≤ b)) : Calls Try.prog 54 #[.int .i64 n, .int .i64 a, .int .i64 b] w fun e w' => e = .returned (.bool false) ∧ w = w' := by
  have h := l6In_any n a b w
  rw [show decide (a ≤ n ∧ n ≤ b) = false from by simpa using hk] at h
  exact h
theorem l1ShiftK_any (n s : Nat) (k : Int) (w : World) (h1 : 1 ≤ n) (h2 : n ≤ 12) (hs : s < 2 ^ n) (hk1 : -1000 ≤ k) (hk2 : k ≤ 1000) :
    Calls Try.prog 47 #[.int .i64 (n:Int), .int .i64 (s:Int), .int .i64 1, .int .i64 k] w fun e w' => e = .returned (.int .i64 ((shiftN n s k : Nat) : Int)) ∧ w = w' := by
  have h := l1Map_any n s 1 k w h1 h2 (pow_mono h2 hs) (by omega) (by omega) hk1 hk2
  rw [map_shift n s k h1 hs] at h
  exact h
end Go.Proofs.Ytgadlhcgaeilcaa
