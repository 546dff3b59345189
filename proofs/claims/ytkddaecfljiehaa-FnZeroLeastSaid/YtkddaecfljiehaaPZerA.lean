/- Promises of chapter 9 over given contracts: rows that have what is asked. Written by gen90.py. -/
import Derived.Test.YtkddaecfljiehaaZerX
import Derived.Test.YtkddaecfljiehaaDrawN
import Derived.Test.YtkddaecfljiehaaGM
namespace Go.Proofs.Ytkddaecfljiehaa
open Go.RowKit Go.Shelf
set_option linter.unusedVariables false
theorem two_fit (n : Nat) (h1 : 1 ≤ n) (h : n ≤ 12) : ∃ y m : Nat, m = 2 * n - 1 ∧ IntKind.i64.wrap (2 * (n : Int)) = (y : Int) ∧ wrap64 (2 * (n : Int)) = (y : Int) ∧ IntKind.i64.wrap ((y : Int) - 1) = (m : Int) ∧ wrap64 ((y : Int) - 1) = (m : Int) := by
  refine ⟨2 * n, 2 * n - 1, rfl, ?_, ?_, ?_, ?_⟩
  · rw [IntWalk.i64_in _ (by omega)]; omega
  · rw [IntWalk.wrap64_in _ (by omega)]; omega
  · rw [IntWalk.i64_in _ (by omega)]; omega
  · rw [IntWalk.wrap64_in _ (by omega)]; omega
theorem part_fit (n P : Nat) (h : n ≤ 12) (h1 : 1 ≤ n) (hP : P ≤ 256) : ∃ y z t : Nat, t = n * P + (n - 1) ∧ Hid (IntKind.i64.wrap ((n : Int) * (P : Int)) = (y : Int) ∧ wrap64 ((n : Int) * (P : Int)) = (y : Int) ∧ IntKind.i64.wrap ((y : Int) + (n : Int)) = (z : Int) ∧ wrap64 ((y : Int) + (n : Int)) = (z : Int) ∧ IntKind.i64.wrap ((z : Int) - 1) = (t : Int) ∧ wrap64 ((z : Int) - 1) = (t : Int)) := by
  have hq : n * P ≤ 12 * 256 := Nat.mul_le_mul h hP
  have e : (n : Int) * (P : Int) = ((n * P : Nat) : Int) := (Int.natCast_mul n P).symm
  obtain ⟨y, hy⟩ : ∃ y, n * P = y := ⟨_, rfl⟩
  rw [e, hy]
  rw [hy] at hq
  refine ⟨y, y + n, y + (n - 1), rfl, IntWalk.i64_in _ (by omega), IntWalk.wrap64_in _ (by omega), ?_, ?_, ?_, ?_⟩
  · rw [IntWalk.i64_in _ (by omega)]; rfl
  · rw [IntWalk.wrap64_in _ (by omega)]; rfl
  · rw [IntWalk.i64_in _ (by omega)]; omega
  · rw [IntWalk.wrap64_in _ (by omega)]; omega
theorem cast_beq0n (a : Nat) : ((a : Int) == 0) = Nat.beq a 0 := by
  cases a with
  | zero => rfl
  | succ k => show ((((k + 1 : Nat) : Int)) == 0) = false; simp; omega
end Go.Proofs.Ytkddaecfljiehaa
