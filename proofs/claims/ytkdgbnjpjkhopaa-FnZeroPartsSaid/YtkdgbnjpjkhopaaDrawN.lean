/- Drawing for chapter 9: rows of often one less than twice as many places. Written by gen89.py. -/
import Derived.Test.YtkdgbnjpjkhopaaDrawL
namespace Go.Proofs.Ytkdgbnjpjkhopaa
open Go.RowKit Go.Shelf
set_option linter.unusedVariables false
attribute [local go_sem] Oper.semAt_some
theorem of_fit (n : Nat) (h1 : 1 ≤ n) (h : n ≤ 6) : ∃ y m : Nat, 1 ≤ m ∧ m ≤ 11 ∧ IntKind.i64.wrap (2 * (n : Int)) = (y : Int) ∧ wrap64 (2 * (n : Int)) = (y : Int) ∧ IntKind.i64.wrap ((y : Int) - 1) = (m : Int) ∧ wrap64 ((y : Int) - 1) = (m : Int) := by
  refine ⟨2 * n, 2 * n - 1, by omega, by omega, ?_, ?_, ?_, ?_⟩
  · rw [IntWalk.i64_in _ (by omega)]; omega
  · rw [IntWalk.wrap64_in _ (by omega)]; omega
  · rw [IntWalk.i64_in _ (by omega)]; omega
  · rw [IntWalk.wrap64_in _ (by omega)]; omega
theorem of_fit2 (a m : Nat) (ha : a < 24) (hm : 1 ≤ m) (hm2 : m ≤ 11) : ∃ d k : Nat, k ≤ 11 ∧ Int.tdiv (a : Int) 20 = (d : Int) ∧ (a : Int) / 20 = (d : Int) ∧ IntKind.i64.wrap (d : Int) = (d : Int) ∧ wrap64 (d : Int) = (d : Int) ∧ IntKind.i64.wrap ((m : Int) - (d : Int)) = (k : Int) ∧ wrap64 ((m : Int) - (d : Int)) = (k : Int) := by
  refine ⟨a / 20, m - a / 20, by omega, (Int.ofNat_tdiv a 20).symm, (Int.natCast_ediv a 20).symm, IntWalk.i64_in _ (by omega), IntWalk.wrap64_in _ (by omega), ?_, ?_⟩
  · rw [IntWalk.i64_in _ (by omega)]; omega
  · rw [IntWalk.wrap64_in _ (by omega)]; omega
end Go.Proofs.Ytkdgbnjpjkhopaa
