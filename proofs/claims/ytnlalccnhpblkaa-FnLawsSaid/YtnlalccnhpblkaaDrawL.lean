/- Drawing for chapter 9: rows. Written by gen88.py. -/
import Derived.Test.YtnlalccnhpblkaaDrawX
import Derived.Test.YtnlalccnhpblkaaGY
namespace Go.Proofs.Ytnlalccnhpblkaa
open Go.RowKit Go.Shelf
set_option linter.unusedVariables false
attribute [local go_sem] Oper.semAt_some
/-- A number and a list of at most 20. -/
def RowDrawn (W : World) (e : Ending) (w' : World) : Prop :=
  ∃ (n : Int) (sv : Value) (xs : List Int), e = .returned (.tuple #[.int .i64 n, sv]) ∧ xs.length ≤ 20 ∧ Below W.heap.size W w' ∧ IsInts w' W.heap.size sv xs
theorem one_fit (v : Nat) (h : v ≤ 100000) : IntKind.i64.wrap (1 + (v : Int)) = ((v + 1 : Nat) : Int) ∧ wrap64 (1 + (v : Int)) = ((v + 1 : Nat) : Int) := ⟨by rw [IntWalk.i64_in _ (by omega)]; omega, by rw [IntWalk.wrap64_in _ (by omega)]; omega⟩
theorem fit_one (v : Nat) (h : v ≤ 100000) : IntKind.i64.wrap ((v : Int) + 1) = ((v + 1 : Nat) : Int) ∧ wrap64 ((v : Int) + 1) = ((v + 1 : Nat) : Int) := ⟨by rw [IntWalk.i64_in _ (by omega)]; rfl, by rw [IntWalk.wrap64_in _ (by omega)]; rfl⟩
theorem most_fit (len : Nat) : ∃ d : Nat, d ≤ 1 ∧ Int.tmod (len : Int) 12 = ((len % 12 : Nat) : Int) ∧ Int.tdiv ((len % 12 : Nat) : Int) 11 = (d : Int) ∧ ((len % 12 : Nat) : Int) / 11 = (d : Int) ∧ wrap64 (d : Int) = (d : Int) ∧ IntKind.i64.wrap (d : Int) = (d : Int) ∧ IntKind.i64.wrap ((d : Int) * 2) = ((d * 2 : Nat) : Int) ∧ wrap64 ((d : Int) * 2) = ((d * 2 : Nat) : Int) ∧ IntKind.i64.wrap (7 + ((d * 2 : Nat) : Int)) = ((7 + d * 2 : Nat) : Int) ∧ wrap64 (7 + ((d * 2 : Nat) : Int)) = ((7 + d * 2 : Nat) : Int) := by
  have h : len % 12 < 12 := Nat.mod_lt _ (by omega)
  refine ⟨len % 12 / 11, by omega, ?_, ?_, ?_, IntWalk.wrap64_in _ (by omega), IntWalk.i64_in _ (by omega), IntWalk.i64_in _ (by omega), IntWalk.wrap64_in _ (by omega), IntWalk.i64_in _ (by omega), IntWalk.wrap64_in _ (by omega)⟩
  · exact (Int.ofNat_tmod len 12).symm
  · exact (Int.ofNat_tdiv (len % 12) 11).symm
  · exact (Int.natCast_ediv (len % 12) 11).symm
end Go.Proofs.Ytnlalccnhpblkaa
