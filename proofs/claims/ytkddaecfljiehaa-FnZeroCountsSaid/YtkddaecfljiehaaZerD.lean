/- Rows of places: the parts of the model. Written by gen85.py. -/
import Derived.Test.YtkddaecfljiehaaZerS
import Derived.Test.YtkddaecfljiehaaZerB
namespace Go.Proofs.Ytkddaecfljiehaa
open Go.RowKit Go.Shelf
set_option linter.unusedVariables false
theorem one_less (c : Nat) (h : 0 < c) (h2 : c ≤ 100000) : IntKind.i64.wrap ((c : Int) - 1) = ((c - 1 : Nat) : Int) ∧ wrap64 ((c : Int) - 1) = ((c - 1 : Nat) : Int) := ⟨by rw [IntWalk.i64_in _ (by omega)]; omega, by rw [IntWalk.wrap64_in _ (by omega)]; omega⟩
theorem one_more (v : Nat) (h : v ≤ 100000) : IntKind.i64.wrap (1 + (v : Int)) = ((1 + v : Nat) : Int) ∧ wrap64 (1 + (v : Int)) = ((1 + v : Nat) : Int) := ⟨by rw [IntWalk.i64_in _ (by omega)]; rfl, by rw [IntWalk.wrap64_in _ (by omega)]; rfl⟩
/-- The lowest position, as the model finds it. -/
def lowAll : Bool := (List.range 256).all fun x => bits .and .i64 (x : Int) (-(x : Int)) == ((lowB x : Nat) : Int)
theorem low_all : lowAll = true := by decide +kernel
theorem low_bits (x : Nat) (h : x < 256) : bits .and .i64 (x : Int) (-(x : Int)) = ((lowB x : Nat) : Int) := eq_of_beq (List.all_eq_true.1 low_all x (List.mem_range.2 h))
end Go.Proofs.Ytkddaecfljiehaa
