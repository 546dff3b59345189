/- Drawing a ring and steps. -/
import Derived.Test.YtnlalccnhpblkaaGM
import Derived.Test.YtnlalccnhpblkaaGC
import Derived.Test.YtnlalccnhpblkaaGA
import Derived.Deep.RegionHeld
namespace Go.Proofs.Ytnlalccnhpblkaa
open Go.RowKit Go.Shelf
set_option linter.unusedVariables false
theorem xor_one (a : Nat) (ha : a < 2 ^ 40) : bits .xor .i64 (a : Int) 1 = ((a ^^^ 1 : Nat) : Int) := by
  rw [show (1 : Int) = ((1 : Nat) : Int) from rfl]
  exact xor_nat a 1 (by omega) (by omega)
theorem wrap_powI (v : Nat) (hv : v < 40) : IntKind.i64.wrap ((2 : Int) ^ v) = ((2 ^ v : Nat) : Int) := by
  have h := two_pow_lt v hv
  rw [← cast_pow]
  generalize 2 ^ v = m at h ⊢
  exact IntWalk.i64_in _ (by omega)
theorem or_small (a b : Nat) (ha : a < 4096) (hb : b < 4096) : bits .or .i64 (a : Int) (b : Int) = ((a ||| b : Nat) : Int) := or_nat a b (by omega) (by omega)
theorem one_lt (n : Nat) (h1 : 1 ≤ n) : 1 < 2 ^ n := Nat.one_lt_two_pow (by omega)
theorem Reader.drew {W : World} {B R p : Nat} (h : Reader W B R p) : Reader W.drew B R p := by
  obtain ⟨⟨A, len, cap, f, h1, h2, h3⟩, hB⟩ := h
  exact ⟨⟨A, len, cap, f, h1, ⟨h2.byte, h2.cell⟩, h3⟩, hB⟩
def StepPost (W : World) (B R p : Nat) (e : Ending) (w' : World) : Prop :=
  ∃ n s q : Nat, e = .returned (.tuple #[.int .i64 (n : Int), .int .i64 (s : Int)]) ∧ 1 ≤ n ∧ n ≤ 12 ∧ s < 2 ^ n ∧ q ≤ p + 20 ∧ Reader w' B R q ∧ Aside R W w'
end Go.Proofs.Ytnlalccnhpblkaa
