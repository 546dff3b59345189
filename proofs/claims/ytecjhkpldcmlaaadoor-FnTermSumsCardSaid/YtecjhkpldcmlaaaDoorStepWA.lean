/- The functions of chapter 2 as others call them: steps, both, other, next, even. -/
import Derived.Test.YtecjhkpldcmlaaaDoorGC
namespace Go.Proofs.YtecjhkpldcmlaaaDoor
open Go.RowKit
set_option linter.unusedVariables false
theorem turn_lt12 (n s : Nat) (m : Int) (h1 : 1 ≤ n) (h2 : n ≤ 12) : turnN n s m < 2 ^ 12 := pow_mono h2 (turnN_lt n s m h1)
theorem even_iff (n s : Nat) (h1 : 1 ≤ n) (hs : s < 2 ^ n) : turnN n s (-1) = s ↔ bothN n s = s := by
  unfold bothN
  constructor
  · intro h
    rw [h, Nat.or_self]
  · intro h
    refine Nat.eq_of_testBit_eq fun i => ?_
    have hsub : ∀ i, (turnN n s (-1)).testBit i = true → s.testBit i = true := fun i hi => by
      rw [← h, Nat.testBit_or, hi, Bool.or_true]
    rw [Bool.eq_iff_iff]
    refine ⟨hsub i, fun hi => ?_⟩
    have hin := lt_of_bits n s hs i hi
    have h3 : (turnN n s (-1)).testBit (rest n (-(i : Int))) = true := by
      rw [turn_map, mapN_bit]
      exact ⟨i, hin, hi, by congr 1; omega⟩
    have h4 := hsub _ h3
    have h5 := rest_lt n (-(i : Int)) h1
    rw [turn_map, mapN_bit]
    refine ⟨_, h5, h4, ?_⟩
    have g : rest n (-1 * ((rest n (-(i : Int)) : Nat) : Int) + 0) = rest n (i : Int) := by
      have e : (-1 * ((rest n (-(i : Int)) : Nat) : Int) + 0) = -((rest n (-(i : Int)) : Nat) : Int) := by omega
      rw [e]
      have g2 : (-((rest n (-(i : Int)) : Nat) : Int)) % (n : Int) = (i : Int) % (n : Int) := by
        rw [rest_cast n _ h1, ← Int.zero_sub, Int.sub_emod, Int.emod_emod, ← Int.sub_emod, Int.zero_sub, Int.neg_neg]
      unfold rest at *
      rw [g2]
    rw [g]
    unfold rest
    rw [← Int.natCast_emod, Nat.mod_eq_of_lt hin]
    rfl
end Go.Proofs.YtecjhkpldcmlaaaDoor
