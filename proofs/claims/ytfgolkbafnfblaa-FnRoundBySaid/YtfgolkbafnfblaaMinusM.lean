/- Sums with none, differences: maths. -/
import Derived.Test.YtfgolkbafnfblaaGB
namespace Go.Proofs.Ytfgolkbafnfblaa
open Go.RowKit
set_option linter.unusedVariables false
theorem popF_le (f s : Nat) : popF f s ≤ f := by
  induction f generalizing s with
  | zero => exact Nat.le_refl _
  | succ f ih =>
    have h1 := ih (s / 2)
    have h2 : s % 2 < 2 := Nat.mod_lt _ (by omega)
    show s % 2 + popF f (s / 2) ≤ f + 1
    omega
theorem sum_none (n a : Nat) : sumN n a 0 = 0 := by
  have h : ∀ j, overSet 0 (sumS n a) j 0 = 0 := by
    intro j
    induction j with
    | zero => rfl
    | succ j ih =>
      show (if (0 : Nat).testBit j then sumS n a j (overSet 0 (sumS n a) j 0) else overSet 0 (sumS n a) j 0) = 0
      rw [Nat.zero_testBit]
      simpa using ih
  exact h n
theorem turnN_bit (n b : Nat) (i : Nat) : (turnN n b (-1)).testBit i = true ↔ ∃ v, v < n ∧ b.testBit v = true ∧ rest n (-(v : Int)) = i := by
  rw [turn_map, mapN_bit]
  have e : ∀ v : Nat, (-1 : Int) * (v : Int) + 0 = -(v : Int) := fun v => by omega
  simp only [e]
theorem minus_bit (n a b i : Nat) (h1 : 1 ≤ n) (ha : a < 2 ^ n) : (sumN n a (turnN n b (-1))).testBit i = true ↔ ∃ v w, v < n ∧ b.testBit v = true ∧ w < n ∧ a.testBit w = true ∧ rest n ((w : Int) - (v : Int)) = i := by
  rw [sumN_bit n a _ i h1 ha]
  have e : ∀ v w : Nat, rest n ((w : Int) - (v : Int)) = (rest n (-(v : Int)) + w) % n := fun v w => by
    rw [Nat.add_comm, ← rest_add n w (-(v : Int)) h1, Int.sub_eq_add_neg]
  constructor
  · rintro ⟨u, w, hu, hb, hw, h5, h6⟩
    obtain ⟨v, hv, hbv, rfl⟩ := (turnN_bit n b u).1 hb
    exact ⟨v, w, hv, hbv, hw, h5, by rw [e]; exact h6⟩
  · rintro ⟨v, w, hv, hbv, hw, h5, h6⟩
    exact ⟨rest n (-(v : Int)), w, rest_lt n _ h1, (turnN_bit n b _).2 ⟨v, hv, hbv, rfl⟩, hw, h5, by rw [← e]; exact h6⟩
theorem rest_neg (n : Nat) (x : Int) (h1 : 1 ≤ n) : rest n (-((rest n x : Nat) : Int)) = rest n (-x) := by
  have g : (-((rest n x : Nat) : Int)) % (n : Int) = (-x) % (n : Int) := by
    rw [rest_cast n x h1, ← Int.zero_sub, ← Int.zero_sub, Int.sub_emod, Int.emod_emod, ← Int.sub_emod]
  unfold rest at *
  rw [g]
theorem minus_turn (n a b : Nat) (h1 : 1 ≤ n) (ha : a < 2 ^ n) (hb : b < 2 ^ n) : turnN n (sumN n a (turnN n b (-1))) (-1) = sumN n b (turnN n a (-1)) := by
  refine Nat.eq_of_testBit_eq fun i => ?_
  rw [Bool.eq_iff_iff, turnN_bit, minus_bit n b a i h1 hb]
  constructor
  · rintro ⟨u, hu, hd, rfl⟩
    obtain ⟨v, w, hv, hbv, hw, haw, rfl⟩ := (minus_bit n a b u h1 ha).1 hd
    exact ⟨w, v, hw, haw, hv, hbv, by rw [rest_neg n _ h1, Int.neg_sub]⟩
  · rintro ⟨w, v, hw, haw, hv, hbv, rfl⟩
    exact ⟨rest n ((w : Int) - (v : Int)), rest_lt n _ h1, (minus_bit n a b _ h1 ha).2 ⟨v, w, hv, hbv, hw, haw, rfl⟩, by rw [rest_neg n _ h1, Int.neg_sub]⟩
theorem rest_zero (n v w : Nat) (h1 : 1 ≤ n) (hv : v < n) (hw : w < n) (h : rest n ((w : Int) - (v : Int)) = 0) : w = v := by
  have g := rest_cast n ((w : Int) - (v : Int)) h1
  rw [h] at g
  by_cases hl : v ≤ w
  · rw [Int.emod_eq_of_lt (by omega) (by omega)] at g
    omega
  · rw [← Int.add_emod_right, Int.emod_eq_of_lt (by omega) (by omega)] at g
    omega
theorem minus_zero (n a b : Nat) (h1 : 1 ≤ n) (ha : a < 2 ^ n) (hb : b < 2 ^ n) : sumN n a (turnN n b (-1)) % 2 = 1 ↔ a &&& b ≠ 0 := by
  have h := minus_bit n a b 0 h1 ha
  rw [Nat.testBit_zero, decide_eq_true_eq] at h
  rw [h]
  constructor
  · rintro ⟨v, w, hv, hbv, hw, haw, h6⟩
    obtain rfl := rest_zero n v w h1 hv hw h6
    exact bit_ne (v := w) (by rw [Nat.testBit_and, haw, hbv]; rfl)
  · intro hne
    obtain ⟨v, hv⟩ := some_bit _ hne
    rw [Nat.testBit_and, Bool.and_eq_true] at hv
    have hl := lt_of_bits n b hb v hv.2
    exact ⟨v, v, hl, hv.2, hl, hv.1, by simp [rest]⟩
end Go.Proofs.Ytfgolkbafnfblaa
