/- The sizes of turned sets. -/
import Derived.Test.YtfgolkbafnfblaaGB
import Derived.Test.YtfgolkbafnfblaaOrbit
namespace Go.Proofs.Ytfgolkbafnfblaa
open Go.RowKit
set_option linter.unusedVariables false
theorem size_turn_le (n s : Nat) (m : Int) (h1 : 1 ≤ n) (h2 : n ≤ 12) (hs : s < 2 ^ n) : sizeN (turnN n s m) ≤ sizeN s := by
  have h : ∀ j, sizeN (overSet s (turnS n m) j 0) ≤ cntB s j := by
    intro j
    induction j with
    | zero => simp [overSet, upto, sizeN, popF_zero, cntB]
    | succ j ih =>
      have e : overSet s (turnS n m) (j + 1) 0 = if s.testBit j then overSet s (turnS n m) j 0 ||| 2 ^ rest n ((j : Int) * m) else overSet s (turnS n m) j 0 := rfl
      have e' : cntB s (j + 1) = cntB s j + if s.testBit j then 1 else 0 := rfl
      rw [e, e']
      split
      · have := popF_or 40 (overSet s (turnS n m) j 0) (2 ^ rest n ((j : Int) * m))
        have hr := rest_lt n ((j : Int) * m) h1
        have hs := one_size (rest n ((j : Int) * m)) (by omega)
        unfold sizeN at *
        omega
      · simpa using ih
  have := h n
  rw [← popF_cnt, ← sizeN_of n s h2 hs] at this
  exact this
theorem turn_act (n s : Nat) (m : Int) : turnN n s m = act n s m 0 := turn_map n s m
def gcdB : Bool := (List.range 13).all fun n => (List.range 101).all fun a => n == 0 || Nat.gcd a n != 1 || (Nat.gcd (rest n (a : Int)) n == 1 && Nat.gcd (rest n (-(a : Int))) n == 1)
theorem gcd_all : gcdB = true := by decide +kernel
theorem gcd_rest (n a : Nat) (h1 : 1 ≤ n) (hn : n ≤ 12) (ha : a ≤ 100) (h : Nat.gcd a n = 1) : Nat.gcd (rest n (a : Int)) n = 1 ∧ Nat.gcd (rest n (-(a : Int))) n = 1 := by
  have g := gcd_all
  unfold gcdB at g
  rw [List.all_eq_true] at g
  have g1 := g n (List.mem_range.2 (by omega))
  rw [List.all_eq_true] at g1
  have g2 := g1 a (List.mem_range.2 (by omega))
  have hz : (n == 0) = false := by simp; omega
  rw [h, hz] at g2
  simpa using g2
theorem turn_unit (n s : Nat) (m : Int) (h1 : 1 ≤ n) (h2 : n ≤ 12) (hs : s < 2 ^ n) (hg : Nat.gcd (rest n m) n = 1) : sizeN (turnN n s m) = sizeN s := by
  have hu := rest_lt n m h1
  obtain ⟨v, hv, hgv, hi⟩ := unit_inv n (by omega) (rest n m) hu hg
  have hb : turnN n (turnN n s m) (v : Int) = s := by
    rw [turn_act, turn_act, act_act n s _ _ _ _ h1]
    have e : ((v : Int) * m) % (n : Int) = 1 % (n : Int) := by
      have hc := rest_cast n m h1
      have hi2 : (((rest n m * v % n : Nat)) : Int) = ((1 % n : Nat) : Int) := by rw [hi]
      rw [Int.natCast_emod, Int.natCast_mul, hc, Int.natCast_emod] at hi2
      rw [Int.mul_comm, Int.mul_emod, ← Int.emod_emod m, ← Int.mul_emod]
      exact hi2
    rw [act_congr n s _ 1 _ 0 e (by simp)]
    exact act_id n s h1 hs
  have a1 := size_turn_le n s m h1 h2 hs
  have a2 := size_turn_le n (turnN n s m) (v : Int) h1 h2 (turnN_lt n s m h1)
  rw [hb] at a2
  omega
theorem turn_few (n s : Nat) (m : Int) (h1 : 1 ≤ n) (h2 : n ≤ 12) (hs : s < 2 ^ n) (hf : sizeN s ≤ 1) : sizeN (turnN n s m) = sizeN s := by
  have a1 := size_turn_le n s m h1 h2 hs
  have hp := pow_le n h2
  by_cases h0 : s = 0
  · subst h0
    have : sizeN 0 = 0 := popF_zero 40
    omega
  · have hp1 := size_pos s (by omega) h0
    obtain ⟨v, hv⟩ := some_bit s h0
    have hl := lt_of_bits n s hs v hv
    have hb : (turnN n s m).testBit (rest n (m * (v : Int) + 0)) = true := by
      rw [turn_map, mapN_bit]
      exact ⟨v, hl, hv, rfl⟩
    have ht := turnN_lt n s m h1
    have := size_pos (turnN n s m) (by omega) (bit_ne hb)
    omega
end Go.Proofs.Ytfgolkbafnfblaa
