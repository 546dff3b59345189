/- FarBest and its exact law; distances by turned steps. -/
import Derived.Test.YtjgpdmjfpcdklaaFarO
import Derived.Test.YtjgpdmjfpcdklaaFarH
import Derived.Test.YtjgpdmjfpcdklaaOrbit
namespace Go.Proofs.Ytjgpdmjfpcdklaa
open Go.RowKit
set_option linter.unusedVariables false
theorem turn_bit (n s m i : Nat) : (turnN n s (m : Int)).testBit i = true ↔ ∃ v, v < n ∧ s.testBit v = true ∧ m * v % n = i := by
  rw [turn_map, mapN_bit]
  constructor
  · rintro ⟨v, hv, hb, r⟩
    refine ⟨v, hv, hb, ?_⟩
    rw [← rest_mul, ← r]
    simp
  · rintro ⟨v, hv, hb, r⟩
    refine ⟨v, hv, hb, ?_⟩
    rw [← r, ← rest_mul]
    simp
theorem turn_union (n x y m : Nat) : turnN n (x ||| y) (m : Int) = turnN n x m ||| turnN n y m := by
  refine Nat.eq_of_testBit_eq fun i => ?_
  rw [Bool.eq_iff_iff, Nat.testBit_or, Bool.or_eq_true, turn_bit, turn_bit, turn_bit]
  constructor
  · rintro ⟨v, hv, hb, r⟩
    rw [Nat.testBit_or, Bool.or_eq_true] at hb
    rcases hb with hb | hb
    · exact .inl ⟨v, hv, hb, r⟩
    · exact .inr ⟨v, hv, hb, r⟩
  · rintro (⟨v, hv, hb, r⟩ | ⟨v, hv, hb, r⟩)
    · exact ⟨v, hv, by rw [Nat.testBit_or, hb, Bool.true_or], r⟩
    · exact ⟨v, hv, by rw [Nat.testBit_or, hb, Bool.or_true], r⟩
theorem mul_add_mod' (n m v w : Nat) : (m * v % n + m * w % n) % n = m * ((v + w) % n) % n := by
  rw [← Nat.add_mod, Nat.mul_mod_mod, Nat.mul_add]
theorem turn_sum (n s x m : Nat) (h1 : 1 ≤ n) (hs : s < 2 ^ n) : turnN n (sumN n s x) (m : Int) = sumN n (turnN n s m) (turnN n x m) := by
  refine Nat.eq_of_testBit_eq fun i => ?_
  rw [Bool.eq_iff_iff, turn_bit, sumN_bit n _ _ i h1 (turnN_lt n s _ h1)]
  constructor
  · rintro ⟨j, hj, hb, r⟩
    obtain ⟨v, w, hv, hbv, hw, hbw, e⟩ := (sumN_bit n s x j h1 hs).1 hb
    refine ⟨m * v % n, m * w % n, Nat.mod_lt _ (by omega), (turn_bit n x m _).2 ⟨v, hv, hbv, rfl⟩, Nat.mod_lt _ (by omega), (turn_bit n s m _).2 ⟨w, hw, hbw, rfl⟩, ?_⟩
    rw [mul_add_mod', e, r]
  · rintro ⟨v', w', hv', hbv', hw', hbw', e⟩
    obtain ⟨v, hv, hbv, rfl⟩ := (turn_bit n x m _).1 hbv'
    obtain ⟨w, hw, hbw, rfl⟩ := (turn_bit n s m _).1 hbw'
    refine ⟨(v + w) % n, Nat.mod_lt _ (by omega), (sumN_bit n s x _ h1 hs).2 ⟨v, w, hv, hbv, hw, hbw, rfl⟩, ?_⟩
    rw [← mul_add_mod', e]
theorem turn_iter (n s m d : Nat) (h1 : 1 ≤ n) (hs : s < 2 ^ n) : iterN n (turnN n s m) d = turnN n (iterN n s d) (m : Int) := by
  induction d with
  | zero =>
    refine Nat.eq_of_testBit_eq fun i => ?_
    rw [Bool.eq_iff_iff, turn_bit]
    show (1 : Nat).testBit i = true ↔ ∃ v, v < n ∧ (1 : Nat).testBit v = true ∧ m * v % n = i
    constructor
    · intro h
      by_cases e : i = 0
      · subst e
        exact ⟨0, by omega, rfl, by simp⟩
      · rw [Nat.testBit_lt_two_pow (Nat.one_lt_two_pow e)] at h
        cases h
    · rintro ⟨v, hv, hb, r⟩
      by_cases e : v = 0
      · subst e
        rw [← r]
        simp
      · rw [Nat.testBit_lt_two_pow (Nat.one_lt_two_pow e)] at hb
        cases hb
  | succ d ih =>
    rw [iter_succ, iter_succ n s, turn_union, ih, turn_sum n s _ m h1 hs]
theorem unit_inj (n m v v' : Nat) (h2 : n ≤ 12) (hm : m < n) (hg : Nat.gcd m n = 1) (hv : v < n) (hv' : v' < n) (h : m * v % n = m * v' % n) : v = v' := by
  obtain ⟨w, hw, _, hmw⟩ := unit_inv n (by omega) m hm hg
  have key : ∀ u, u < n → w * (m * u % n) % n = u := fun u hu => by
    rw [Nat.mul_mod_mod, ← Nat.mul_assoc, Nat.mul_comm w m, ← Nat.mod_mul_mod, hmw, Nat.mod_mul_mod, Nat.one_mul, Nat.mod_eq_of_lt hu]
  rw [← key v hv, h, key v' hv']
theorem turn_at (n s m v : Nat) (h2 : n ≤ 12) (hm : m < n) (hg : Nat.gcd m n = 1) (hv : v < n) : (turnN n s (m : Int)).testBit (m * v % n) = s.testBit v := by
  rw [Bool.eq_iff_iff, turn_bit]
  constructor
  · rintro ⟨u, hu, hb, r⟩
    rw [← unit_inj n m u v h2 hm hg hu hv r]
    exact hb
  · exact fun h => ⟨v, hv, h, rfl⟩
theorem turn_dist (n s m v : Nat) (h1 : 1 ≤ n) (h2 : n ≤ 12) (hs : s < 2 ^ n) (hm : m < n) (hg : Nat.gcd m n = 1) (hv : v < n) : distN n (turnN n s m) (m * v % n) = distN n s v := by
  have hf : farN n (turnN n s m) (m * v % n) = farN n s v := by
    unfold farN
    refine sumTo_congr _ _ _ fun k hk => ?_
    rw [turn_iter n s m k h1 hs, turn_at n _ m v h2 hm hg hv]
  have hp : (partN n (turnN n s m)).testBit (m * v % n) = (partN n s).testBit v := by
    rw [← iter_part n _ h1 h2 (turnN_lt n s _ h1), turn_iter n s m n h1 hs, turn_at n _ m v h2 hm hg hv, iter_part n s h1 h2 hs]
  unfold distN
  rw [hf, hp]
theorem turnL_at (n s m v : Nat) (h2 : n ≤ 12) (hm : m < n) (hg : Nat.gcd m n = 1) (j : Nat) (hj : j ≤ n) (hv : v < j) : turnL n s (m : Int) j (m * v % n) = distN n s v := by
  induction j with
  | zero => omega
  | succ j ih =>
    show (if m * v % n = rest n ((m : Int) * (j : Int)) then distN n s j else turnL n s m j (m * v % n)) = _
    rw [rest_mul]
    by_cases e : v = j
    · subst e; rw [if_pos rfl]
    · rw [if_neg (fun h => e (unit_inj n m v j h2 hm hg (by omega) (by omega) h))]
      exact ih (by omega) (by omega)
theorem turnL_dist (n s m x : Nat) (h1 : 1 ≤ n) (h2 : n ≤ 12) (hs : s < 2 ^ n) (hm : m < n) (hg : Nat.gcd m n = 1) (hx : x < n) : turnL n s (m : Int) n x = distN n (turnN n s m) x := by
  obtain ⟨w, hw, _, hmw⟩ := unit_inv n (by omega) m hm hg
  have e : m * (w * x % n) % n = x := by
    rw [Nat.mul_mod_mod, ← Nat.mul_assoc, ← Nat.mod_mul_mod, hmw, Nat.mod_mul_mod, Nat.one_mul, Nat.mod_eq_of_lt hx]
  have hv := Nat.mod_lt (w * x) (show n > 0 by omega)
  rw [← e, turnL_at n s m _ h2 hm hg n (Nat.le_refl n) hv, turn_dist n s m _ h1 h2 hs hm hg hv]
theorem turn_zero (n s m : Nat) (h1 : 1 ≤ n) (h2 : n ≤ 12) (hm : m < n) (hg : Nat.gcd m n = 1) (h0 : s.testBit 0 = false) : (turnN n s (m : Int)).testBit 0 = false := by
  have h := turn_at n s m 0 h2 hm hg (by omega)
  rw [Nat.mul_zero, Nat.zero_mod, h0] at h
  exact h
end Go.Proofs.Ytjgpdmjfpcdklaa
