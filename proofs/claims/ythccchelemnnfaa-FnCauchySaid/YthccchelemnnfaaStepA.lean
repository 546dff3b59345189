/- Steps of a ring: numbers told bit by bit, and the small functions of chapter 2. -/
import Derived.Test.YthccchelemnnfaaWrapA
import Derived.Test.YthccchelemnnfaaSpecB
import Derived.Test.YthccchelemnnfaaSize
namespace Go.Proofs.Ythccchelemnnfaa
open Go.RowKit
set_option linter.unusedVariables false
/-- The places of a that b does not have. -/
def lessN (a b : Nat) : Nat := a ^^^ (a &&& b)
theorem lessN_bit (a b i : Nat) : (lessN a b).testBit i = (a.testBit i && !b.testBit i) := by
  unfold lessN
  rw [Nat.testBit_xor, Nat.testBit_and]
  cases a.testBit i <;> cases b.testBit i <;> rfl
theorem lessN_lt {n a : Nat} (b : Nat) (h : a < 2 ^ n) : lessN a b < 2 ^ n := Nat.xor_lt_two_pow h (Nat.lt_of_le_of_lt Nat.and_le_left h)
theorem less_nat (a b : Nat) (ha : a < 2 ^ 62) (hb : b < 2 ^ 62) : bits .andNot .i64 (a : Int) (b : Int) = ((lessN a b : Nat) : Int) := by
  have hx : lessN a b < 2 ^ 62 := lessN_lt b ha
  show IntKind.i64.wrap ((BitVec.ofInt 64 (a : Int) &&& ~~~ BitVec.ofInt 64 (b : Int)).toNat : Int) = _
  have e : (BitVec.ofInt 64 (a : Int) &&& ~~~ BitVec.ofInt 64 (b : Int)).toNat = lessN a b := by
    refine Nat.eq_of_testBit_eq fun i => ?_
    rw [lessN_bit, ← ofInt_small a ha, ← ofInt_small b hb, BitVec.testBit_toNat, BitVec.getLsbD_and, BitVec.getLsbD_not, BitVec.testBit_toNat, BitVec.testBit_toNat, ofInt_small a ha, ofInt_small b hb]
    by_cases hi : i < 64
    · simp [hi]
    · rw [BitVec.getLsbD_of_ge _ _ (by omega)]; simp
  rw [e]
  exact IntWalk.i64_in _ (by omega)
theorem bit0 (s : Nat) : s.testBit 0 = decide (s % 2 = 1) := Nat.testBit_zero s
/-- Steps of a ring of n. -/
def stepB (n s : Nat) : Prop := s < 2 ^ n ∧ s.testBit 0 = false
/-- No steps, told of any two integers. -/
def NoStep (n s : Int) : Prop := NotIn n s ∨ ∃ m t : Nat, n = (m : Int) ∧ s = (t : Int) ∧ 1 ≤ m ∧ m ≤ 12 ∧ t < 2 ^ m ∧ t.testBit 0 = true
theorem not_noStep {n s : Int} (h : ¬ NoStep n s) : ∃ m t : Nat, n = (m : Int) ∧ s = (t : Int) ∧ 1 ≤ m ∧ m ≤ 12 ∧ t < 2 ^ m ∧ t.testBit 0 = false := by
  obtain ⟨m, t, h1, h2, h3, h4, h5⟩ := not_notIn (fun hh => h (.inl hh))
  refine ⟨m, t, h1, h2, h3, h4, h5, ?_⟩
  cases hb : t.testBit 0
  · rfl
  · exact absurd (.inr ⟨m, t, h1, h2, h3, h4, h5, hb⟩) h
/-- Both steps. -/
def bothN (n s : Nat) : Nat := s ||| turnN n s (-1)
theorem bothN_lt (n s : Nat) (h1 : 1 ≤ n) (hs : s < 2 ^ n) : bothN n s < 2 ^ n := Nat.or_lt_two_pow hs (turnN_lt n s (-1) h1)
/-- The other steps. -/
def otherN (n s : Nat) : Nat := lessN (2 ^ n - 1) (s ||| 1)
theorem otherN_lt (n s : Nat) : otherN n s < 2 ^ n := lessN_lt _ (by have := Nat.two_pow_pos n; omega)
theorem otherN_bit (n s i : Nat) : (otherN n s).testBit i = (decide (i < n) && !decide (i = 0) && !s.testBit i) := by
  unfold otherN
  rw [lessN_bit, Nat.testBit_two_pow_sub_one, Nat.testBit_or]
  by_cases h : i = 0
  · subst h; simp
  · have : (1 : Nat).testBit i = false := Nat.testBit_lt_two_pow (Nat.one_lt_two_pow h)
    simp [this, h]
theorem other_spec (n s : Nat) (h1 : 1 ≤ n) : lessN (2 ^ n - 2) s = otherN n s := by
  refine Nat.eq_of_testBit_eq fun i => ?_
  rw [lessN_bit, otherN_bit]
  obtain ⟨m, rfl⟩ : ∃ m, n = m + 1 := ⟨n - 1, by omega⟩
  have hp := Nat.two_pow_pos m
  cases i with
  | zero =>
    rw [bit0]
    have : (2 ^ (m + 1) - 2) % 2 = 0 := by rw [Nat.pow_succ]; omega
    simp [this]
  | succ i =>
    rw [Nat.testBit_succ, show (2 ^ (m + 1) - 2) / 2 = 2 ^ m - 1 by rw [Nat.pow_succ]; omega, Nat.testBit_two_pow_sub_one]
    simp
theorem pow2_nat (n : Nat) (h1 : 1 ≤ n) (hn : n ≤ 12) : wrap64 (wrap64 (2 ^ n) - 2) = ((2 ^ n - 2 : Nat) : Int) := by
  rw [wrap_pow n (by omega)]
  have h : 2 ≤ 2 ^ n := by
    obtain ⟨m, rfl⟩ : ∃ m, n = m + 1 := ⟨n - 1, by omega⟩
    have := Nat.two_pow_pos m
    rw [Nat.pow_succ]; omega
  have := two_pow_lt n (by omega)
  rw [show (((2 ^ n - 2 : Nat) : Int)) = ((2 ^ n : Nat) : Int) - 2 from by omega]
  generalize 2 ^ n = m at *
  exact IntWalk.wrap64_in _ (by omega)
theorem low_nat (s : Nat) (hs : s < 2 ^ 40) : (bits .and .i64 (s : Int) 1 == 0) = !s.testBit 0 := by
  have h := has_nat0 s 0 hs
  simpa using h
theorem has_int (s v : Nat) (x : Int) (w : World) (hx : x = (v : Int)) (hs : s < 2 ^ 40) (hv : v < 40) :
    Calls Try.prog 73 #[.int .i64 (s:Int), .int .i64 x] w fun e w' => e = .returned (.bool (s.testBit v)) ∧ w = w' := by
  subst hx
  exact has_any s v w hs hv
theorem has0_any (s : Nat) (w : World) (hs : s < 2 ^ 40) :
    Calls Try.prog 73 #[.int .i64 (s:Int), .int .i64 0] w fun e w' => e = .returned (.bool (s.testBit 0)) ∧ w = w' := has_int s 0 0 w rfl hs (by omega)
end Go.Proofs.Ythccchelemnnfaa
