/- Steps that are taken again and again add up. -/
import Derived.Test.YtnlalccnhpblkaaStepQ
import Derived.Test.YtnlalccnhpblkaaGC
import Derived.Test.YtnlalccnhpblkaaGE
namespace Go.Proofs.Ytnlalccnhpblkaa
set_option linter.unusedVariables false
theorem iter_add (n s a b v w : Nat) (h1 : 1 ≤ n) (hs : s < 2 ^ n) (hv : v < n) (hw : w < n) (ha : (iterN n s a).testBit v = true) (hb : (iterN n s b).testBit w = true) : (iterN n s (a + b)).testBit ((v + w) % n) = true := by
  induction b generalizing w with
  | zero =>
    have hw0 : w = 0 := by
      by_cases e : w = 0
      · exact e
      · rw [show iterN n s 0 = 1 from rfl, Nat.testBit_lt_two_pow (Nat.one_lt_two_pow e)] at hb
        cases hb
    subst hw0
    show (iterN n s a).testBit ((v + 0) % n) = true
    rw [show (v + 0) % n = v from Nat.mod_eq_of_lt hv]
    exact ha
  | succ b ih =>
    rw [iter_up, Nat.testBit_or, Bool.or_eq_true] at hb
    rw [show a + (b + 1) = (a + b) + 1 by omega, iter_up, Nat.testBit_or, Bool.or_eq_true]
    rcases hb with hb | hb
    · exact .inl (ih w hw hb)
    · obtain ⟨u, k, hu, hub, hk, hkb, e⟩ := (sumN_bit n s _ w h1 hs).1 hb
      refine .inr ((sumN_bit n s _ _ h1 hs).2 ⟨(v + u) % n, k, Nat.mod_lt _ (by omega), ih u hu hub, hk, hkb, ?_⟩)
      rw [Nat.mod_add_mod, ← e, Nat.add_mod_mod, Nat.add_assoc]
theorem iter_one (n s : Nat) (h1 : 1 ≤ n) (hs : s < 2 ^ n) : iterN n s 1 = 1 ||| s := by
  have e : iterN n s 1 = 1 ||| sumN n s 1 := rfl
  rw [e]
  congr 1
  refine Nat.eq_of_testBit_eq fun i => ?_
  rw [Bool.eq_iff_iff, sumN_bit n s 1 i h1 hs]
  constructor
  · rintro ⟨u, k, hu, hub, hk, hkb, e⟩
    have hu0 : u = 0 := by
      by_cases c : u = 0
      · exact c
      · rw [Nat.testBit_lt_two_pow (Nat.one_lt_two_pow c)] at hub; cases hub
    subst hu0
    rw [Nat.zero_add, Nat.mod_eq_of_lt hk] at e
    rw [← e]; exact hkb
  · intro h
    have hi := lt_of_bits n s hs i h
    exact ⟨0, i, by omega, rfl, hi, h, by rw [Nat.zero_add, Nat.mod_eq_of_lt hi]⟩
end Go.Proofs.Ytnlalccnhpblkaa
