/- What holds of free sets by all steps: promises 50 to 52. -/
import Derived.Test.YtmombdahabimbaaFreG
import Derived.Test.YtmombdahabimbaaFreKA
import Derived.Test.YtmombdahabimbaaFreKB
import Derived.Test.YtmombdahabimbaaFreKC
import Derived.Test.YtmombdahabimbaaFreKD
import Derived.Test.YtmombdahabimbaaFreKE
namespace Go.Proofs.Ytmombdahabimbaa
set_option linter.unusedVariables false
theorem withX_all (n h : Nat) (h1 : 1 ≤ n) (h2 : n ≤ 12) (hh : h < 2 ^ (n / 2)) : withX n (spreadN n h (n / 2)) = true := by
  rcases twelveG h1 h2 with rfl | rfl | rfl | rfl | rfl | rfl | rfl | rfl | rfl | rfl | rfl | rfl
  · exact spanX_ok 1 0 1 spanX_1 h (Nat.zero_le _) (by simpa using hh)
  · exact spanX_ok 2 0 2 spanX_2 h (Nat.zero_le _) (by simpa using hh)
  · exact spanX_ok 3 0 2 spanX_3 h (Nat.zero_le _) (by simpa using hh)
  · exact spanX_ok 4 0 4 spanX_4 h (Nat.zero_le _) (by simpa using hh)
  · exact spanX_ok 5 0 4 spanX_5 h (Nat.zero_le _) (by simpa using hh)
  · exact spanX_ok 6 0 8 spanX_6 h (Nat.zero_le _) (by simpa using hh)
  · exact spanX_ok 7 0 8 spanX_7 h (Nat.zero_le _) (by simpa using hh)
  · exact spanX_ok 8 0 16 spanX_8 h (Nat.zero_le _) (by simpa using hh)
  · exact spanX_ok 9 0 16 spanX_9 h (Nat.zero_le _) (by simpa using hh)
  · exact spanX_ok 10 0 32 spanX_10 h (Nat.zero_le _) (by simpa using hh)
  · exact spanX_ok 11 0 32 spanX_11 h (Nat.zero_le _) (by simpa using hh)
  · have h64 : h < 64 := by simpa using hh
    by_cases c1 : h < 16
    · exact spanX_ok 12 0 16 spanX_12_0 h (by omega) (by omega)
    by_cases c2 : h < 32
    · exact spanX_ok 12 16 16 spanX_12_16 h (by omega) (by omega)
    by_cases c3 : h < 48
    · exact spanX_ok 12 32 16 spanX_12_32 h (by omega) (by omega)
    exact spanX_ok 12 48 16 spanX_12_48 h (by omega) (by omega)
/-- What holds of even steps. -/
structure EvenF (n e : Nat) : Prop where
  prod : mostF n e * mostF n (otherN n e) ≤ n
  half : e = 0 ∨ 2 * mostF n e ≤ n
  pow : 2 ^ mostF n e ≤ manyF n e
  more : n + 1 ≤ manyF n e
  all : manyF n e = 2 ^ n ↔ e = 0
  size : mostF n (otherN n e) ≤ sizeN e + 1
  wide : ∃ x, x < 2 ^ n ∧ fsetN n e x = true ∧ sizeN x = mostF n e ∧ wideN n e x = true
theorem any_all (p : Nat → Bool) (n : Nat) : foldR (anyG p) n 0 0 = anyK p (2 ^ n) := by
  have h := foldR_lt (anyG p) (anyK p) n (fun i _ => rfl) n 0 (by omega)
  rw [Nat.zero_add] at h
  exact h
theorem even_facts (n e : Nat) (h1 : 1 ≤ n) (h2 : n ≤ 12) (he : e < 2 ^ n) (h0 : e.testBit 0 = false) (hb : bothN n e = e) : EvenF n e := by
  obtain ⟨h, hh, hsp⟩ := spread_of n e h1 he h0 hb
  have hw := withX_all n h h1 h2 hh
  rw [hsp, withX_eq, oneX_eq, mc_all n e h1 h2 he, mc_all n _ h1 h2 (otherN_lt n e)] at hw
  have m1 : mostF n e ≤ n := top_le _ _ n h2 (Nat.le_refl _)
  have m2 : mostF n (otherN n e) ≤ n := top_le _ _ n h2 (Nat.le_refl _)
  have e1 : (manyF n e * 16 + mostF n e) % 16 = mostF n e := by omega
  have e2 : (manyF n e * 16 + mostF n e) / 16 = manyF n e := by omega
  have e3 : (manyF n (otherN n e) * 16 + mostF n (otherN n e)) % 16 = mostF n (otherN n e) := by omega
  unfold endX at hw
  rw [e1, e2, e3, any_all] at hw
  simp only [Bool.and_eq_true, Bool.or_eq_true] at hw
  obtain ⟨⟨⟨⟨⟨⟨a1, a2⟩, a3⟩, a4⟩, a5⟩, a6⟩, a7⟩ := hw
  refine ⟨Nat.le_of_ble_eq_true a1, ?_, Nat.le_of_ble_eq_true a3, Nat.le_of_ble_eq_true a4, ?_, ?_, ?_⟩
  · rcases a2 with a | a
    · exact .inl (Nat.eq_of_beq_eq_true a)
    · exact .inr (Nat.le_of_ble_eq_true a)
  · have a5' := eq_of_beq a5
    constructor
    · intro hm
      rw [hm, Nat.beq_refl] at a5'
      exact Nat.eq_of_beq_eq_true a5'.symm
    · intro hm
      rw [hm, Nat.beq_refl] at a5'
      rw [hm]
      exact Nat.eq_of_beq_eq_true a5'
  · rw [sizeN_of n e h2 he]
    exact Nat.le_of_ble_eq_true a6
  · have hne : anyK (wmK n e (mostF n e) (bitsL e n [])) (2 ^ n) ≠ 0 := fun c => by
      rw [c] at a7
      cases a7
    obtain ⟨x, hx, hp⟩ := any_ex _ _ hne
    unfold wmK at hp
    rw [Bool.and_eq_true, Bool.and_eq_true, frL_free n e x h1 he hx, stF_sum] at hp
    obtain ⟨p1, p2, p3⟩ := hp
    refine ⟨x, hx, p1, by rw [sizeN_of n x h2 hx]; exact Nat.eq_of_beq_eq_true p2, ?_⟩
    unfold wideN
    have ho : e ||| 1 < 2 ^ n := Nat.or_lt_two_pow he (by have := Nat.pow_le_pow_right (n := 2) (by omega) h1; omega)
    rw [sum_comm n (e ||| 1) x h1 ho hx]
    exact p3
theorem free_facts (n s : Nat) (h1 : 1 ≤ n) (h2 : n ≤ 12) (hs : s < 2 ^ n) (h0 : s.testBit 0 = false) : EvenF n (bothN n s) :=
  even_facts n _ h1 h2 (bothN_lt n s h1 hs) (both_zero_bit n s h1 hs h0) (both_both n s h1 hs)
/-- No steps are those of which both are none. -/
theorem both_none (n s : Nat) (h : bothN n s = 0) : s = 0 := by
  unfold bothN at h
  exact (Nat.or_eq_zero_iff.1 h).1
/-- Promise 50. -/
theorem p_free (n s : Nat) (h1 : 1 ≤ n) (h2 : n ≤ 12) (hs : s < 2 ^ n) (h0 : s.testBit 0 = false) : mostF n (bothN n s) = mostF n s ∧ mostF n s * fullF n s ≤ n ∧ (s = 0 ∨ 2 * mostF n s ≤ n) := by
  have f := free_facts n s h1 h2 hs h0
  have e := mostF_both n s h1 h2 hs
  refine ⟨e, ?_, ?_⟩
  · have := f.prod
    rw [e] at this
    exact this
  · rcases f.half with a | a
    · exact .inl (both_none n s a)
    · rw [e] at a
      exact .inr a
/-- Promise 51. -/
theorem p_many (n s : Nat) (h1 : 1 ≤ n) (h2 : n ≤ 12) (hs : s < 2 ^ n) (h0 : s.testBit 0 = false) : 2 ^ mostF n s ≤ manyF n s ∧ n + 1 ≤ manyF n s ∧ (manyF n s = 2 ^ n ↔ s = 0) := by
  have f := free_facts n s h1 h2 hs h0
  have e := mostF_both n s h1 h2 hs
  have c := many_both n s h1 h2 hs
  have a := f.pow
  have b := f.more
  have d := f.all
  rw [e, c] at a
  rw [c] at b d
  refine ⟨a, b, d.trans ⟨both_none n s, fun h => ?_⟩⟩
  subst h
  refine Nat.eq_of_testBit_eq fun i => ?_
  rw [Nat.zero_testBit]
  by_cases hi : i < n
  · rw [both_bit n 0 i h1 hs hi, Nat.zero_testBit, Nat.zero_testBit]; rfl
  · exact Nat.testBit_lt_two_pow (Nat.lt_of_lt_of_le (bothN_lt n 0 h1 hs) (Nat.pow_le_pow_right (by omega) (by omega)))
/-- Promise 52. -/
theorem p_full (n s : Nat) (h1 : 1 ≤ n) (h2 : n ≤ 12) (hs : s < 2 ^ n) (h0 : s.testBit 0 = false) : mostF n (otherN n (bothN n s)) = fullF n s ∧ fullF n s ≤ sizeN (bothN n s) + 1 := ⟨rfl, (free_facts n s h1 h2 hs h0).size⟩
end Go.Proofs.Ytmombdahabimbaa
