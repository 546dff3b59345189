/- Free sets by both steps; even steps as spread of half of them. -/
import Derived.Test.YtmombdahabimbaaFreK
import Derived.Test.YtmombdahabimbaaStepQ
namespace Go.Proofs.Ytmombdahabimbaa
set_option linter.unusedVariables false
theorem twelveG {n : Nat} (h1 : 1 ≤ n) (h2 : n ≤ 12) : n = 1 ∨ n = 2 ∨ n = 3 ∨ n = 4 ∨ n = 5 ∨ n = 6 ∨ n = 7 ∨ n = 8 ∨ n = 9 ∨ n = 10 ∨ n = 11 ∨ n = 12 := by omega
theorem back_add (n v w : Nat) (h1 : 1 ≤ n) (h2 : n ≤ 12) (hv : v < n) (hw : w < n) : (v + rest n ((w : Int) - (v : Int))) % n = w := by
  unfold rest
  rcases twelveG h1 h2 with rfl | rfl | rfl | rfl | rfl | rfl | rfl | rfl | rfl | rfl | rfl | rfl <;> omega
theorem back_sub (n v d i : Nat) (h1 : 1 ≤ n) (h2 : n ≤ 12) (hv : v < n) (hd : d < n) (h : (v + d) % n = i) : rest n ((i : Int) - (v : Int)) = d := by
  unfold rest
  rcases twelveG h1 h2 with rfl | rfl | rfl | rfl | rfl | rfl | rfl | rfl | rfl | rfl | rfl | rfl <;> omega
theorem free_iff (n s x : Nat) (h1 : 1 ≤ n) (h2 : n ≤ 12) (hs : s < 2 ^ n) (hx : x < 2 ^ n) :
    fsetN n s x = true ↔ ∀ v w, v < n → w < n → x.testBit v = true → x.testBit w = true → s.testBit (rest n ((w : Int) - (v : Int))) = false := by
  unfold fsetN
  constructor
  · intro h v w hv hw bv bw
    have h0 := Nat.eq_of_beq_eq_true h
    cases hb : s.testBit (rest n ((w : Int) - (v : Int)))
    · rfl
    · have e : (sumN n s x).testBit w = true := (sumN_bit n s x w h1 hs).2 ⟨v, _, hv, bv, rest_lt n _ h1, hb, back_add n v w h1 h2 hv hw⟩
      have e2 : (sumN n s x &&& x).testBit w = true := by rw [Nat.testBit_and, e, bw]; rfl
      rw [h0, Nat.zero_testBit] at e2
      cases e2
  · intro h
    have h0 : sumN n s x &&& x = 0 := Nat.eq_of_testBit_eq fun i => by
      rw [Nat.zero_testBit, Nat.testBit_and]
      cases ha : (sumN n s x).testBit i
      · rfl
      · cases hb : x.testBit i
        · rfl
        · obtain ⟨v, d, hv, bv, hd, bd, e⟩ := (sumN_bit n s x i h1 hs).1 ha
          have hi := lt_of_bits n x hx i hb
          have := h v i hv hi bv hb
          rw [back_sub n v d i h1 h2 hv hd e, bd] at this
          cases this
    rw [h0]; rfl
theorem free_both (n s x : Nat) (h1 : 1 ≤ n) (h2 : n ≤ 12) (hs : s < 2 ^ n) (hx : x < 2 ^ n) : fsetN n (bothN n s) x = fsetN n s x := by
  have hb := bothN_lt n s h1 hs
  have key : fsetN n (bothN n s) x = true ↔ fsetN n s x = true := by
    rw [free_iff n _ x h1 h2 hb hx, free_iff n s x h1 h2 hs hx]
    constructor
    · intro h v w hv hw bv bw
      have := h v w hv hw bv bw
      rw [both_bit n s _ h1 hs (rest_lt n _ h1), Bool.or_eq_false_iff] at this
      exact this.1
    · intro h v w hv hw bv bw
      rw [both_bit n s _ h1 hs (rest_lt n _ h1), Bool.or_eq_false_iff]
      refine ⟨h v w hv hw bv bw, ?_⟩
      rw [rest_sub_neg n v w h1]
      exact h w v hw hv bw bv
  cases ha : fsetN n (bothN n s) x <;> cases hc : fsetN n s x
  · rfl
  · rw [hc] at key; rw [key.2 rfl] at ha; cases ha
  · rw [ha] at key; rw [key.1 rfl] at hc; cases hc
  · rfl
theorem mostF_both (n s : Nat) (h1 : 1 ≤ n) (h2 : n ≤ 12) (hs : s < 2 ^ n) : mostF n (bothN n s) = mostF n s := top_congr _ _ _ fun i hi => free_both n s i h1 h2 hs hi
theorem many_both (n s : Nat) (h1 : 1 ≤ n) (h2 : n ≤ 12) (hs : s < 2 ^ n) : manyF n (bothN n s) = manyF n s := cnt_congr _ _ _ fun i hi => free_both n s i h1 h2 hs hi
/-- Even steps are spread of half of them. -/
theorem spread_of (n e : Nat) (h1 : 1 ≤ n) (he : e < 2 ^ n) (h0 : e.testBit 0 = false) (hb : bothN n e = e) : ∃ h, h < 2 ^ (n / 2) ∧ spreadN n h (n / 2) = e := by
  have hev := (even_neg n e h1 he).1 hb
  refine ⟨(e >>> 1) % 2 ^ (n / 2), Nat.mod_lt _ (Nat.two_pow_pos _), Nat.eq_of_testBit_eq fun v => ?_⟩
  have hbit : ∀ d, d < n / 2 → ((e >>> 1) % 2 ^ (n / 2)).testBit d = e.testBit (d + 1) := fun d hd => by
    rw [Nat.testBit_mod_two_pow, decide_eq_true hd, Bool.true_and, Nat.testBit_shiftRight, Nat.add_comm]
  have key := spread_bit n ((e >>> 1) % 2 ^ (n / 2)) (n / 2) v (by omega)
  cases hv : e.testBit v
  · cases hs : (spreadN n ((e >>> 1) % 2 ^ (n / 2)) (n / 2)).testBit v
    · rfl
    · obtain ⟨d, hd, hbd, hor⟩ := key.1 hs
      rw [hbit d hd] at hbd
      rcases hor with e1 | e1
      · rw [← e1, hv] at hbd; cases hbd
      · have h2 := hev (d + 1) (by omega)
        rw [neg_val n (d + 1) h1 (by omega), if_neg (by omega), ← e1, hv, hbd] at h2
        cases h2
  · have hvn := lt_of_bits n e he v hv
    have hv0 : v ≠ 0 := fun c => by rw [c, h0] at hv; cases hv
    refine key.2 ?_
    by_cases c : v ≤ n / 2
    · exact ⟨v - 1, by omega, by rw [hbit (v - 1) (by omega), show v - 1 + 1 = v by omega]; exact hv, .inl (by omega)⟩
    · refine ⟨n - v - 1, by omega, ?_, .inr (by omega)⟩
      rw [hbit (n - v - 1) (by omega), show n - v - 1 + 1 = n - v by omega]
      have h2 := hev v hvn
      rw [neg_val n v h1 hvn, if_neg hv0, hv] at h2
      exact h2
end Go.Proofs.Ytmombdahabimbaa
