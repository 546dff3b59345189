/- The law FnSum: sums go both ways, and have enough places. -/
import Derived.Test.YtodiliabjaiecaaDraw3
import Derived.Test.YtodiliabjaiecaaWrapA
import Derived.Test.YtodiliabjaiecaaSpecB
namespace Go.Proofs.Ytodiliabjaiecaa
open Go.RowKit Go.Shelf
set_option linter.unusedVariables false
theorem popF_le (f s : Nat) : popF f s ≤ f := by
  induction f generalizing s with
  | zero => exact Nat.le_refl _
  | succ f ih =>
    have h1 := ih (s / 2)
    have h2 : s % 2 < 2 := Nat.mod_lt _ (by omega)
    show s % 2 + popF f (s / 2) ≤ f + 1
    omega
theorem sum_none (n a : Nat) : sumN n a 0 = 0 := by
  have h : ∀ j, overSet 0 (sumS n a) j 0 = 0 := by
    intro j
    induction j with
    | zero => rfl
    | succ j ih =>
      show (if (0 : Nat).testBit j then sumS n a j (overSet 0 (sumS n a) j 0) else overSet 0 (sumS n a) j 0) = 0
      rw [Nat.zero_testBit]
      simpa using ih
  exact h n
theorem law_Sum (W : World) (B len cap : Nat) (A : Option Addr) (f : Nat → Nat) (hC : Code W B A len f) (hB : B ≤ W.heap.size) (hlc : len ≤ cap) (hcap : cap ≤ 9223372036854775807) :
    Calls Try.prog 6 #[.slice A len cap] W fun e w' => e = .returned (.bool true) ∧ Below W.heap.size W w' := by
  have HC := Lib.hid (drawSum_any W B len cap A f hC hB hlc hcap)
  clear hC
  by_cases hlen : (1048576 : Int) < (len : Int)
  · go_enter Try.func6, Try.ntmps6
    go_wp2
    go_ret
    exact ⟨rfl, Below.refl _ _⟩
  · go_enter Try.func6, Try.ntmps6
    go_wp2_with fail
    refine HC.out.mono ?_
    rintro e w1 ⟨n, s, t, rfl, hn1, hn2, hs, ht, hb1⟩
    have z1 := hb1.size
    by_cases hno : NotIn (n : Int) (s : Int) ∨ NotIn (n : Int) (t : Int)
    · have HN := Lib.hid hno
      clear hno
      go_wp2_with fail
      refine (implSum_no n s t _ HN.out).mono ?_
      rintro e w2 ⟨rfl, hb2⟩
      go_wp2_with fail
      refine (specSum_no n s t _ HN.out).mono ?_
      rintro e w3 ⟨rfl, rfl⟩
      go_wp2
      go_ret
      exact ⟨rfl, hb1.trans (hb2.mono z1)⟩
    · obtain ⟨m, s', hm, hs', h1, h2, h3⟩ := not_notIn (fun hh => hno (.inl hh))
      obtain ⟨m', t', hm', ht', _, _, h4⟩ := not_notIn (fun hh => hno (.inr hh))
      obtain rfl : n = m := by omega
      obtain rfl : n = m' := by omega
      obtain rfl : s = s' := by omega
      obtain rfl : t = t' := by omega
      clear hno hm hm' hs' ht' hn2
      have hsp := fun W => specSum_yes n s t W h1 h2 h3 h4
      have him := fun W => implSum_yes n s t W h1 h2 h3 h4
      have hir := fun W => implSum_yes n t s W h1 h2 h4 h3
      have hcm := sum_comm n s t h1 h3 h4
      rw [← hcm] at hsp hir
      have hso := sumN_lt n s t
      have hpw := pow_le n h2
      have z3 : sumN n s t = 0 ∨ (s ≠ 0 ∧ t ≠ 0) := by
        by_cases e1 : t = 0
        · subst e1; exact .inl (sum_none n s)
        · by_cases e2 : s = 0
          · subst e2; rw [hcm]; exact .inl (sum_none n t)
          · exact .inr ⟨e2, e1⟩
      have g1 := size_sum_le n s t h1 h2 h3 h4
      have g2 : t ≠ 0 → sizeN s ≤ sizeN (sumN n s t) := size_sum_ge n s t h1 h2 h3 h4
      have g3 : s ≠ 0 → sizeN t ≤ sizeN (sumN n s t) := by rw [hcm]; exact size_sum_ge n t s h1 h2 h4 h3
      clear hcm
      have k1 := size_any (sumN n s t)
      have k2 := size_any s
      have k3 := size_any t
      have l1 := popF_le 40 s
      have l2 := popF_le 40 t
      have l3 := popF_le 40 (sumN n s t)
      change sizeN s ≤ 40 at l1
      change sizeN t ≤ 40 at l2
      change sizeN (sumN n s t) ≤ 40 at l3
      have HSp := Lib.hid hsp
      have HIm := Lib.hid him
      have HIr := Lib.hid hir
      clear hsp him hir
      generalize sumN n s t = o at *
      have K1 := Lib.hid (fun W => k1 W (by omega))
      have K2 := Lib.hid (fun W => k2 W (by omega))
      have K3 := Lib.hid (fun W => k3 W (by omega))
      clear k1 k2 k3
      by_cases he : s = 0 ∨ t = 0
      · have hoz : o = 0 := by omega
        subst hoz
        clear z3 g1 g2 g3 l1 l2 l3
        rcases he with he | he
        · subst he
          go_wp2_with fail
          refine (HIm.out _).mono ?_
          rintro e w2 ⟨rfl, hb2⟩
          have z2 := hb2.size
          go_wp2_with fail
          refine (HSp.out _).mono ?_
          rintro e w3 ⟨rfl, rfl⟩
          go_wp2_with fail
          refine (HIr.out _).mono ?_
          rintro e w4 ⟨rfl, hb4⟩
          go_wp2
          go_ret
          exact ⟨rfl, (hb1.trans (hb2.mono z1)).trans (hb4.mono (by omega))⟩
        · subst he
          by_cases hsz : s = 0
          · subst hsz
            go_wp2_with fail
            refine (HIm.out _).mono ?_
            rintro e w2 ⟨rfl, hb2⟩
            have z2 := hb2.size
            go_wp2_with fail
            refine (HSp.out _).mono ?_
            rintro e w3 ⟨rfl, rfl⟩
            go_wp2_with fail
            refine (HIr.out _).mono ?_
            rintro e w4 ⟨rfl, hb4⟩
            go_wp2
            go_ret
            exact ⟨rfl, (hb1.trans (hb2.mono z1)).trans (hb4.mono (by omega))⟩
          · have hsq : ((s : Int) == 0) = false := by simp; omega
            go_wp2_with fail
            refine (HIm.out _).mono ?_
            rintro e w2 ⟨rfl, hb2⟩
            have z2 := hb2.size
            go_wp2_with fail
            refine (HSp.out _).mono ?_
            rintro e w3 ⟨rfl, rfl⟩
            go_wp2_with fail
            refine (HIr.out _).mono ?_
            rintro e w4 ⟨rfl, hb4⟩
            go_wp2
            go_ret
            exact ⟨rfl, (hb1.trans (hb2.mono z1)).trans (hb4.mono (by omega))⟩
      · have e1 : s ≠ 0 := fun h => he (.inl h)
        have e2 : t ≠ 0 := fun h => he (.inr h)
        have q1 := g2 e2
        have q2 := g3 e1
        have hsq : ((s : Int) == 0) = false := by simp; omega
        have htq : ((t : Int) == 0) = false := by simp; omega
        clear he z3 g2 g3 e1 e2
        generalize sizeN s = a at *
        generalize sizeN t = b at *
        generalize sizeN o = c at *
        have hab : a * b ≤ 40 * 40 := Nat.mul_le_mul l1 l2
        have hcast : ((a : Int) * (b : Int)) = ((a * b : Nat) : Int) := by simp
        have hwr := IntWalk.i64_in ((a : Int) * (b : Int)) ⟨by rw [hcast]; omega, by rw [hcast]; omega⟩
        have hle : (c : Int) ≤ (a : Int) * (b : Int) := by rw [hcast]; omega
        clear hcast hab g1
        by_cases hmx : (a : Int) < (b : Int)
        all_goals
          have HMX := Lib.hid hmx
          go_wp2_with fail
          refine (HIm.out _).mono ?_
          rintro e w2 ⟨rfl, hb2⟩
          have z2 := hb2.size
          go_wp2_with fail
          refine (HSp.out _).mono ?_
          rintro e w3 ⟨rfl, rfl⟩
          go_wp2_with fail
          refine (HIr.out _).mono ?_
          rintro e w4 ⟨rfl, hb4⟩
          go_wp2_with fail
          refine (K1.out _).mono ?_
          rintro e w5 ⟨rfl, rfl⟩
          go_wp2_with fail
          refine (K2.out _).mono ?_
          rintro e w6 ⟨rfl, rfl⟩
          go_wp2_with fail
          refine (K3.out _).mono ?_
          rintro e w7 ⟨rfl, rfl⟩
          go_wp2_with fail
          refine (K1.out _).mono ?_
          rintro e w8 ⟨rfl, rfl⟩
          go_wp2_with fail
          refine (K2.out _).mono ?_
          rintro e w9 ⟨rfl, rfl⟩
          go_wp2_with fail
          refine (K3.out _).mono ?_
          rintro e w10 ⟨rfl, rfl⟩
          go_wp2
          go_ret
          exact ⟨rfl, (hb1.trans (hb2.mono z1)).trans (hb4.mono (by omega))⟩
end Go.Proofs.Ytodiliabjaiecaa
