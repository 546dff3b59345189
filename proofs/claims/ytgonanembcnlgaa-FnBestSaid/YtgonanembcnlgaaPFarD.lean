/- The law FnBest: best steps are as near as any. -/
import Derived.Test.YtgonanembcnlgaaDrawF
import Derived.Test.YtgonanembcnlgaaFarMath
import Derived.Test.YtgonanembcnlgaaFarP
namespace Go.Proofs.Ytgonanembcnlgaa
open Go.RowKit Go.Shelf
set_option linter.unusedVariables false
theorem best_facts (n k j : Nat) : (∀ i, i < j → sizeN (2 * i + 2) = k → partsN n (2 * i + 2) = 1 → (bestN n k j).2 ≤ mostN n (2 * i + 2) n) ∧ ((bestN n k j).2 < n → sizeN (bestN n k j).1 = k ∧ partsN n (bestN n k j).1 = 1 ∧ (bestN n k j).2 = mostN n (bestN n k j).1 n ∧ (bestN n k j).1.testBit 0 = false) := by
  induction j with
  | zero => exact ⟨fun i hi => by omega, fun h => absurd h (Nat.lt_irrefl n)⟩
  | succ j ih =>
    rw [best_step]
    generalize bestN n k j = x at *
    by_cases c : sizeN (2 * j + 2) = k ∧ partsN n (2 * j + 2) = 1 ∧ mostN n (2 * j + 2) n < x.2
    · have e : bestS n k (2 * j + 2) x = (2 * j + 2, mostN n (2 * j + 2) n) := by unfold bestS; rw [if_pos c]
      rw [e]
      refine ⟨fun i hi h1 h2 => ?_, fun _ => ⟨c.1, c.2.1, rfl, even_bit j⟩⟩
      by_cases d : i = j
      · rw [d]; exact Nat.le_refl _
      · have := ih.1 i (by omega) h1 h2
        show mostN n (2 * j + 2) n ≤ _
        omega
    · have e : bestS n k (2 * j + 2) x = x := by unfold bestS; rw [if_neg c]
      rw [e]
      refine ⟨fun i hi h1 h2 => ?_, ih.2⟩
      by_cases d : i = j
      · subst d
        rcases Nat.lt_or_ge (mostN n (2 * i + 2) n) x.2 with h | h
        · exact absurd ⟨h1, h2, h⟩ c
        · exact h
      · exact ih.1 i (by omega) h1 h2
theorem cand_size : ∀ k, k < 9 → sizeN (2 ^ (k + 1) - 2) = k := by decide +kernel
theorem cand_parts : ∀ n, n < 10 → ∀ k, k < n → 1 ≤ k → partsN n (2 ^ (k + 1) - 2) = 1 := by decide +kernel
theorem cand_bit : ∀ k, k < 9 → (2 ^ (k + 1) - 2).testBit 0 = false := by decide +kernel
theorem cand_form (n k : Nat) (h2 : n ≤ 9) (hk1 : 1 ≤ k) (hk2 : k < n) : 2 * (2 ^ k - 2) + 2 = 2 ^ (k + 1) - 2 ∧ 2 ^ k - 2 < 2 ^ (n - 1) - 1 ∧ 2 ^ (k + 1) - 2 < 2 ^ n ∧ 2 ≤ 2 ^ k := by
  have a : 2 ^ 1 ≤ 2 ^ k := Nat.pow_le_pow_right (by omega) hk1
  have b : 2 ^ k ≤ 2 ^ (n - 1) := Nat.pow_le_pow_right (by omega) (by omega)
  have c : 2 ^ (k + 1) = 2 * 2 ^ k := by rw [Nat.pow_succ, Nat.mul_comm]
  have d : 2 ^ (k + 1) ≤ 2 ^ n := Nat.pow_le_pow_right (by omega) (by omega)
  rw [c] at d ⊢
  have : (2:Nat) ^ 1 = 2 := rfl
  omega
/-- The best steps: a size, one part, no farther than the nearest steps. -/
theorem best_is (n k : Nat) (h1 : 2 ≤ n) (h2 : n ≤ 9) (hk1 : 1 ≤ k) (hk2 : k < n) :
    ∃ q, (bestN n k (2 ^ (n - 1) - 1)).1 = q ∧ q < 2 ^ n ∧ q.testBit 0 = false ∧ sizeN q = k ∧ partsN n q = 1 ∧ mostN n q n ≤ mostN n (2 ^ (k + 1) - 2) n := by
  obtain ⟨f1, f2, f3, f4⟩ := cand_form n k h2 hk1 hk2
  have hq := Nat.two_pow_pos (n - 1)
  have hpn : 2 ^ n = 2 * 2 ^ (n - 1) := by
    obtain ⟨m, rfl⟩ : ∃ m, n = m + 1 := ⟨n - 1, by omega⟩
    rw [Nat.pow_succ, Nat.add_sub_cancel, Nat.mul_comm]
  have hr := best_range n k (2 ^ (n - 1) - 1) (by omega)
  obtain ⟨g1, g2⟩ := best_facts n k (2 ^ (n - 1) - 1)
  have g3 := g1 (2 ^ k - 2) f2 (by rw [f1]; exact cand_size k (by omega)) (by rw [f1]; exact cand_parts n (by omega) k hk2 hk1)
  rw [f1] at g3
  have hm := most_lt n (2 ^ (k + 1) - 2) (by omega) (by omega) f3
  obtain ⟨i1, i2, i3, i4⟩ := g2 (by omega)
  exact ⟨_, rfl, hr.1, i4, i1, i2, by omega⟩
set_option maxRecDepth 20000 in
set_option maxHeartbeats 1000000 in
theorem law_PBest (W : World) (B len cap : Nat) (A : Option Addr) (f : Nat → Nat) (hC : Code W B A len f) (hB : B ≤ W.heap.size) (hlc : len ≤ cap) (hcap : cap ≤ 9223372036854775807) :
    Calls Try.prog 8 #[.slice A len cap] W fun e w' => e = .returned (.bool true) ∧ Below W.heap.size W w' := by
  have HC := Lib.hid (drawFarBest_any W B len cap A f hC hB hlc hcap)
  clear hC
  by_cases hlen : (1048576 : Int) < (len : Int)
  · go_enter Try.func8, Try.ntmps8
    go_wp2
    go_ret
    exact ⟨rfl, Below.refl _ _⟩
  go_enter Try.func8, Try.ntmps8
  go_wp2_with fail
  refine HC.out.mono ?_
  rintro e w1 ⟨n, k, rfl, h1, h2, h3, h4, hb1⟩
  have HB := Lib.hid hb1
  clear hb1 hB hlc hcap
  by_cases hyes : 2 ≤ n ∧ n ≤ 9 ∧ 1 ≤ k ∧ k ≤ n - 1
  · obtain ⟨n, rfl⟩ : ∃ m : Nat, n = (m : Int) := ⟨n.toNat, by omega⟩
    obtain ⟨k, rfl⟩ : ∃ m : Nat, k = (m : Int) := ⟨k.toNat, by omega⟩
    obtain ⟨y1, y2, y3, y4⟩ := hyes
    have hn1 : 2 ≤ n := by omega
    have hn2 : n ≤ 9 := by omega
    have hk1 : 1 ≤ k := by omega
    have hk2 : k < n := by omega
    have hi := fun W => implFarBest_yes n k W hn1 hn2 hk1 hk2
    have hs := fun W => specFarBest_yes n k W hn1 hn2 hk1 hk2
    obtain ⟨q, hq, q1, q2, q3, q4, q5⟩ := best_is n k hn1 hn2 hk1 hk2
    obtain ⟨f1, f2, f3, f4⟩ := cand_form n k hn2 hk1 hk2
    rw [hq] at hi hs
    have HI := Lib.hid hi
    have HS := Lib.hid hs
    have HM := Lib.hid (fun W => implFarMost_yes n q W (by omega) (by omega) q1 q2 q4)
    have HM2 := Lib.hid (fun W => implFarMost_yes n (2 ^ (k + 1) - 2) W (by omega) (by omega) f3 (cand_bit k (by omega)) (cand_parts n (by omega) k hk2 hk1))
    have hpw := pow_le n (by omega)
    have hz := fun W => size_any q W (by omega)
    rw [q3] at hz
    have HSz := Lib.hid hz
    have hle : ((mostN n q n : Nat) : Int) ≤ ((mostN n (2 ^ (k + 1) - 2) n : Nat) : Int) := by omega
    have hcc : ((2 ^ (k + 1) : Nat) : Int) - 2 = ((2 ^ (k + 1) - 2 : Nat) : Int) := by omega
    have hp1 : 2 ^ (k + 1) ≤ 2 ^ n := Nat.pow_le_pow_right (by omega) (by omega)
    have hp0 := Nat.two_pow_pos (k + 1)
    have hw1 := IntWalk.i64_in ((k : Int) + 1) ⟨by omega, by omega⟩
    have htn : ((k : Int) + 1).toNat = k + 1 := by omega
    have hwp := wrap_powI (k + 1) (by omega)
    obtain ⟨cc, hcq⟩ : ∃ cc, 2 ^ (k + 1) - 2 = cc := ⟨_, rfl⟩
    obtain ⟨pk, hpk⟩ : ∃ pk, 2 ^ (k + 1) = pk := ⟨_, rfl⟩
    rw [hcq] at HM2 hle hcc
    rw [hpk] at hcc hp1 hp0 hwp
    have hw2 := IntWalk.i64_in ((pk : Int) - 2) ⟨by omega, by omega⟩
    clear hi hs hz hq q1 q2 q3 q4 q5 f1 f2 f3 f4 hcq hpk y1 y2 y3 y4
    generalize mostN n q n = x at *
    generalize mostN n cc n = y at *
    go_wp2_with fail
    refine (HI.out _).mono ?_
    rintro e w2 ⟨rfl, hb2⟩
    have HB := Lib.hid (HB.out.trans (hb2.mono HB.out.size))
    clear hb2
    go_wp2_with fail
    refine (HS.out _).mono ?_
    rintro e w3 ⟨rfl, hb3⟩
    have HB := Lib.hid (HB.out.trans (hb3.mono HB.out.size))
    clear hb3
    go_wp2_with fail
    refine (HM.out _).mono ?_
    rintro e w4 ⟨rfl, hb4⟩
    have HB := Lib.hid (HB.out.trans (hb4.mono HB.out.size))
    clear hb4
    go_wp2_with fail
    refine (HM2.out _).mono ?_
    rintro e w5 ⟨rfl, hb5⟩
    have HB := Lib.hid (HB.out.trans (hb5.mono HB.out.size))
    clear hb5
    go_wp2_with (go_at_call 23; refine (HSz.out _).mono ?_; rintro e w' ⟨rfl, rfl⟩)
    go_ret
    exact ⟨rfl, HB.out⟩
  · have HI := Lib.hid (fun W => implFarBest_no n k W hyes)
    have HS := Lib.hid (fun W => specFarBest_not n k W hyes)
    clear hyes
    go_wp2_with fail
    refine (HI.out _).mono ?_
    rintro e w2 ⟨rfl, hb2⟩
    have HB := Lib.hid (HB.out.trans (hb2.mono HB.out.size))
    clear hb2
    go_wp2_with fail
    refine (HS.out _).mono ?_
    rintro e w3 ⟨rfl, rfl⟩
    go_wp2
    go_ret
    exact ⟨rfl, HB.out⟩
end Go.Proofs.Ytgonanembcnlgaa
