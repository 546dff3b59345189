/- Laws of chapter 5 over numbers alone, the program's contracts given: FnTwoTurned, FnOne. -/
import Derived.Test.YtfgolkbafnfblaaDrawU
import Derived.Test.YtfgolkbafnfblaaRndM
import Derived.Test.YtfgolkbafnfblaaRndE
import Derived.Test.YtfgolkbafnfblaaStepWB
import Derived.Test.YtfgolkbafnfblaaDraw2
import Derived.Test.YtfgolkbafnfblaaDivisor
namespace Go.Proofs.Ytfgolkbafnfblaa
open Go.RowKit Go.Shelf
set_option linter.unusedVariables false
theorem lawP_TwoTurned (W : World) (B len cap : Nat) (A : Option Addr) (f : Nat → Nat) (hC : Code W B A len f) (hB : B ≤ W.heap.size) (hlc : len ≤ cap) (hcap : cap ≤ 9223372036854775807)
    (hNo : ∀ (n a b : Int) (W : World), NoTwo n a b → Calls Try.prog 14 #[.int .i64 n, .int .i64 a, .int .i64 b] W fun e w' => e = .returned (.bool false) ∧ Below W.heap.size W w')
    (hYes : ∀ (n a b : Nat) (W : World), 2 ≤ n → n ≤ 12 → 1 ≤ a → a < n → 1 ≤ b → b < n → a ≠ b → Calls Try.prog 14 #[.int .i64 (n:Int), .int .i64 (a:Int), .int .i64 (b:Int)] W fun e w' => e = .returned (.bool (twoN n a b)) ∧ Below W.heap.size W w') :
    Calls Try.prog 4 #[.slice A len cap] W fun e w' => e = .returned (.bool true) ∧ Below W.heap.size W w' := by
  have HC := Lib.hid (drawRoundTwo_any W B len cap A f hC hB hlc hcap)
  clear hC
  by_cases hlen : (1048576 : Int) < (len : Int)
  · go_enter Try.func4, Try.ntmps4
    go_wp2
    go_ret
    exact ⟨rfl, Below.refl _ _⟩
  go_enter Try.func4, Try.ntmps4
  go_wp2_with fail
  refine HC.out.mono ?_
  rintro e w1 ⟨n, a, b, rfl, hn1, hn2, ha1, ha2, hb1, hb2, hbl⟩
  have HB := Lib.hid hbl
  clear hbl hB hlc hcap
  by_cases hno : NoTwo (n : Int) (a : Int) b
  · have HI := Lib.hid (fun W => hNo n a b W hno)
    have HS := Lib.hid (fun W => specRoundTwo_no n a b W hno)
    clear hno hNo hYes
    go_wp2_with fail
    refine (HI.out _).mono ?_
    rintro e w2 ⟨rfl, hb2⟩
    have HB := Lib.hid (HB.out.trans (hb2.mono HB.out.size))
    clear hb2
    go_wp2_with fail
    refine (HS.out _).mono ?_
    rintro e w3 ⟨rfl, rfl⟩
    go_wp2
    go_ret
    exact ⟨rfl, HB.out⟩
  obtain ⟨m, x, y, e1, e2, e3, h2, h12, hx1, hx, hy1, hy, hxy⟩ := not_noTwo hno
  obtain rfl : n = m := by omega
  obtain rfl : a = x := by omega
  subst e3
  have HI := Lib.hid (fun W => hYes n a y W h2 h12 hx1 hx hy1 hy hxy)
  have HS := Lib.hid (fun W => specRoundTwo_yes n a y W h2 h12 hx1 hx hy1 hy hxy)
  cases hq : twoN n a y
  · rw [hq] at HI HS
    clear hno hNo hYes hq e1 e2
    go_wp2_with fail
    refine (HI.out _).mono ?_
    rintro e w2 ⟨rfl, hb2⟩
    have HB := Lib.hid (HB.out.trans (hb2.mono HB.out.size))
    clear hb2
    go_wp2_with fail
    refine (HS.out _).mono ?_
    rintro e w3 ⟨rfl, hb3⟩
    have HB := Lib.hid (HB.out.trans (hb3.mono HB.out.size))
    clear hb3
    go_wp2
    go_ret
    exact ⟨rfl, HB.out⟩
  · obtain ⟨t1, t2⟩ := two_both n a y h2 h12 hx1 hx hy1 hy hxy hq
    have HX := Lib.hid (fun W => hYes n y a W h2 h12 hy1 hy hx1 hx (fun e => hxy e.symm))
    have HY := Lib.hid (fun W => hYes n (n - a) (n - y) W h2 h12 (by omega) (by omega) (by omega) (by omega) (by omega))
    rw [hq] at HI HS
    rw [t1] at HX
    rw [t2] at HY
    obtain ⟨p, hp⟩ : ∃ p, n - a = p := ⟨_, rfl⟩
    obtain ⟨r, hr⟩ : ∃ r, n - y = r := ⟨_, rfl⟩
    rw [hp, hr] at HY
    have d1 : (n : Int) - (a : Int) = (p : Int) := by omega
    have d2 : (n : Int) - (y : Int) = (r : Int) := by omega
    have d3 : IntKind.i64.wrap ((n : Int) - (a : Int)) = (p : Int) := by rw [d1]; exact IntWalk.i64_in _ ⟨by omega, by omega⟩
    have d4 : wrap64 ((n : Int) - (a : Int)) = (p : Int) := by rw [d1]; exact IntWalk.wrap64_in _ ⟨by omega, by omega⟩
    have d5 : IntKind.i64.wrap ((n : Int) - (y : Int)) = (r : Int) := by rw [d2]; exact IntWalk.i64_in _ ⟨by omega, by omega⟩
    have d6 : wrap64 ((n : Int) - (y : Int)) = (r : Int) := by rw [d2]; exact IntWalk.wrap64_in _ ⟨by omega, by omega⟩
    clear hno hNo hYes hq e1 e2 t1 t2 hp hr d1 d2
    go_wp2_with fail
    refine (HI.out _).mono ?_
    rintro e w2 ⟨rfl, hb2⟩
    have HB := Lib.hid (HB.out.trans (hb2.mono HB.out.size))
    clear hb2
    go_wp2_with fail
    refine (HS.out _).mono ?_
    rintro e w3 ⟨rfl, hb3⟩
    have HB := Lib.hid (HB.out.trans (hb3.mono HB.out.size))
    clear hb3
    go_wp2_with fail
    refine (HX.out _).mono ?_
    rintro e w4 ⟨rfl, hb4⟩
    have HB := Lib.hid (HB.out.trans (hb4.mono HB.out.size))
    clear hb4
    go_wp2_with fail
    refine (HY.out _).mono ?_
    rintro e w5 ⟨rfl, hb5⟩
    have HB := Lib.hid (HB.out.trans (hb5.mono HB.out.size))
    clear hb5
    go_wp2
    go_ret
    exact ⟨rfl, HB.out⟩
theorem lawP_One (W : World) (B len cap : Nat) (A : Option Addr) (f : Nat → Nat) (hC : Code W B A len f) (hB : B ≤ W.heap.size) (hlc : len ≤ cap) (hcap : cap ≤ 9223372036854775807)
    (hNo : ∀ (n k : Int) (W : World), NoOne n k → Calls Try.prog 17 #[.int .i64 n, .int .i64 k] W fun e w' => e = .returned (.tuple #[.int .i64 0, .bool false]) ∧ Below W.heap.size W w')
    (hYes : ∀ (n k : Nat) (W : World), 1 ≤ n → n ≤ 12 → 1 ≤ k → k < n → Calls Try.prog 17 #[.int .i64 (n:Int), .int .i64 (k:Int)] W fun e w' => e = .returned (.tuple #[.int .i64 ((n / Nat.gcd n k : Nat) : Int), .bool true]) ∧ Below W.heap.size W w') :
    Calls Try.prog 5 #[.slice A len cap] W fun e w' => e = .returned (.bool true) ∧ Below W.heap.size W w' := by
  have HC := Lib.hid (drawRoundOne_any W B len cap A f hC hB hlc hcap)
  clear hC
  by_cases hlen : (1048576 : Int) < (len : Int)
  · go_enter Try.func5, Try.ntmps5
    go_wp2
    go_ret
    exact ⟨rfl, Below.refl _ _⟩
  go_enter Try.func5, Try.ntmps5
  go_wp2_with fail
  refine HC.out.mono ?_
  rintro e w1 ⟨n, k, rfl, hn1, hn2, hk1, hk2, hbl⟩
  have HB := Lib.hid hbl
  clear hbl hB hlc hcap
  by_cases hno : NoOne (n : Int) k
  · have HI := Lib.hid (fun W => hNo n k W hno)
    have HS := Lib.hid (fun W => specRoundOne_no n k W hno)
    clear hno hNo hYes
    go_wp2_with fail
    refine (HI.out _).mono ?_
    rintro e w2 ⟨rfl, hb2⟩
    have HB := Lib.hid (HB.out.trans (hb2.mono HB.out.size))
    clear hb2
    go_wp2_with fail
    refine (HS.out _).mono ?_
    rintro e w3 ⟨rfl, rfl⟩
    go_wp2
    go_ret
    exact ⟨rfl, HB.out⟩
  have hyes : 1 ≤ (n : Int) ∧ (n : Int) ≤ 12 ∧ 1 ≤ k ∧ k ≤ (n : Int) - 1 := Decidable.byContradiction hno
  obtain ⟨j, rfl⟩ : ∃ j : Nat, k = (j : Int) := ⟨k.toNat, by omega⟩
  have h12 : n ≤ 12 := by omega
  have hj1 : 1 ≤ j := by omega
  have hj : j < n := by omega
  have HI := Lib.hid (fun W => hYes n j W hn1 h12 hj1 hj)
  have HS := Lib.hid (fun W => specRoundOne_yes n j W hn1 h12 hj1 hj)
  have hsl : 2 ^ j < 2 ^ n := Nat.pow_lt_pow_right (by omega) hj
  have hs0 : (2 ^ j).testBit 0 = false := by rw [Nat.testBit_two_pow]; exact decide_eq_false (by omega)
  have HP := Lib.hid (fun W => implStepPart_yes n (2 ^ j) W hn1 h12 hsl hs0)
  obtain ⟨o1, o2⟩ := one_says n j h12 hj1 hj
  have hpl : partN n (2 ^ j) < 2 ^ 40 := Nat.lt_of_lt_of_le (partN_lt n (2 ^ j) hn1) (Nat.pow_le_pow_right (by omega) (by omega))
  have HSz := Lib.hid (fun W => size_any (partN n (2 ^ j)) W hpl)
  rw [o1] at HSz
  have HD := Lib.hid (fun W => divisor_any n j W (by omega) (by omega))
  have hwp := wrap_pow j (by omega)
  generalize partN n (2 ^ j) = P at *
  generalize n / Nat.gcd n j = q at *
  generalize Nat.gcd n j = g at *
  clear hno hNo hYes hyes hsl hs0 hpl o1
  generalize 2 ^ j = s at *
  by_cases hg : g = 1
  · have hqn := o2.2 hg
    have e1 : ((q : Int) == (n : Int)) = true := by simp [hqn]
    have e2 : ((g : Int) == 1) = true := by simp [hg]
    clear o2 hg hqn
    go_wp2_with fail
    refine (HI.out _).mono ?_
    rintro e w2 ⟨rfl, hb2⟩
    have HB := Lib.hid (HB.out.trans (hb2.mono HB.out.size))
    clear hb2
    go_wp2_with fail
    refine (HS.out _).mono ?_
    rintro e w3 ⟨rfl, rfl⟩
    go_wp2_with fail
    refine (HP.out _).mono ?_
    rintro e w4 ⟨rfl, hb4⟩
    have HB := Lib.hid (HB.out.trans (hb4.mono HB.out.size))
    clear hb4
    go_wp2_with fail
    refine (HSz.out _).mono ?_
    rintro e w5 ⟨rfl, rfl⟩
    go_wp2_with fail
    refine (HD.out _).mono ?_
    rintro e w6 ⟨rfl, rfl⟩
    go_wp2
    go_ret
    exact ⟨rfl, HB.out⟩
  · have hqn : q ≠ n := fun h => hg (o2.1 h)
    have e1 : ((q : Int) == (n : Int)) = false := by simp; omega
    have e2 : ((g : Int) == 1) = false := by simp; omega
    clear o2 hg hqn
    go_wp2_with fail
    refine (HI.out _).mono ?_
    rintro e w2 ⟨rfl, hb2⟩
    have HB := Lib.hid (HB.out.trans (hb2.mono HB.out.size))
    clear hb2
    go_wp2_with fail
    refine (HS.out _).mono ?_
    rintro e w3 ⟨rfl, rfl⟩
    go_wp2_with fail
    refine (HP.out _).mono ?_
    rintro e w4 ⟨rfl, hb4⟩
    have HB := Lib.hid (HB.out.trans (hb4.mono HB.out.size))
    clear hb4
    go_wp2_with fail
    refine (HSz.out _).mono ?_
    rintro e w5 ⟨rfl, rfl⟩
    go_wp2_with fail
    refine (HD.out _).mono ?_
    rintro e w6 ⟨rfl, rfl⟩
    go_wp2
    go_ret
    exact ⟨rfl, HB.out⟩
end Go.Proofs.Ytfgolkbafnfblaa
