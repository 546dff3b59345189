/- Promise laws of chapter 6 over given contracts of the program: FnFree, FnFreeMany, FnFullSet, FnSumless. -/
import Derived.Test.YtfjcdcjhdjkjaaaGI
import Derived.Test.YtfjcdcjhdjkjaaaFreI
import Derived.Test.YtfjcdcjhdjkjaaaDrawP
import Derived.Test.YtfjcdcjhdjkjaaaStepWA
import Derived.Test.YtfjcdcjhdjkjaaaStepWB
import Derived.Test.YtfjcdcjhdjkjaaaGM
namespace Go.Proofs.Ytfjcdcjhdjkjaaa
open Go.RowKit Go.Shelf
set_option linter.unusedVariables false
theorem wraps_big (x : Int) (q : Int) (h : x = q) (hq : -1000000 ≤ q ∧ q ≤ 1000000) : IntKind.i64.wrap x = q ∧ wrap64 x = q := by
  subst h
  exact ⟨IntWalk.i64_in _ ⟨by omega, by omega⟩, IntWalk.wrap64_in _ ⟨by omega, by omega⟩⟩
theorem zero_facts (s : Nat) : (s = 0 ∧ ((s : Int) == 0) = true ∧ ((s : Int) != 0) = false) ∨ (s ≠ 0 ∧ ((s : Int) == 0) = false ∧ ((s : Int) != 0) = true) := by
  by_cases h : s = 0
  · exact .inl ⟨h, by simp [h], by simp [h]⟩
  · exact .inr ⟨h, by simpa using h, by simpa using h⟩
set_option maxHeartbeats 1000000 in
theorem lawP_FnFree (W : World) (B len cap : Nat) (A : Option Addr) (f : Nat → Nat) (hC : Code W B A len f) (hB : B ≤ W.heap.size) (hlc : len ≤ cap) (hcap : cap ≤ 9223372036854775807)
    (hMN : NoFreeMost) (hMY : YesFreeMost) (hFY : YesFreeFull) :
    Calls Try.prog 3 #[.slice A len cap] W fun e w' => e = .returned (.bool true) ∧ Below W.heap.size W w' := by
  have HC := Lib.hid (drawFreeMost_any W B len cap A f hC hB hlc hcap)
  clear hC
  by_cases hlen : (1048576 : Int) < (len : Int)
  · go_enter Try.func3, Try.ntmps3
    go_wp2
    go_ret
    exact ⟨rfl, Below.refl _ _⟩
  go_enter Try.func3, Try.ntmps3
  go_wp2_with fail
  refine HC.out.mono ?_
  rintro e w1 ⟨n, s, rfl, hn1, hn2, hs, hbl⟩
  have HB := Lib.hid hbl
  clear hbl hB hlc hcap
  by_cases hno : NoStep (n : Int) (s : Int)
  · have HI := Lib.hid (fun W => hMN n s W hno)
    have HS := Lib.hid (fun W => specFreeMost_no n s W hno)
    clear hno
    go_wp2_with fail
    refine (HI.out _).mono ?_
    rintro e w2 ⟨rfl, hb2⟩
    have HB := Lib.hid (HB.out.trans (hb2.mono HB.out.size))
    clear hb2
    go_wp2_with fail
    refine (HS.out _).mono ?_
    rintro e w3 ⟨rfl, rfl⟩
    go_wp2
    go_ret
    exact ⟨rfl, HB.out⟩
  have h4 : s.testBit 0 = false := by
    obtain ⟨n', s', hn', hs', _, _, _, h4⟩ := not_noStep hno
    obtain rfl : s = s' := by omega
    exact h4
  have h12 : n ≤ 12 := by omega
  obtain ⟨p1, p2, p3⟩ := p_free n s hn1 h12 hs h4
  have hbl := bothN_lt n s hn1 hs
  have hb0 := both_zero_bit n s hn1 hs h4
  have HI := Lib.hid (fun W => hMY n s W hn1 h12 hs h4)
  have HS := Lib.hid (fun W => specFreeMost_yes n s W hn1 h12 hs h4)
  have HBo := Lib.hid (fun W => implStepBoth_yes n s W hn1 h12 hs h4)
  have hx := fun W => hMY n (bothN n s) W hn1 h12 hbl hb0
  rw [p1] at hx
  have HX := Lib.hid hx
  have HFu := Lib.hid (fun W => hFY n s W hn1 h12 hs h4)
  have m1 : mostF n s ≤ n := top_le _ _ n h12 (Nat.le_refl _)
  generalize mostF n s = m at *
  generalize fullF n s = q at *
  generalize bothN n s = b at *
  obtain ⟨P, hP⟩ : ∃ P, m * q = P := ⟨_, rfl⟩
  have hPn : P ≤ n := by omega
  obtain ⟨x1, x2⟩ := wraps_big ((m : Int) * (q : Int)) ((P : Int)) (by rw [← hP]; exact (Int.natCast_mul m q).symm) (by omega)
  have Hp1 := Lib.hid x1
  have Hp2 := Lib.hid x2
  clear x1 x2
  have HaI : Hid ((P : Int) ≤ (n : Int)) := Lib.hid (by omega)
  have HaJ : Hid (decide ((P : Int) ≤ (n : Int)) = true) := Lib.hid (decide_eq_true (HaI.out))
  have HaK : Hid (decide (P ≤ n) = true) := Lib.hid (decide_eq_true (by have := HaI.out; omega))
  clear hx hP p1 p2 hno hMN hMY hFY hbl hb0
  go_wp2_with fail
  refine (HI.out _).mono ?_
  rintro e w2 ⟨rfl, hb2⟩
  have HB := Lib.hid (HB.out.trans (hb2.mono HB.out.size))
  clear hb2
  go_wp2_with fail
  refine (HS.out _).mono ?_
  rintro e w3 ⟨rfl, rfl⟩
  go_wp2_with fail
  refine (HBo.out _).mono ?_
  rintro e w4 ⟨rfl, hb4⟩
  have HB := Lib.hid (HB.out.trans (hb4.mono HB.out.size))
  clear hb4
  go_wp2_with fail
  refine (HX.out _).mono ?_
  rintro e w5 ⟨rfl, hb5⟩
  have HB := Lib.hid (HB.out.trans (hb5.mono HB.out.size))
  clear hb5
  go_wp2_with fail
  refine (HFu.out _).mono ?_
  rintro e w6 ⟨rfl, hb6⟩
  have HB := Lib.hid (HB.out.trans (hb6.mono HB.out.size))
  clear hb6
  rcases zero_facts s with ⟨hs0, z1, z2⟩ | ⟨hs0, z1, z2⟩
  · clear p3 hs0
    have p1 := Hp1.out
    have p2 := Hp2.out
    have aI := HaI.out
    have aJ := HaJ.out
    have aK := HaK.out
    go_wp2
    go_ret
    exact ⟨rfl, HB.out⟩
  · have h2 := p3.resolve_left hs0
    obtain ⟨x1, x2⟩ := wraps_big (2 * (m : Int)) (((2 * m : Nat) : Int)) (by omega) (by omega)
    have Hq1 := Lib.hid x1
    have Hq2 := Lib.hid x2
    clear x1 x2
    obtain ⟨Q, hQ⟩ : ∃ Q, 2 * m = Q := ⟨_, rfl⟩
    rw [hQ] at Hq1 Hq2 h2
    have HbI : Hid ((Q : Int) ≤ (n : Int)) := Lib.hid (by omega)
    have HbJ : Hid (decide ((Q : Int) ≤ (n : Int)) = true) := Lib.hid (decide_eq_true (HbI.out))
    have HbK : Hid (decide (Q ≤ n) = true) := Lib.hid (decide_eq_true (by have := HbI.out; omega))
    clear p3 hs0 hQ h2
    have p1 := Hp1.out
    have p2 := Hp2.out
    have aI := HaI.out
    have aJ := HaJ.out
    have aK := HaK.out
    have q1 := Hq1.out
    have q2 := Hq2.out
    have bI := HbI.out
    have bJ := HbJ.out
    have bK := HbK.out
    go_wp2
    go_ret
    exact ⟨rfl, HB.out⟩
set_option maxHeartbeats 1000000 in
theorem lawP_FnFreeMany (W : World) (B len cap : Nat) (A : Option Addr) (f : Nat → Nat) (hC : Code W B A len f) (hB : B ≤ W.heap.size) (hlc : len ≤ cap) (hcap : cap ≤ 9223372036854775807)
    (hKN : NoFreeMany) (hKY : YesFreeMany) (hMY : YesFreeMost) :
    Calls Try.prog 4 #[.slice A len cap] W fun e w' => e = .returned (.bool true) ∧ Below W.heap.size W w' := by
  have HC := Lib.hid (drawFreeMany_any W B len cap A f hC hB hlc hcap)
  clear hC
  by_cases hlen : (1048576 : Int) < (len : Int)
  · go_enter Try.func4, Try.ntmps4
    go_wp2
    go_ret
    exact ⟨rfl, Below.refl _ _⟩
  go_enter Try.func4, Try.ntmps4
  go_wp2_with fail
  refine HC.out.mono ?_
  rintro e w1 ⟨n, s, rfl, hn1, hn2, hs, hbl⟩
  have HB := Lib.hid hbl
  clear hbl hB hlc hcap
  by_cases hno : NoStep (n : Int) (s : Int)
  · have HI := Lib.hid (fun W => hKN n s W hno)
    have HS := Lib.hid (fun W => specFreeMany_no n s W hno)
    clear hno
    go_wp2_with fail
    refine (HI.out _).mono ?_
    rintro e w2 ⟨rfl, hb2⟩
    have HB := Lib.hid (HB.out.trans (hb2.mono HB.out.size))
    clear hb2
    go_wp2_with fail
    refine (HS.out _).mono ?_
    rintro e w3 ⟨rfl, rfl⟩
    go_wp2
    go_ret
    exact ⟨rfl, HB.out⟩
  have h4 : s.testBit 0 = false := by
    obtain ⟨n', s', hn', hs', _, _, _, h4⟩ := not_noStep hno
    obtain rfl : s = s' := by omega
    exact h4
  have h12 : n ≤ 12 := by omega
  obtain ⟨p1, p2, p3⟩ := p_many n s hn1 h12 hs h4
  have HI := Lib.hid (fun W => hKY n s W hn1 h12 hs h4)
  have HS := Lib.hid (fun W => specFreeMany_yes n s W hn1 h12 hs h4)
  have HX := Lib.hid (fun W => hMY n s W hn1 h12 hs h4)
  have m1 : mostF n s ≤ n := top_le _ _ n h12 (Nat.le_refl _)
  have hpw := pow_le n h12
  have hcl : manyF n s ≤ 2 ^ n := cnt_le _ _
  have hwn := wrap_pow n (by omega)
  generalize mostF n s = m at *
  generalize manyF n s = c at *
  have hwm := wrap_pow m (by omega)
  have hmn : min m 64 = m := by omega
  have hnn : min n 64 = n := by omega
  obtain ⟨P, hP⟩ : ∃ P, 2 ^ m = P := ⟨_, rfl⟩
  obtain ⟨N, hN⟩ : ∃ N, 2 ^ n = N := ⟨_, rfl⟩
  rw [hP] at p1 hwm
  rw [hN] at p3 hpw hcl hwn
  have Hw1 := Lib.hid hwm
  have Hw2 : Hid (IntKind.i64.wrap (2 ^ m) = (P : Int)) := Lib.hid (by rw [IntWalk.i64_left]; exact hwm)
  have Hw3 := Lib.hid hwn
  have Hw4 : Hid (IntKind.i64.wrap (2 ^ n) = (N : Int)) := Lib.hid (by rw [IntWalk.i64_left]; exact hwn)
  have Hw5 := Lib.hid hmn
  have Hw6 := Lib.hid hnn
  clear hwm hwn hP hN hmn hnn hno hKN hKY hMY
  obtain ⟨x1, x2⟩ := wraps_big ((n : Int) + 1) (((n + 1 : Nat) : Int)) (by omega) (by omega)
  have Hp1 := Lib.hid x1
  have Hp2 := Lib.hid x2
  clear x1 x2
  obtain ⟨M, hM⟩ : ∃ M, n + 1 = M := ⟨_, rfl⟩
  rw [hM] at Hp1 Hp2 p2
  have HaI : Hid ((P : Int) ≤ (c : Int)) := Lib.hid (by omega)
  have HaJ : Hid (decide ((P : Int) ≤ (c : Int)) = true) := Lib.hid (decide_eq_true (HaI.out))
  have HaK : Hid (decide (P ≤ c) = true) := Lib.hid (decide_eq_true (by have := HaI.out; omega))
  have HbI : Hid ((M : Int) ≤ (c : Int)) := Lib.hid (by omega)
  have HbJ : Hid (decide ((M : Int) ≤ (c : Int)) = true) := Lib.hid (decide_eq_true (HbI.out))
  have HbK : Hid (decide (M ≤ c) = true) := Lib.hid (decide_eq_true (by have := HbI.out; omega))
  clear hM p1 p2
  go_wp2_with fail
  refine (HI.out _).mono ?_
  rintro e w2 ⟨rfl, hb2⟩
  have HB := Lib.hid (HB.out.trans (hb2.mono HB.out.size))
  clear hb2
  go_wp2_with fail
  refine (HS.out _).mono ?_
  rintro e w3 ⟨rfl, rfl⟩
  go_wp2_with fail
  refine (HX.out _).mono ?_
  rintro e w4 ⟨rfl, hb4⟩
  have HB := Lib.hid (HB.out.trans (hb4.mono HB.out.size))
  clear hb4
  rcases zero_facts s with ⟨hs0, z1, z2⟩ | ⟨hs0, z1, z2⟩
  · have hcN := p3.2 hs0
    have HeJ : Hid (((c : Int) == (N : Int)) = true) := Lib.hid (by rw [hcN]; simp)
    clear p3 hs0 hcN
    have w1 := Hw1.out
    have w2 := Hw2.out
    have w3 := Hw3.out
    have w4 := Hw4.out
    have w5 := Hw5.out
    have w6 := Hw6.out
    have p1 := Hp1.out
    have p2 := Hp2.out
    have aI := HaI.out
    have aJ := HaJ.out
    have aK := HaK.out
    have bI := HbI.out
    have bJ := HbJ.out
    have bK := HbK.out
    have eJ := HeJ.out
    go_wp2
    go_ret
    exact ⟨rfl, HB.out⟩
  · have hcN : c ≠ N := fun h => hs0 (p3.1 h)
    have HeJ : Hid (((c : Int) == (N : Int)) = false) := Lib.hid (beq_cast_ne (hcN))
    clear p3 hs0 hcN
    have w1 := Hw1.out
    have w2 := Hw2.out
    have w3 := Hw3.out
    have w4 := Hw4.out
    have w5 := Hw5.out
    have w6 := Hw6.out
    have p1 := Hp1.out
    have p2 := Hp2.out
    have aI := HaI.out
    have aJ := HaJ.out
    have aK := HaK.out
    have bI := HbI.out
    have bJ := HbJ.out
    have bK := HbK.out
    have eJ := HeJ.out
    go_wp2
    go_ret
    exact ⟨rfl, HB.out⟩
set_option maxHeartbeats 1000000 in
theorem lawP_FnFullSet (W : World) (B len cap : Nat) (A : Option Addr) (f : Nat → Nat) (hC : Code W B A len f) (hB : B ≤ W.heap.size) (hlc : len ≤ cap) (hcap : cap ≤ 9223372036854775807)
    (hFN : NoFreeFull) (hFY : YesFreeFull) (hMY : YesFreeMost) :
    Calls Try.prog 5 #[.slice A len cap] W fun e w' => e = .returned (.bool true) ∧ Below W.heap.size W w' := by
  have HC := Lib.hid (drawFreeFull_any W B len cap A f hC hB hlc hcap)
  clear hC
  by_cases hlen : (1048576 : Int) < (len : Int)
  · go_enter Try.func5, Try.ntmps5
    go_wp2
    go_ret
    exact ⟨rfl, Below.refl _ _⟩
  go_enter Try.func5, Try.ntmps5
  go_wp2_with fail
  refine HC.out.mono ?_
  rintro e w1 ⟨n, s, rfl, hn1, hn2, hs, hbl⟩
  have HB := Lib.hid hbl
  clear hbl hB hlc hcap
  by_cases hno : NoStep (n : Int) (s : Int)
  · have HI := Lib.hid (fun W => hFN n s W hno)
    have HS := Lib.hid (fun W => specFreeFull_no n s W hno)
    clear hno
    go_wp2_with fail
    refine (HI.out _).mono ?_
    rintro e w2 ⟨rfl, hb2⟩
    have HB := Lib.hid (HB.out.trans (hb2.mono HB.out.size))
    clear hb2
    go_wp2_with fail
    refine (HS.out _).mono ?_
    rintro e w3 ⟨rfl, rfl⟩
    go_wp2
    go_ret
    exact ⟨rfl, HB.out⟩
  have h4 : s.testBit 0 = false := by
    obtain ⟨n', s', hn', hs', _, _, _, h4⟩ := not_noStep hno
    obtain rfl : s = s' := by omega
    exact h4
  have h12 : n ≤ 12 := by omega
  obtain ⟨p1, p2⟩ := p_full n s hn1 h12 hs h4
  have hbl := bothN_lt n s hn1 hs
  have hb0 := both_zero_bit n s hn1 hs h4
  have HI := Lib.hid (fun W => hFY n s W hn1 h12 hs h4)
  have HS := Lib.hid (fun W => specFreeFull_yes n s W hn1 h12 hs h4)
  have HBo := Lib.hid (fun W => implStepBoth_yes n s W hn1 h12 hs h4)
  have HOt := Lib.hid (fun W => implStepOther_yes n (bothN n s) W hn1 h12 hbl hb0)
  have hx := fun W => hMY n (otherN n (bothN n s)) W hn1 h12 (otherN_lt n _) (other_zero_bit n _)
  rw [p1] at hx
  have HX := Lib.hid hx
  have HSz := Lib.hid (fun W => size_any (bothN n s) W (by have := pow_le n h12; omega))
  have hzl := sizeN_le n (bothN n s) h12 hbl
  generalize fullF n s = q at *
  generalize otherN n (bothN n s) = o at *
  generalize sizeN (bothN n s) = z at *
  generalize bothN n s = b at *
  obtain ⟨x1, x2⟩ := wraps_big ((z : Int) + 1) (((z + 1 : Nat) : Int)) (by omega) (by omega)
  have Hp1 := Lib.hid x1
  have Hp2 := Lib.hid x2
  clear x1 x2
  obtain ⟨M, hM⟩ : ∃ M, z + 1 = M := ⟨_, rfl⟩
  rw [hM] at Hp1 Hp2 p2
  have HaI : Hid ((q : Int) ≤ (M : Int)) := Lib.hid (by omega)
  have HaJ : Hid (decide ((q : Int) ≤ (M : Int)) = true) := Lib.hid (decide_eq_true (HaI.out))
  have HaK : Hid (decide (q ≤ M) = true) := Lib.hid (decide_eq_true (by have := HaI.out; omega))
  clear hM p1 p2 hx hno hFN hFY hMY hbl hb0
  go_wp2_with fail
  refine (HI.out _).mono ?_
  rintro e w2 ⟨rfl, hb2⟩
  have HB := Lib.hid (HB.out.trans (hb2.mono HB.out.size))
  clear hb2
  go_wp2_with fail
  refine (HS.out _).mono ?_
  rintro e w3 ⟨rfl, hb3⟩
  have HB := Lib.hid (HB.out.trans (hb3.mono HB.out.size))
  clear hb3
  go_wp2_with fail
  refine (HBo.out _).mono ?_
  rintro e w4 ⟨rfl, hb4⟩
  have HB := Lib.hid (HB.out.trans (hb4.mono HB.out.size))
  clear hb4
  go_wp2_with fail
  refine (HOt.out _).mono ?_
  rintro e w5 ⟨rfl, hb5⟩
  have HB := Lib.hid (HB.out.trans (hb5.mono HB.out.size))
  clear hb5
  go_wp2_with fail
  refine (HX.out _).mono ?_
  rintro e w6 ⟨rfl, hb6⟩
  have HB := Lib.hid (HB.out.trans (hb6.mono HB.out.size))
  clear hb6
  go_wp2_with fail
  refine (HSz.out _).mono ?_
  rintro e w7 ⟨rfl, rfl⟩
  have p1 := Hp1.out
  have p2 := Hp2.out
  have aI := HaI.out
  have aJ := HaJ.out
  have aK := HaK.out
  go_wp2
  go_ret
  exact ⟨rfl, HB.out⟩
set_option maxHeartbeats 1000000 in
theorem lawP_FnSumless (W : World) (B len cap : Nat) (A : Option Addr) (f : Nat → Nat) (hC : Code W B A len f) (hB : B ≤ W.heap.size) (hlc : len ≤ cap) (hcap : cap ≤ 9223372036854775807)
    (hSN : NoFreeSumless) (hSY : YesFreeSumless) :
    Calls Try.prog 10 #[.slice A len cap] W fun e w' => e = .returned (.bool true) ∧ Below W.heap.size W w' := by
  have HC := Lib.hid (drawFreeSumless_any W B len cap A f hC hB hlc hcap)
  clear hC
  by_cases hlen : (1048576 : Int) < (len : Int)
  · go_enter Try.func10, Try.ntmps10
    go_wp2
    go_ret
    exact ⟨rfl, Below.refl _ _⟩
  go_enter Try.func10, Try.ntmps10
  go_wp2_with fail
  refine HC.out.mono ?_
  rintro e w1 ⟨n, rfl, hn13, hbl⟩
  have HB := Lib.hid hbl
  clear hbl hB hlc hcap
  by_cases hno : ¬ (1 ≤ (n : Int) ∧ (n : Int) ≤ 12)
  · have HI := Lib.hid (fun W => hSN n W hno)
    have HS := Lib.hid (fun W => specFreeSumless_no n W hno)
    clear hno
    go_wp2_with fail
    refine (HI.out _).mono ?_
    rintro e w2 ⟨rfl, hb2⟩
    have HB := Lib.hid (HB.out.trans (hb2.mono HB.out.size))
    clear hb2
    go_wp2_with fail
    refine (HS.out _).mono ?_
    rintro e w3 ⟨rfl, rfl⟩
    go_wp2
    go_ret
    exact ⟨rfl, HB.out⟩
  have hn : 1 ≤ (n : Int) ∧ (n : Int) ≤ 12 := Decidable.byContradiction hno
  have h1 : 1 ≤ n := by omega
  have h12 : n ≤ 12 := by omega
  obtain ⟨p1, p2⟩ := p_suml n h1 h12
  have HI := Lib.hid (fun W => hSY n W h1 h12)
  have HS := Lib.hid (fun W => specFreeSumless_yes n W h1 h12)
  generalize sumlF n = m at *
  obtain ⟨x1, x2⟩ := wraps_big (2 * (m : Int)) (((2 * m : Nat) : Int)) (by omega) (by omega)
  have Hq1 := Lib.hid x1
  have Hq2 := Lib.hid x2
  clear x1 x2
  obtain ⟨Q, hQ⟩ : ∃ Q, 2 * m = Q := ⟨_, rfl⟩
  rw [hQ] at Hq1 Hq2 p1 p2
  have HbI : Hid ((Q : Int) ≤ (n : Int)) := Lib.hid (by omega)
  have HbJ : Hid (decide ((Q : Int) ≤ (n : Int)) = true) := Lib.hid (decide_eq_true (HbI.out))
  have HbK : Hid (decide (Q ≤ n) = true) := Lib.hid (decide_eq_true (by have := HbI.out; omega))
  have Hr1 : Hid (Int.tmod (n : Int) 2 = ((n % 2 : Nat) : Int)) := Lib.hid rfl
  obtain ⟨r, hr⟩ : ∃ r, n % 2 = r := ⟨_, rfl⟩
  have hr2 : r < 2 := by omega
  rw [hr] at Hr1 p2
  have Hr2 : Hid ((n : Int) % 2 = (r : Int)) := Lib.hid (by omega)
  clear hQ hr hno hSN hSY p1 hn
  go_wp2_with fail
  refine (HI.out _).mono ?_
  rintro e w2 ⟨rfl, hb2⟩
  have HB := Lib.hid (HB.out.trans (hb2.mono HB.out.size))
  clear hb2
  go_wp2_with fail
  refine (HS.out _).mono ?_
  rintro e w3 ⟨rfl, rfl⟩
  by_cases hp : r = 0
  · have hqn := p2.2 hp
    have HeJ : Hid (((Q : Int) == (n : Int)) = true) := Lib.hid (by rw [hqn]; simp)
    have Hf : Hid (((r : Int) == 0) = true) := Lib.hid (by simp [hp])
    clear p2 hp hqn
    have q1 := Hq1.out
    have q2 := Hq2.out
    have bI := HbI.out
    have bJ := HbJ.out
    have bK := HbK.out
    have r1 := Hr1.out
    have r2 := Hr2.out
    have eJ := HeJ.out
    have f := Hf.out
    go_wp2
    go_ret
    exact ⟨rfl, HB.out⟩
  · have hqn : Q ≠ n := fun h => hp (p2.1 h)
    have HeJ : Hid (((Q : Int) == (n : Int)) = false) := Lib.hid (beq_cast_ne (hqn))
    have Hf : Hid (((r : Int) == 0) = false) := Lib.hid (by simpa using hp)
    clear p2 hp hqn
    have q1 := Hq1.out
    have q2 := Hq2.out
    have bI := HbI.out
    have bJ := HbJ.out
    have bK := HbK.out
    have r1 := Hr1.out
    have r2 := Hr2.out
    have eJ := HeJ.out
    have f := Hf.out
    go_wp2
    go_ret
    exact ⟨rfl, HB.out⟩
end Go.Proofs.Ytfjcdcjhdjkjaaa
