/- Promise laws of chapter 6 over given contracts of the program: FnWaysColours. -/
import Derived.Test.YtfjcdcjhdjkjaaaPFreA
import Derived.Test.YtfjcdcjhdjkjaaaFreM
import Derived.Test.YtfjcdcjhdjkjaaaDrawR
import Derived.Test.YtfjcdcjhdjkjaaaGB
import Derived.Test.YtfjcdcjhdjkjaaaFreI
import Derived.Test.YtfjcdcjhdjkjaaaDrawP
import Derived.Test.YtfjcdcjhdjkjaaaStepWA
import Derived.Test.YtfjcdcjhdjkjaaaStepWB
import Derived.Test.YtfjcdcjhdjkjaaaGM
namespace Go.Proofs.Ytfjcdcjhdjkjaaa
open Go.RowKit Go.Shelf
set_option linter.unusedVariables false
theorem pow_round (j i : Nat) (h : j ^ (i + 1) ≤ 65536) : ∃ x y : Int, ((j ^ i : Nat) : Int) = x ∧ ((j ^ (i + 1) : Nat) : Int) = y ∧ x * (j : Int) = y ∧ IntKind.i64.wrap y = y ∧ wrap64 y = y := by
  refine ⟨_, _, rfl, rfl, ?_, ?_, ?_⟩
  · rw [Nat.pow_succ]; exact (Int.natCast_mul _ _).symm
  · generalize j ^ (i + 1) = y at *
    exact IntWalk.i64_in _ ⟨by omega, by omega⟩
  · generalize j ^ (i + 1) = y at *
    exact IntWalk.wrap64_in _ ⟨by omega, by omega⟩
set_option maxHeartbeats 1000000 in
theorem lawP_FnWaysColours (W : World) (B len cap : Nat) (A : Option Addr) (f : Nat → Nat) (hC : Code W B A len f) (hB : B ≤ W.heap.size) (hlc : len ≤ cap) (hcap : cap ≤ 9223372036854775807)
    (hWN : NoFreeWays) (hWY : YesFreeWays) (hCY : YesFreeColours) :
    Calls Try.prog 7 #[.slice A len cap] W fun e w' => e = .returned (.bool true) ∧ Below W.heap.size W w' := by
  have HC := Lib.hid (drawFreeWays_any W B len cap A f hC hB hlc hcap)
  clear hC
  by_cases hlen : (1048576 : Int) < (len : Int)
  · go_enter Try.func7, Try.ntmps7
    go_wp2
    go_ret
    exact ⟨rfl, Below.refl _ _⟩
  go_enter Try.func7, Try.ntmps7
  go_wp2_with fail
  refine HC.out.mono ?_
  rintro e w1 ⟨n, s, k, rfl, hn1, hn2, hs, hk1, hk2, hbl⟩
  have HB := Lib.hid hbl
  clear hbl hB hlc hcap
  by_cases hno : NoWays (n : Int) (s : Int) k
  · have HI := Lib.hid (fun W => hWN n s k W hno)
    have HS := Lib.hid (fun W => specFreeWays_no n s k W hno)
    clear hno
    go_wp2_with fail
    refine (HI.out _).mono ?_
    rintro e w2 ⟨rfl, hb2⟩
    have HB := Lib.hid (HB.out.trans (hb2.mono HB.out.size))
    clear hb2
    go_wp2_with fail
    refine (HS.out _).mono ?_
    rintro e w3 ⟨rfl, rfl⟩
    go_wp2
    go_ret
    exact ⟨rfl, HB.out⟩
  obtain ⟨n', s', j, hn', hs', rfl, _, h8, _, h4, hj4⟩ := not_noWays hno
  obtain rfl : n = n' := by omega
  obtain rfl : s = s' := by omega
  obtain ⟨p1, p2, p3⟩ := p_ways n s j hn1 h8 hs h4 hj4
  have HI := Lib.hid (fun W => hWY n s j W hn1 h8 hs h4 hj4)
  have HS := Lib.hid (fun W => specFreeWays_yes n s j W hn1 h8 hs h4 hj4)
  have HC := Lib.hid (fun W => hCY n s W hn1 h8 hs h4)
  generalize waysF n s j = o at *
  generalize colF n s = c at *
  have HPw : Hid (∀ v, v ≤ 8 → j ^ v ≤ 65536) := Lib.hid (fun v hv => by
    have a := Nat.pow_le_pow_left hj4 v
    have b := Nat.pow_le_pow_right (n := 4) (by omega) hv
    have : 4 ^ 8 = 65536 := by decide
    omega)
  clear hno hWN hWY hCY hk1 hk2 hn' hs'
  go_wp2_with fail
  refine (HI.out _).mono ?_
  rintro e w2 ⟨rfl, hb2⟩
  have HB := Lib.hid (HB.out.trans (hb2.mono HB.out.size))
  clear hb2
  go_wp2_with fail
  refine (HS.out _).mono ?_
  rintro e w3 ⟨rfl, hb3⟩
  have HB := Lib.hid (HB.out.trans (hb3.mono HB.out.size))
  clear hb3
  go_wp2_with fail
  refine (HC.out _).mono ?_
  rintro e w4 ⟨rfl, hb4⟩
  have HB := Lib.hid (HB.out.trans (hb4.mono HB.out.size))
  clear hb4
  have p4 : j = 0 → o = 0 := fun h => by
    subst h
    have : (0 : Nat) ^ n = 0 := Nat.zero_pow (by omega)
    omega
  have HP1 := Lib.hid p1
  have HP2 := Lib.hid p2
  have HP3 := Lib.hid p3
  have HP4 := Lib.hid p4
  clear p1 p2 p3 p4 HI HS HC
  go_wp2
  go_loop [12, 13] (fun a u => ∃ i : Nat, i ≤ n ∧ a = .int .i64 ((j ^ i : Nat) : Int) ∧ u = .int .i64 (i : Int)) (fun _ u => n - (intOf u).toNat)
  case atStart => exact ⟨0, Nat.zero_le _, by rw [Nat.pow_zero]; rfl, rfl⟩
  case round =>
    obtain ⟨i, hi, rfl, rfl⟩ := hrel
    by_cases hlt : i < n
    · obtain ⟨x, y, hx, hy, e1, e2, e3⟩ := pow_round j i (HPw.out (i + 1) (by omega))
      rw [hx]
      have HY := Lib.hid hy
      clear hx hy
      go_wp2
      go_round
      case rel => exact ⟨i + 1, by omega, by rw [HY.out], by go_num⟩
      case measure => simp [intOf]; omega
    · obtain rfl : i = n := by omega
      have HT := Lib.hid (HP3.out)
      generalize j ^ i = T at *
      have t1 : (o : Int) ≤ (T : Int) := by have := HT.out; omega
      have t2 := decide_eq_true t1
      have t3 : o ≤ T := HT.out
      have t4 := decide_eq_true t3
      by_cases hj0 : j = 0
      · obtain rfl := hj0
        have ho := HP4.out rfl
        subst ho
        have c1 := HP1.out.mp rfl
        have c2 : (0 : Int) < (c : Int) := by omega
        have c3 := decide_eq_true c1
        have c4 := decide_eq_true c2
        clear hlt
        go_wp2
        go_ret
        exact ⟨rfl, HB.out⟩
      · have m1 : Int.tmod (o : Int) (j : Int) = 0 := by
          rcases HP2.out with h | h
          · exact absurd h hj0
          · rw [← Int.ofNat_tmod, h]; rfl
        have m2 : ((j : Int) == 0) = false := by
          have : ¬ (j : Int) = 0 := by omega
          simpa using this
        have m3 : ¬ (j : Int) = 0 := by omega
        by_cases ho : o = 0
        · have c1 := HP1.out.mp ho
          have c2 : (j : Int) < (c : Int) := by omega
          have c3 := decide_eq_true c1
          have c4 := decide_eq_true c2
          have c5 : ((o : Int) == 0) = true := by rw [ho]; rfl
          clear ho hlt
          go_wp2
          go_ret
          exact ⟨rfl, HB.out⟩
        · have c1 : ¬ j < c := fun h => ho (HP1.out.mpr h)
          have c2 : ¬ (j : Int) < (c : Int) := by omega
          have c3 := decide_eq_false c1
          have c4 := decide_eq_false c2
          have c5 : ((o : Int) == 0) = false := by
            have : ¬ (o : Int) = 0 := by omega
            simpa using this
          clear ho hlt
          go_wp2
          go_ret
          exact ⟨rfl, HB.out⟩
end Go.Proofs.Ytfjcdcjhdjkjaaa
