/- The laws FnTrees, FnTreesOne: trees are those of both, and none of parts; rounds of one step have as many trees as places. -/
import Derived.Test.YtookciehnjnmnaaDrawV
import Derived.Test.YtookciehnjnmnaaTreeW
import Derived.Test.YtookciehnjnmnaaStepWA
import Derived.Test.YtookciehnjnmnaaStepWB
import Derived.Test.YtookciehnjnmnaaDraw2
namespace Go.Proofs.Ytookciehnjnmnaa
open Go.RowKit Go.Shelf
set_option linter.unusedVariables false
/-- Powers of the number of places, in bounds. -/
theorem pow_all (n i : Nat) (hn : n ≤ 11) (hi : i ≤ 9) : ∃ x y : Nat, n ^ i = x ∧ n ^ (i + 1) = y ∧ IntKind.i64.wrap ((x : Int) * (n : Int)) = (y : Int) ∧ wrap64 ((x : Int) * (n : Int)) = (y : Int) := by
  have b : n ^ (i + 1) ≤ 25937424601 := Nat.le_trans (Nat.pow_le_pow_left hn (i + 1)) (eleven (i + 1) (by omega))
  have e : ((n ^ i : Nat) : Int) * (n : Int) = ((n ^ (i + 1) : Nat) : Int) := by rw [Nat.pow_succ, Int.natCast_mul]
  refine ⟨_, _, rfl, rfl, ?_, ?_⟩
  · rw [e]
    generalize n ^ (i + 1) = q at *
    exact IntWalk.i64_in _ ⟨by omega, by omega⟩
  · rw [e]
    generalize n ^ (i + 1) = q at *
    exact IntWalk.wrap64_in _ ⟨by omega, by omega⟩
theorem both_size (n s : Nat) (h1 : 1 ≤ n) (h2 : n ≤ 12) (hs : s < 2 ^ n) (h0 : s.testBit 0 = false) : sizeN (bothN n s) < n := by
  obtain ⟨m, rfl⟩ : ∃ m, n = m + 1 := ⟨n - 1, by omega⟩
  have e : sizeN (bothN (m + 1) s) = degN (m + 1) (bothN (m + 1) s) := size_sum _ _ h2 (bothN_lt _ s h1 hs)
  have := deg_le m (bothN (m + 1) s) (both_zero_bit _ s h1 hs h0)
  omega
set_option maxHeartbeats 2000000 in
theorem law_PTrees (W : World) (B len cap : Nat) (A : Option Addr) (f : Nat → Nat) (hC : Code W B A len f) (hB : B ≤ W.heap.size) (hlc : len ≤ cap) (hcap : cap ≤ 9223372036854775807) :
    Calls Try.prog 5 #[.slice A len cap] W fun e w' => e = .returned (.bool true) ∧ Below W.heap.size W w' := by
  have HC := Lib.hid (drawWalkTrees_any W B len cap A f hC hB hlc hcap)
  clear hC
  by_cases hlen : (1048576 : Int) < (len : Int)
  · go_enter Try.func5, Try.ntmps5
    go_wp2
    go_ret
    exact ⟨rfl, Below.refl _ _⟩
  go_enter Try.func5, Try.ntmps5
  go_wp2_with fail
  refine HC.out.mono ?_
  rintro e w1 ⟨n, s, rfl, h1, h2, h3, hb1⟩
  have HB := Lib.hid hb1
  clear hb1 hB hlc hcap
  by_cases hbad : NoTree (n : Int) (s : Int)
  · have HI := Lib.hid (fun W => implWalkTrees_bad n s W hbad)
    have HS := Lib.hid (fun W => specWalkTrees_bad n s W hbad)
    clear hbad
    go_wp2_with fail
    refine (HI.out _).mono ?_
    rintro e w2 ⟨rfl, hb2⟩
    have HB := Lib.hid (HB.out.trans (hb2.mono HB.out.size))
    clear hb2
    go_wp2_with fail
    refine (HS.out _).mono ?_
    rintro e w3 ⟨rfl, rfl⟩
    go_wp2
    go_ret
    exact ⟨rfl, HB.out⟩
  have hno : ¬ NoStep (n : Int) (s : Int) := fun h => hbad (.inl h)
  have hn11 : n ≤ 11 := by
    have : (n : Int) ≤ 11 := Decidable.byContradiction fun h => hbad (.inr h)
    omega
  have h4 : s.testBit 0 = false := by
    obtain ⟨n', s', hn', hs', _, _, _, h4⟩ := not_noStep hno
    obtain rfl : s = s' := by omega
    exact h4
  have HI := Lib.hid (fun W => implWalkTrees_yes n s W h1 hn11 h3 h4)
  have HS := Lib.hid (fun W => specWalkTrees_yes n s W h1 hn11 h3 h4)
  have HBo := Lib.hid (fun W => implStepBoth_yes n s W h1 h2 h3 h4)
  have HP := Lib.hid (fun W => implStepParts_yes n s W h1 h2 h3 h4)
  have hbl := bothN_lt n s h1 h3
  have hb0 := both_zero_bit n s h1 h3 h4
  obtain ⟨ts1, ts2, ts3, ts4, ts5⟩ := tree_says n s h1 hn11 h3 h4
  have hpp := partsN_pos n s h1
  have HSz := Lib.hid (fun W => size_any (bothN n s) W (Nat.lt_of_lt_of_le hbl (Nat.pow_le_pow_right (by omega) (by omega))))
  have hszl : sizeN (bothN n s) < n := both_size n s h1 h2 h3 h4
  have hX := fun W => implWalkTrees_yes n (bothN n s) W h1 hn11 hbl hb0
  rw [ts1] at hX
  have HX := Lib.hid hX
  have HPow := Lib.hid (fun i => pow_all n i hn11)
  have HTree : Hid (sizeN (bothN n s) + 1 = n → treeN n (bothN n s) = ((n ^ (n - 2) : Nat) : Int)) := Lib.hid ts3
  generalize treeN n (bothN n s) = T at *
  generalize bothN n s = b at *
  generalize sizeN b = z at *
  generalize partsN n s = p at *
  clear hX ts1 ts3 ts5 hbad hno h3 h4 hbl hb0
  have q1 : (T == 0) = decide ((1 : Int) < (p : Int)) := by
    by_cases c : 1 < p
    · rw [ts2.2 c, decide_eq_true (show (1 : Int) < (p : Int) by omega)]; rfl
    · have c2 : T ≠ 0 := fun h => c (ts2.1 h)
      rw [decide_eq_false (show ¬ (1 : Int) < (p : Int) by omega)]
      simpa using c2
  clear ts2 ts4
  have hm1 : IntKind.i64.wrap ((n : Int) - 1) = (n : Int) - 1 := IntWalk.i64_in _ ⟨by omega, by omega⟩
  go_wp2_with fail
  refine (HI.out _).mono ?_
  rintro e w2 ⟨rfl, hb2⟩
  have HB := Lib.hid (HB.out.trans (hb2.mono HB.out.size))
  clear hb2
  go_wp2_with fail
  refine (HS.out _).mono ?_
  rintro e w3 ⟨rfl, hb3⟩
  have HB := Lib.hid (HB.out.trans (hb3.mono HB.out.size))
  clear hb3
  go_wp2_with fail
  refine (HBo.out _).mono ?_
  rintro e w4 ⟨rfl, hb4⟩
  have HB := Lib.hid (HB.out.trans (hb4.mono HB.out.size))
  clear hb4
  go_wp2_with fail
  refine (HX.out _).mono ?_
  rintro e w5 ⟨rfl, hb5⟩
  have HB := Lib.hid (HB.out.trans (hb5.mono HB.out.size))
  clear hb5
  go_wp2_with fail
  refine (HP.out _).mono ?_
  rintro e w6 ⟨rfl, hb6⟩
  have HB := Lib.hid (HB.out.trans (hb6.mono HB.out.size))
  clear hb6
  go_wp2
  go_loop [15, 16] (fun a u => ∃ i : Nat, 2 ≤ i ∧ (i ≤ n ∨ i = 2) ∧ a = .int .i64 ((n ^ (i - 2) : Nat) : Int) ∧ u = .int .i64 (i : Int)) (fun _ u => n - (intOf u).toNat)
  case atStart => exact ⟨2, Nat.le_refl _, .inr rfl, by rw [show 2 - 2 = 0 from rfl, Nat.pow_zero]; rfl, rfl⟩
  case round =>
    obtain ⟨i, hi2, hin, rfl, rfl⟩ := hrel
    by_cases hlt : i < n
    · obtain ⟨x, y, hx, hy, e1, e2⟩ := HPow.out (i - 2) (by omega)
      rw [hx]
      have HY := Lib.hid hy
      clear hx hy
      go_wp2
      go_round
      case rel => exact ⟨i + 1, by omega, by omega, by rw [show i + 1 - 2 = i - 2 + 1 by omega, HY.out], by go_num⟩
      case measure => simp [intOf]; omega
    · have hval : Hid (z + 1 = n → T = ((n ^ (i - 2) : Nat) : Int)) := Lib.hid (fun h => by
        rw [HTree.out h]
        rcases hin with c | c
        · rw [show i = n by omega]
        · subst c
          have : n = 1 ∨ n = 2 := by omega
          rcases this with rfl | rfl <;> rfl)
      by_cases hz : z + 1 = n
      · rw [← hval.out hz]
        have k1 : ¬ (z : Int) < (n : Int) - 1 := by omega
        have k2 : decide ((z : Int) < (n : Int) - 1) = false := decide_eq_false k1
        clear hval hz
        by_cases hp : 1 < p
        · have d1 : (1 : Int) < (p : Int) := by omega
          have d2 := decide_eq_true d1
          rw [d2] at q1
          go_wp2_with (go_at_call 19; refine (HSz.out _).mono ?_; rintro e w' ⟨rfl, rfl⟩)
          go_ret
          exact ⟨rfl, HB.out⟩
        · have d1 : ¬ (1 : Int) < (p : Int) := by omega
          have d2 := decide_eq_false d1
          rw [d2] at q1
          go_wp2_with (go_at_call 19; refine (HSz.out _).mono ?_; rintro e w' ⟨rfl, rfl⟩)
          go_ret
          exact ⟨rfl, HB.out⟩
      · generalize n ^ (i - 2) = y at *
        have hz2 : z + 1 < n := by
            omega
        have k1 : (z : Int) < (n : Int) - 1 := by omega
        have k2 : decide ((z : Int) < (n : Int) - 1) = true := decide_eq_true k1
        clear hval hz
        by_cases hp : 1 < p
        · have d1 : (1 : Int) < (p : Int) := by omega
          have d2 := decide_eq_true d1
          rw [d2] at q1
          go_wp2_with (go_at_call 19; refine (HSz.out _).mono ?_; rintro e w' ⟨rfl, rfl⟩)
          go_ret
          exact ⟨rfl, HB.out⟩
        · have d1 : ¬ (1 : Int) < (p : Int) := by omega
          have d2 := decide_eq_false d1
          rw [d2] at q1
          go_wp2_with (go_at_call 19; refine (HSz.out _).mono ?_; rintro e w' ⟨rfl, rfl⟩)
          go_ret
          exact ⟨rfl, HB.out⟩
set_option maxHeartbeats 2000000 in
theorem law_PTreesOne (W : World) (B len cap : Nat) (A : Option Addr) (f : Nat → Nat) (hC : Code W B A len f) (hB : B ≤ W.heap.size) (hlc : len ≤ cap) (hcap : cap ≤ 9223372036854775807) :
    Calls Try.prog 6 #[.slice A len cap] W fun e w' => e = .returned (.bool true) ∧ Below W.heap.size W w' := by
  have HC := Lib.hid (drawWalkTrees_any W B len cap A f hC hB hlc hcap)
  clear hC
  by_cases hlen : (1048576 : Int) < (len : Int)
  · go_enter Try.func6, Try.ntmps6
    go_wp2
    go_ret
    exact ⟨rfl, Below.refl _ _⟩
  go_enter Try.func6, Try.ntmps6
  go_wp2_with fail
  refine HC.out.mono ?_
  rintro e w1 ⟨n, s, rfl, h1, h2, h3, hb1⟩
  have HB := Lib.hid hb1
  clear hb1 hB hlc hcap
  by_cases hbad : NoTree (n : Int) (s : Int)
  · have HI := Lib.hid (fun W => implWalkTrees_bad n s W hbad)
    have HS := Lib.hid (fun W => specWalkTrees_bad n s W hbad)
    clear hbad
    go_wp2_with fail
    refine (HI.out _).mono ?_
    rintro e w2 ⟨rfl, hb2⟩
    have HB := Lib.hid (HB.out.trans (hb2.mono HB.out.size))
    clear hb2
    go_wp2_with fail
    refine (HS.out _).mono ?_
    rintro e w3 ⟨rfl, rfl⟩
    go_wp2
    go_ret
    exact ⟨rfl, HB.out⟩
  have hno : ¬ NoStep (n : Int) (s : Int) := fun h => hbad (.inl h)
  have hn11 : n ≤ 11 := by
    have : (n : Int) ≤ 11 := Decidable.byContradiction fun h => hbad (.inr h)
    omega
  have h4 : s.testBit 0 = false := by
    obtain ⟨n', s', hn', hs', _, _, _, h4⟩ := not_noStep hno
    obtain rfl : s = s' := by omega
    exact h4
  have HI := Lib.hid (fun W => implWalkTrees_yes n s W h1 hn11 h3 h4)
  have HS := Lib.hid (fun W => specWalkTrees_yes n s W h1 hn11 h3 h4)
  have HBo := Lib.hid (fun W => implStepBoth_yes n s W h1 h2 h3 h4)
  have HP := Lib.hid (fun W => implStepParts_yes n s W h1 h2 h3 h4)
  have hbl := bothN_lt n s h1 h3
  have hb0 := both_zero_bit n s h1 h3 h4
  obtain ⟨ts1, ts2, ts3, ts4, ts5⟩ := tree_says n s h1 hn11 h3 h4
  have hpp := partsN_pos n s h1
  have HSz := Lib.hid (fun W => size_any (bothN n s) W (Nat.lt_of_lt_of_le hbl (Nat.pow_le_pow_right (by omega) (by omega))))
  have hszl := sizeN_le n (bothN n s) h2 hbl
  have hb12 : bothN n s < 2 ^ 40 := Nat.lt_of_lt_of_le hbl (Nat.pow_le_pow_right (by omega) (by omega))
  have hbt := has_nat (bothN n s) (n / 2) hb12
  generalize treeN n (bothN n s) = T at *
  generalize bothN n s = b at *
  generalize sizeN b = z at *
  generalize partsN n s = p at *
  clear ts1 ts2 ts3 ts4 hbad hno h3 h4 hbl hb0 hb12
  have g1 : Int.tdiv (n : Int) 2 = ((n / 2 : Nat) : Int) := rfl
  have g2 : (n : Int) / 2 = ((n / 2 : Nat) : Int) := rfl
  have g3 : Int.tmod (n : Int) 2 = ((n % 2 : Nat) : Int) := rfl
  have g4 : (n : Int) % 2 = ((n % 2 : Nat) : Int) := rfl
  have g5 : n / 2 < 12 := by omega
  have g6 : min (n / 2) 64 = n / 2 := by omega
  obtain ⟨h, hh⟩ : ∃ h, n / 2 = h := ⟨_, rfl⟩
  obtain ⟨r, hr⟩ : ∃ r, n % 2 = r := ⟨_, rfl⟩
  rw [hh] at g1 g2 g5 g6 hbt ts5
  rw [hr] at g3 g4 ts5
  clear hh hr
  go_wp2_with fail
  refine (HI.out _).mono ?_
  rintro e w2 ⟨rfl, hb2⟩
  have HB := Lib.hid (HB.out.trans (hb2.mono HB.out.size))
  clear hb2
  go_wp2_with fail
  refine (HS.out _).mono ?_
  rintro e w3 ⟨rfl, hb3⟩
  have HB := Lib.hid (HB.out.trans (hb3.mono HB.out.size))
  clear hb3
  go_wp2_with fail
  refine (HBo.out _).mono ?_
  rintro e w4 ⟨rfl, hb4⟩
  have HB := Lib.hid (HB.out.trans (hb4.mono HB.out.size))
  clear hb4
  go_wp2_with fail
  refine (HP.out _).mono ?_
  rintro e w5 ⟨rfl, hb5⟩
  have HB := Lib.hid (HB.out.trans (hb5.mono HB.out.size))
  clear hb5
  by_cases hz : z = 2
  · have z1 : ((z : Int) == 2) = true := by simp [hz]
    have z2 : ((z : Int) != 2) = false := by simp [hz]
    by_cases hown : r = 0 ∧ b.testBit h = true
    · obtain ⟨o1, o2⟩ := hown
      have o3 : ((r : Int) == 0) = true := by simp [o1]
      rw [o2] at hbt
      clear ts5 hz o1 o2
      go_wp2_with (go_at_call 19; refine (HSz.out _).mono ?_; rintro e w' ⟨rfl, rfl⟩)
      go_ret
      exact ⟨rfl, HB.out⟩
    · have hfin : p = 1 → T = (n : Int) := fun hp => ts5 hz hown hp
      clear ts5
      by_cases hr : r = 0
      · have o2 : b.testBit h = false := by
          cases hb : b.testBit h
          · rfl
          · exact absurd ⟨hr, hb⟩ hown
        have o3 : ((r : Int) == 0) = true := by simp [hr]
        rw [o2] at hbt
        clear hown hr o2 hz
        by_cases hp : p = 1
        · obtain rfl := hfin hp
          have p1 : ((p : Int) == 1) = true := by simp [hp]
          have p2 : ((p : Int) != 1) = false := by simp [hp]
          clear hp hfin
          go_wp2_with (go_at_call 19; refine (HSz.out _).mono ?_; rintro e w' ⟨rfl, rfl⟩)
          go_ret
          exact ⟨rfl, HB.out⟩
        · have p1 : ((p : Int) == 1) = false := by simp; omega
          have p2 : ((p : Int) != 1) = true := by simp; omega
          clear hp hfin
          go_wp2_with (go_at_call 19; refine (HSz.out _).mono ?_; rintro e w' ⟨rfl, rfl⟩)
          go_ret
          exact ⟨rfl, HB.out⟩
      · have o3 : ((r : Int) == 0) = false := by simp; omega
        clear hown hr hz hbt
        by_cases hp : p = 1
        · obtain rfl := hfin hp
          have p1 : ((p : Int) == 1) = true := by simp [hp]
          have p2 : ((p : Int) != 1) = false := by simp [hp]
          clear hp hfin
          go_wp2_with (go_at_call 19; refine (HSz.out _).mono ?_; rintro e w' ⟨rfl, rfl⟩)
          go_ret
          exact ⟨rfl, HB.out⟩
        · have p1 : ((p : Int) == 1) = false := by simp; omega
          have p2 : ((p : Int) != 1) = true := by simp; omega
          clear hp hfin
          go_wp2_with (go_at_call 19; refine (HSz.out _).mono ?_; rintro e w' ⟨rfl, rfl⟩)
          go_ret
          exact ⟨rfl, HB.out⟩
  · have z1 : ((z : Int) == 2) = false := by simp; omega
    have z2 : ((z : Int) != 2) = true := by simp; omega
    clear ts5 hz
    by_cases hr : r = 0
    · have o3 : ((r : Int) == 0) = true := by simp [hr]
      clear hr
      cases hb : b.testBit h
      · rw [hb] at hbt
        clear hb
        go_wp2_with (go_at_call 19; refine (HSz.out _).mono ?_; rintro e w' ⟨rfl, rfl⟩)
        go_ret
        exact ⟨rfl, HB.out⟩
      · rw [hb] at hbt
        clear hb
        go_wp2_with (go_at_call 19; refine (HSz.out _).mono ?_; rintro e w' ⟨rfl, rfl⟩)
        go_ret
        exact ⟨rfl, HB.out⟩
    · have o3 : ((r : Int) == 0) = false := by simp; omega
      clear hr hbt
      go_wp2_with (go_at_call 19; refine (HSz.out _).mono ?_; rintro e w' ⟨rfl, rfl⟩)
      go_ret
      exact ⟨rfl, HB.out⟩
end Go.Proofs.Ytookciehnjnmnaa
