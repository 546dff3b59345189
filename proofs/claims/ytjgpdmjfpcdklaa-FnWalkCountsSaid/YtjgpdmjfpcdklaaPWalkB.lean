/- The law FnWalkCounts: walks are powers of the number of steps. -/
import Derived.Test.YtjgpdmjfpcdklaaDrawV
import Derived.Test.YtjgpdmjfpcdklaaSame
import Derived.Test.YtjgpdmjfpcdklaaArrG
import Derived.Test.YtjgpdmjfpcdklaaWalkC
import Derived.Test.YtjgpdmjfpcdklaaWalkH
import Derived.Test.YtjgpdmjfpcdklaaStepQ
namespace Go.Proofs.Ytjgpdmjfpcdklaa
open Go.RowKit Go.Shelf
set_option linter.unusedVariables false
theorem tabW_sum (n : Nat) (F : Nat → Nat) : sumL (tabW n F) (tabW n F).length = sumTo F n := by
  rw [tabW_len]
  unfold sumL
  exact sumTo_congr _ _ n fun v hv => by rw [tabW_get n F v hv]; exact Int.toNat_natCast _
theorem deg_size (n s : Nat) (h2 : n ≤ 12) (hs : s < 2 ^ n) : sizeN s = degN n s := size_sum n s h2 hs
theorem pow_step (d i : Nat) (hd : d ≤ 11) (hi : i < 10) : ∃ p q : Nat, d ^ i = p ∧ d ^ (i + 1) = q ∧ p ≤ 25937424601 ∧ q ≤ 25937424601 ∧ IntKind.i64.wrap ((p : Int) * (d : Int)) = (q : Int) ∧ wrap64 ((p : Int) * (d : Int)) = (q : Int) := by
  have a : d ^ i ≤ 25937424601 := Nat.le_trans (Nat.pow_le_pow_left hd i) (eleven i (by omega))
  have b : d ^ (i + 1) ≤ 25937424601 := Nat.le_trans (Nat.pow_le_pow_left hd (i + 1)) (eleven (i + 1) (by omega))
  have e : ((d ^ i : Nat) : Int) * (d : Int) = ((d ^ (i + 1) : Nat) : Int) := by rw [Nat.pow_succ, Int.natCast_mul]
  refine ⟨_, _, rfl, rfl, a, b, ?_, ?_⟩
  · rw [e]
    generalize d ^ (i + 1) = q at *
    exact IntWalk.i64_in _ ⟨by omega, by omega⟩
  · rw [e]
    generalize d ^ (i + 1) = q at *
    exact IntWalk.wrap64_in _ ⟨by omega, by omega⟩
theorem deg_eleven (n s : Nat) (h1 : 1 ≤ n) (h2 : n ≤ 12) (h0 : s.testBit 0 = false) : degN n s ≤ 11 := by
  obtain ⟨m, rfl⟩ : ∃ m, n = m + 1 := ⟨n - 1, by omega⟩
  have := deg_le m s h0
  omega
set_option maxRecDepth 20000 in
set_option maxHeartbeats 2000000 in
theorem law_PWalkCounts (W : World) (B len cap : Nat) (A : Option Addr) (f : Nat → Nat) (hC : Code W B A len f) (hB : B ≤ W.heap.size) (hlc : len ≤ cap) (hcap : cap ≤ 9223372036854775807) :
    Calls Try.prog 5 #[.slice A len cap] W fun e w' => e = .returned (.bool true) ∧ Below W.heap.size W w' := by
  have HC := Lib.hid (drawWalkCounts_any W B len cap A f hC hB hlc hcap)
  clear hC
  by_cases hlen : (1048576 : Int) < (len : Int)
  · go_enter Try.func5, Try.ntmps5
    go_wp2
    go_ret
    exact ⟨rfl, Below.refl _ _⟩
  go_enter Try.func5, Try.ntmps5
  go_wp2_with fail
  refine HC.out.mono ?_
  rintro e w1 ⟨n, s, k, rfl, h1, h2, h3, hk1, hk2, hb1⟩
  have HB := Lib.hid hb1
  clear hb1 hB hlc hcap
  by_cases hbad : NoStep (n : Int) (s : Int) ∨ ¬ (0 ≤ k ∧ k ≤ 10)
  · have HI := Lib.hid (fun W => implWalkCounts_bad n s k W hbad)
    have key : ∀ W, Calls Try.prog 21 #[.int .i64 (n:Int), .int .i64 (s:Int), .int .i64 k] W (ListRes W [] false) := fun W => by
      by_cases hno : NoStep (n : Int) (s : Int)
      · exact (specWalkCounts_no n s k W hno).mono fun e w' h => none_res h
      · have h4 : s.testBit 0 = false := by
          obtain ⟨n', s', hn', hs', _, _, _, h4⟩ := not_noStep hno
          obtain rfl : s = s' := by omega
          exact h4
        exact (specWalkCounts_out n s k W h1 h2 h3 h4 (hbad.resolve_left hno)).mono fun e w' h => none_res h
    have HS := Lib.hid key
    clear key hbad
    go_wp2_with fail
    refine (HI.out _).mono ?_
    rintro e w2 ⟨sa, rfl, hb2, hI2⟩
    have HI2 := Lib.hid hI2
    clear hI2
    have HB := Lib.hid (HB.out.trans (hb2.mono HB.out.size))
    clear hb2
    go_wp2_with fail
    refine (HS.out _).mono ?_
    rintro e w3 ⟨sb, rfl, hb3, hI3⟩
    have HI3 := Lib.hid hI3
    have HI2' := Lib.hid (HI2.out.belowAll hb3)
    clear hI3
    have HB := Lib.hid (HB.out.trans (hb3.mono HB.out.size))
    clear hb3
    go_wp2_with fail
    refine (sameInts_any _ _ [] _ _ _ HI2'.out HI3.out).mono ?_
    rintro e w4 ⟨rfl, hb4⟩
    have HI4 := Lib.hid (HI2'.out.belowAll hb4)
    have HI5 := Lib.hid (HI3.out.belowAll hb4)
    have HB := Lib.hid (HB.out.trans (hb4.mono HB.out.size))
    clear hb4
    go_wp2_with fail
    refine (sameInts_any _ _ [] _ _ _ HI4.out HI5.out).mono ?_
    rintro e w5 ⟨rfl, hb5⟩
    have HB := Lib.hid (HB.out.trans (hb5.mono HB.out.size))
    clear hb5
    go_wp2
    go_ret
    exact ⟨rfl, HB.out⟩
  have hno : ¬ NoStep (n : Int) (s : Int) := fun h => hbad (.inl h)
  have hk3 : 0 ≤ k ∧ k ≤ 10 := Decidable.byContradiction fun h => hbad (.inr h)
  have h4 : s.testBit 0 = false := by
    obtain ⟨n', s', hn', hs', _, _, _, h4⟩ := not_noStep hno
    obtain rfl : s = s' := by omega
    exact h4
  obtain ⟨k, rfl⟩ : ∃ m : Nat, k = (m : Int) := ⟨k.toNat, by omega⟩
  have hk10 : k ≤ 10 := by omega
  have HI := Lib.hid (fun W => implWalkCounts_yes n s k W h1 h2 h3 h4 hk10)
  have HS := Lib.hid (fun W => (specWalkCounts_yes n s k W h1 h2 h3 h4 hk10).mono (R' := fun e w' => ListRes W (tabW n (wlkN n s k)) true e w') fun e w' h => lists_res h)
  have HSz := Lib.hid (fun W => size_any s W (Nat.lt_of_lt_of_le h3 (Nat.pow_le_pow_right (by omega) (by omega))))
  rw [deg_size n s h2 h3] at HSz
  have HTot := Lib.hid (fun sv W b hI => totalB_any sv (tabW n (wlkN n s k)) W b hI (by rw [tabW_len]; omega) (fun i hi => by
    rw [tabW_len] at hi
    rw [tabW_get n _ i hi]
    have a := wlk_le n s k i h1 h2 h4 hi
    have b := eleven k hk10
    omega))
  rw [tabW_sum, wlk_total n s k h1] at HTot
  have hd11 := deg_eleven n s h1 h2 h4
  have HOne := Lib.hid (fun x hx => wlk_one n s x h1 h2 hx)
  have hs40 : s < 2 ^ 40 := Nat.lt_of_lt_of_le h3 (Nat.pow_le_pow_right (by omega) (by omega))
  have hlw := tabW_len n (wlkN n s k)
  have HBit : Hid (∀ v, bits .and .i64 ((s : Int) / 2 ^ v) 1 = ((b2n (s.testBit v) : Nat) : Int)) := Lib.hid (fun v => by
    cases hb : s.testBit v
    · exact bit_none hs40 hb
    · exact bit_one hs40 hb)
  have HPow := Lib.hid (fun i hi => pow_step (degN n s) i hd11 hi)
  have HP0 : Hid ((degN n s) ^ 0 = 1) := Lib.hid (Nat.pow_zero _)
  clear hbad hno hk1 hk2 hk3 h3 h4
  go_wp2_with fail
  refine (HI.out _).mono ?_
  rintro e w2 ⟨g, cp, rfl, hb2, hI2⟩
  have HI2 := Lib.hid hI2
  clear hI2
  have HB := Lib.hid (HB.out.trans (hb2.mono HB.out.size))
  clear hb2
  go_wp2_with fail
  refine (HS.out _).mono ?_
  rintro e w3 ⟨sb, rfl, hb3, hI3⟩
  have HI3 := Lib.hid hI3
  have HI2' := Lib.hid (HI2.out.belowAll hb3)
  clear hI3
  have HB := Lib.hid (HB.out.trans (hb3.mono HB.out.size))
  clear hb3
  go_wp2_with fail
  refine (sameInts_any _ _ (tabW n (wlkN n s k)) _ _ _ HI2'.out HI3.out).mono ?_
  rintro e w4 ⟨rfl, hb4⟩
  have HI4 := Lib.hid (HI2'.out.belowAll hb4)
  have HB := Lib.hid (HB.out.trans (hb4.mono HB.out.size))
  clear hb4
  generalize degN n s = d at *
  go_wp2
  go_loop [10, 11] (fun a u => ∃ i : Nat, i ≤ k ∧ a = .int .i64 ((d ^ i : Nat) : Int) ∧ u = .int .i64 (i : Int)) (fun _ u => k - (intOf u).toNat)
  case atStart => exact ⟨0, Nat.zero_le _, by rw [HP0.out]; rfl, rfl⟩
  case round =>
    obtain ⟨i, hi, rfl, rfl⟩ := hrel
    by_cases hlt : i < k
    · obtain ⟨p, q, hp, hq, lp, lq, m1, m2⟩ := HPow.out i (by omega)
      have HQ := Lib.hid hq
      rw [hp]
      clear hp hq
      go_wp2_with (go_at_call 22; refine (HSz.out _).mono ?_; rintro e w' ⟨rfl, rfl⟩)
      go_round
      case rel => exact ⟨i + 1, by omega, by rw [HQ.out], by go_num⟩
      case measure => simp [intOf]; omega
    · obtain rfl : i = k := by omega
      clear hlt hi
      go_wp2
      go_loopw [12] (fun u wr => ∃ v : Nat, v ≤ n ∧ u = .int .i64 (v : Int) ∧ Below w4.heap.size w4 wr) (fun u _ => n - (intOf u).toNat)
      case atStart => exact ⟨0, Nat.zero_le _, rfl, Below.refl _ _⟩
      case round =>
        obtain ⟨v, hv, rfl, hB⟩ := hrel
        have HBv := Lib.hid hB
        have HIv := Lib.hid (HI4.out.belowAll hB)
        have HB9 := Lib.hid (HB.out.trans (hB.mono HB.out.size))
        clear hB
        by_cases hgo : v < n ∧ i = 1
        · obtain ⟨hlv, rfl⟩ := hgo
          have c1 := HIv.out.cell (i := v) (by rw [hlw]; exact hlv)
          rw [tabW_get n _ v hlv, HOne.out v hlv] at c1
          have hbt := HBit.out v
          generalize b2n (s.testBit v) = b at *
          have i1 : (0 : Int) ≤ (v : Int) := by omega
          have i2 : (v : Int) < (n : Int) := by omega
          have i3 : decide ((v : Int) < (n : Int)) = true := decide_eq_true i2
          go_wp2
          go_quiet (fail)
          go_wp2
          go_roundw
          case rel => exact ⟨v + 1, by omega, by go_num, below_drewN HBv.out _⟩
          case measure => simp [intOf]; omega
        · by_cases hlv : v < n
          · have hi1 : ¬ i = 1 := fun h => hgo ⟨hlv, h⟩
            have i1 : ((i : Int) == 1) = false := by simp; omega
            have i2 : (v : Int) < (n : Int) := by omega
            have i3 : decide ((v : Int) < (n : Int)) = true := decide_eq_true i2
            clear hgo hi1 hlv
            go_wp2_with (go_at_call 23; refine (HTot.out _ _ _ HIv.out).mono ?_; rintro e w' ⟨rfl, rfl⟩)
            go_ret
            exact ⟨rfl, HB9.out⟩
          · obtain rfl : v = n := by omega
            have i3 : decide ((v : Int) < (v : Int)) = false := decide_eq_false (by omega)
            have i2 : ¬ (v : Int) < (v : Int) := by omega
            clear hgo hlv
            go_wp2_with (go_at_call 23; refine (HTot.out _ _ _ HIv.out).mono ?_; rintro e w' ⟨rfl, rfl⟩)
            go_ret
            exact ⟨rfl, HB9.out⟩
end Go.Proofs.Ytjgpdmjfpcdklaa
