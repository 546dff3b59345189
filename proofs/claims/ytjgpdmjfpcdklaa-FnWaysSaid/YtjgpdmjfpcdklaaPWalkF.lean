/- The law FnWays: words are walks of as many arcs. -/
import Derived.Test.YtjgpdmjfpcdklaaDrawV
import Derived.Test.YtjgpdmjfpcdklaaSame
import Derived.Test.YtjgpdmjfpcdklaaArrG
import Derived.Test.YtjgpdmjfpcdklaaWalkC
import Derived.Test.YtjgpdmjfpcdklaaWalkW
import Derived.Test.YtjgpdmjfpcdklaaGE
import Derived.Test.YtjgpdmjfpcdklaaFarJ
import Derived.Test.YtjgpdmjfpcdklaaFarH
namespace Go.Proofs.Ytjgpdmjfpcdklaa
open Go.RowKit Go.Shelf
set_option linter.unusedVariables false
set_option maxRecDepth 20000 in
set_option maxHeartbeats 2000000 in
theorem law_PWays (W : World) (B len cap : Nat) (A : Option Addr) (f : Nat → Nat) (hC : Code W B A len f) (hB : B ≤ W.heap.size) (hlc : len ≤ cap) (hcap : cap ≤ 9223372036854775807) :
    Calls Try.prog 4 #[.slice A len cap] W fun e w' => e = .returned (.bool true) ∧ Below W.heap.size W w' := by
  have HC := Lib.hid (drawFarWays_any W B len cap A f hC hB hlc hcap)
  clear hC
  by_cases hlen : (1048576 : Int) < (len : Int)
  · go_enter Try.func4, Try.ntmps4
    go_wp2
    go_ret
    exact ⟨rfl, Below.refl _ _⟩
  go_enter Try.func4, Try.ntmps4
  go_wp2_with fail
  refine HC.out.mono ?_
  rintro e w1 ⟨n, s, rfl, h1, h2, h3, hb1⟩
  have HB := Lib.hid hb1
  clear hb1 hB hlc hcap
  by_cases hno : NoStep (n : Int) (s : Int)
  · have HI := Lib.hid (fun W => (implFarWays_no n s W hno).mono (R' := fun e w' => ListRes W [] false e w') fun e w' h => nil_res h)
    have HS := Lib.hid (fun W => (specFarWays_no n s W hno).mono (R' := fun e w' => ListRes W [] false e w') fun e w' h => none_res h)
    clear hno
    go_wp2_with fail
    refine (HI.out _).mono ?_
    rintro e w2 ⟨sa, rfl, hb2, hI2⟩
    have HI2 := Lib.hid hI2
    clear hI2
    have HB := Lib.hid (HB.out.trans (hb2.mono HB.out.size))
    clear hb2
    go_wp2_with fail
    refine (HS.out _).mono ?_
    rintro e w3 ⟨sb, rfl, hb3, hI3⟩
    have HI3 := Lib.hid hI3
    have HI2' := Lib.hid (HI2.out.belowAll hb3)
    clear hI3
    have HB := Lib.hid (HB.out.trans (hb3.mono HB.out.size))
    clear hb3
    go_wp2_with fail
    refine (sameInts_any _ _ [] _ _ _ HI2'.out HI3.out).mono ?_
    rintro e w4 ⟨rfl, hb4⟩
    have HI4 := Lib.hid (HI2'.out.belowAll hb4)
    have HI5 := Lib.hid (HI3.out.belowAll hb4)
    have HB := Lib.hid (HB.out.trans (hb4.mono HB.out.size))
    clear hb4
    go_wp2_with fail
    refine (sameInts_any _ _ [] _ _ _ HI4.out HI5.out).mono ?_
    rintro e w5 ⟨rfl, hb5⟩
    have HB := Lib.hid (HB.out.trans (hb5.mono HB.out.size))
    clear hb5
    go_wp2
    go_ret
    exact ⟨rfl, HB.out⟩
  have h4 : s.testBit 0 = false := by
    obtain ⟨n', s', hn', hs', _, _, _, h4⟩ := not_noStep hno
    obtain rfl : s = s' := by omega
    exact h4
  have HI := Lib.hid (fun W => implFarWays_yes n s W h1 h2 h3 h4)
  have HS := Lib.hid (fun W => (specFarWays_yes n s W h1 h2 h3 h4).mono (R' := fun e w' => ListRes W (tabW n (gotN n s n)) true e w') fun e w' h => lists_res h)
  have HL := Lib.hid (fun W => implFarList_yes n s W h1 h2 h3 h4)
  have HWc := Lib.hid (fun d (hd : d ≤ 10) W => implWalkCounts_yes n s d W h1 h2 h3 h4 hd)
  have HG := Lib.hid (fun v hv => got_walk n s v h1 h2 h3 h4 hv)
  have HR := Lib.hid (fun v => distN_range n s v)
  have hlo := tabW_len n (gotN n s n)
  have hll := tabI_len n (distN n s)
  clear hno h3 h4
  go_wp2_with fail
  refine (HI.out _).mono ?_
  rintro e w2 ⟨g, cp, rfl, hb2, hI2⟩
  have HI2 := Lib.hid hI2
  clear hI2
  have HB := Lib.hid (HB.out.trans (hb2.mono HB.out.size))
  clear hb2
  go_wp2_with fail
  refine (HS.out _).mono ?_
  rintro e w3 ⟨sb, rfl, hb3, hI3⟩
  have HI3 := Lib.hid hI3
  have HI2' := Lib.hid (HI2.out.belowAll hb3)
  clear hI3
  have HB := Lib.hid (HB.out.trans (hb3.mono HB.out.size))
  clear hb3
  go_wp2_with fail
  refine (sameInts_any _ _ (tabW n (gotN n s n)) _ _ _ HI2'.out HI3.out).mono ?_
  rintro e w4 ⟨rfl, hb4⟩
  have HI4 := Lib.hid (HI2'.out.belowAll hb4)
  have HB := Lib.hid (HB.out.trans (hb4.mono HB.out.size))
  clear hb4
  go_wp2_with fail
  refine (HL.out _).mono ?_
  rintro e w5 ⟨g2, cp2, rfl, hb5, hI5⟩
  have HO5 := Lib.hid (HI4.out.belowAll hb5)
  have HL5 := Lib.hid hI5
  clear hI5
  have HB := Lib.hid (HB.out.trans (hb5.mono HB.out.size))
  clear hb5
  clear HI2 HI2' HI3 HI4
  go_wp2
  go_loopw [11] (fun u wr => ∃ v : Nat, v ≤ n ∧ u = .int .i64 (v : Int) ∧ Below w5.heap.size w5 wr) (fun u _ => n - (intOf u).toNat)
  case atStart => exact ⟨0, Nat.zero_le _, rfl, Below.refl _ _⟩
  case round =>
    obtain ⟨v, hv, rfl, hB⟩ := hrel
    have HBv := Lib.hid hB
    have HOv := Lib.hid (HO5.out.belowAll hB)
    have HLv := Lib.hid (HL5.out.belowAll hB)
    have HB9 := Lib.hid (HB.out.trans (hB.mono HB.out.size))
    clear hB
    by_cases hlv : v < n
    · have c1 := HOv.out.cell (i := v) (by rw [hlo]; exact hlv)
      rw [tabW_get n _ v hlv] at c1
      have c2 := HLv.out.cell (i := v) (by rw [hll]; exact hlv)
      rw [tabI_get n _ v hlv] at c2
      obtain ⟨g0, gd⟩ := HG.out v hlv
      have hr := HR.out v
      have i1 : (0 : Int) ≤ (v : Int) := by omega
      have i2 : (v : Int) < (n : Int) := by omega
      obtain ⟨q, hq⟩ : ∃ q, gotN n s n v = q := ⟨_, rfl⟩
      obtain ⟨x, hx⟩ : ∃ x, distN n s v = x := ⟨_, rfl⟩
      rw [hq] at c1 g0 gd
      rw [hx] at c2 g0 gd hr
      by_cases hneg : x < 0
      · obtain rfl : q = 0 := g0.2 hneg
        have e1 : decide (x < 0) = true := decide_eq_true hneg
        have e2 : ¬ (0 ≤ x) := by omega
        have e3 : decide (0 ≤ x) = false := decide_eq_false e2
        have HX := Lib.hid hx
        clear g0 gd hq hx
        go_wp2
        go_quiet (fail)
        have HB2 := Lib.hid (below_drewN HBv.out nq)
        have HL2 := Lib.hid (HL5.out.belowAll HB2.out)
        have c2 := HL2.out.cell (i := v) (by rw [hll]; exact hlv)
        rw [tabI_get n _ v hlv, HX.out] at c2
        go_wp2
        go_roundw
        case rel => exact ⟨v + 1, by omega, by go_num, HB2.out⟩
        case measure => simp [intOf]; omega
      · obtain ⟨d, rfl⟩ : ∃ d : Nat, x = (d : Int) := ⟨x.toNat, by omega⟩
        have hqe := gd d rfl
        have hq0 : ¬ q = 0 := fun h => hneg (g0.1 h)
        have hqb : ((q : Int) == 0) = false := by simp; omega
        have e1 : ¬ (d : Int) < 0 := by omega
        have e2 : decide ((d : Int) < 0) = false := decide_eq_false e1
        have e3 : (0 : Int) ≤ (d : Int) := by omega
        have e4 : decide ((0 : Int) ≤ (d : Int)) = true := decide_eq_true e3
        have HQ := Lib.hid hqe
        have HQq := Lib.hid hq
        have HX := Lib.hid hx
        clear g0 gd hq hx hqe hneg hq0
        by_cases hd : d ≤ 10
        · have HWd := Lib.hid (fun W => HWc.out d hd W)
          have hlw := tabW_len n (wlkN n s d)
          have e5 : (d : Int) ≤ 10 := by omega
          have e6 : decide ((d : Int) ≤ 10) = true := decide_eq_true e5
          clear hd
          go_wp2
          go_quiet (fail)
          have HB2 := Lib.hid (below_drewN HBv.out nq)
          have HO2 := Lib.hid (HO5.out.belowAll HB2.out)
          have HL2 := Lib.hid (HL5.out.belowAll HB2.out)
          have c1 := HO2.out.cell (i := v) (by rw [hlo]; exact hlv)
          rw [tabW_get n _ v hlv, HQq.out] at c1
          have c2 := HL2.out.cell (i := v) (by rw [hll]; exact hlv)
          rw [tabI_get n _ v hlv, HX.out] at c2
          go_wp2_with fail
          refine (HWd.out _).mono ?_
          rintro e w6 ⟨g3, cp3, rfl, hb6, hI6⟩
          have HB3 := Lib.hid (HB2.out.trans (hb6.mono HB2.out.size))
          have HO3 := Lib.hid (HO5.out.belowAll HB3.out)
          have HW3 := Lib.hid hI6
          clear hb6 hI6 c1 c2
          have c1 := HO3.out.cell (i := v) (by rw [hlo]; exact hlv)
          rw [tabW_get n _ v hlv, HQq.out] at c1
          have c3 := HW3.out.cell (i := v) (by rw [hlw]; exact hlv)
          rw [tabW_get n _ v hlv, ← HQ.out] at c3
          go_wp2
          go_quiet (fail)
          have HB4 := Lib.hid (below_drewN HB3.out nq)
          go_wp2
          go_roundw
          case rel => exact ⟨v + 1, by omega, by go_num, HB4.out⟩
          case measure => simp [intOf]; omega
        · have e5 : ¬ (d : Int) ≤ 10 := by omega
          have e6 : decide ((d : Int) ≤ 10) = false := decide_eq_false e5
          have e7 : ¬ d ≤ 10 := hd
          go_wp2
          go_quiet (fail)
          have HB2 := Lib.hid (below_drewN HBv.out nq)
          have HO2 := Lib.hid (HO5.out.belowAll HB2.out)
          have HL2 := Lib.hid (HL5.out.belowAll HB2.out)
          have c2 := HL2.out.cell (i := v) (by rw [hll]; exact hlv)
          rw [tabI_get n _ v hlv, HX.out] at c2
          go_wp2
          go_roundw
          case rel => exact ⟨v + 1, by omega, by go_num, HB2.out⟩
          case measure => simp [intOf]; omega
    · obtain rfl : v = n := by omega
      have i2 : ¬ (v : Int) < (v : Int) := by omega
      clear hlv
      go_wp2
      go_ret
      exact ⟨rfl, HB9.out⟩
end Go.Proofs.Ytjgpdmjfpcdklaa
