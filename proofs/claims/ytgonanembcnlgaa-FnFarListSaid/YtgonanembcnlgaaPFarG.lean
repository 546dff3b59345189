/- The law FnFarList: distances grow by 1 at most. -/
import Derived.Test.YtgonanembcnlgaaDrawF
import Derived.Test.YtgonanembcnlgaaFarMath
import Derived.Test.YtgonanembcnlgaaFarH
import Derived.Test.YtgonanembcnlgaaStepWA
import Derived.Test.YtgonanembcnlgaaStepWB
namespace Go.Proofs.Ytgonanembcnlgaa
open Go.RowKit Go.Shelf
set_option linter.unusedVariables false
set_option maxRecDepth 20000 in
set_option maxHeartbeats 4000000 in
theorem law_PFarList (W : World) (B len cap : Nat) (A : Option Addr) (f : Nat → Nat) (hC : Code W B A len f) (hB : B ≤ W.heap.size) (hlc : len ≤ cap) (hcap : cap ≤ 9223372036854775807) :
    Calls Try.prog 3 #[.slice A len cap] W fun e w' => e = .returned (.bool true) ∧ Below W.heap.size W w' := by
  have HC := Lib.hid (drawFarList_any W B len cap A f hC hB hlc hcap)
  clear hC
  by_cases hlen : (1048576 : Int) < (len : Int)
  · go_enter Try.func3, Try.ntmps3
    go_wp2
    go_ret
    exact ⟨rfl, Below.refl _ _⟩
  go_enter Try.func3, Try.ntmps3
  go_wp2_with fail
  refine HC.out.mono ?_
  rintro e w1 ⟨n, s, rfl, h1, h2, h3, hb1⟩
  have HB := Lib.hid hb1
  clear hb1 hB hlc hcap
  by_cases hno : NoStep (n : Int) (s : Int)
  · have HI := Lib.hid (fun W => (implFarList_no n s W hno).mono (R' := fun e w' => ListRes W [] false e w') fun e w' h => nil_res h)
    have HS := Lib.hid (fun W => (specFarList_no n s W hno).mono (R' := fun e w' => ListRes W [] false e w') fun e w' h => none_res h)
    clear hno
    go_wp2_with fail
    refine (HI.out _).mono ?_
    rintro e w2 ⟨sa, rfl, hb2, hI2⟩
    have HI2 := Lib.hid hI2
    clear hI2
    have HB := Lib.hid (HB.out.trans (hb2.mono HB.out.size))
    clear hb2
    go_wp2_with fail
    refine (HS.out _).mono ?_
    rintro e w3 ⟨sb, rfl, hb3, hI3⟩
    have HI3 := Lib.hid hI3
    have HI2' := Lib.hid (HI2.out.belowAll hb3)
    clear hI3
    have HB := Lib.hid (HB.out.trans (hb3.mono HB.out.size))
    clear hb3
    go_wp2_with fail
    refine (sameInts_any _ _ [] _ _ _ HI2'.out HI3.out).mono ?_
    rintro e w4 ⟨rfl, hb4⟩
    have HI4 := Lib.hid (HI2'.out.belowAll hb4)
    have HI5 := Lib.hid (HI3.out.belowAll hb4)
    have HB := Lib.hid (HB.out.trans (hb4.mono HB.out.size))
    clear hb4
    go_wp2_with fail
    refine (sameInts_any _ _ [] _ _ _ HI4.out HI5.out).mono ?_
    rintro e w5 ⟨rfl, hb5⟩
    have HB := Lib.hid (HB.out.trans (hb5.mono HB.out.size))
    clear hb5
    go_wp2
    go_ret
    exact ⟨rfl, HB.out⟩
  have h4 : s.testBit 0 = false := by
    obtain ⟨n', s', hn', hs', _, _, _, h4⟩ := not_noStep hno
    obtain rfl : s = s' := by omega
    exact h4
  have HI := Lib.hid (fun W => implFarList_yes n s W h1 h2 h3 h4)
  have HS := Lib.hid (fun W => (specFarList_yes n s W h1 h2 h3 h4).mono (R' := fun e w' => ListRes W (tabI n (distN n s)) true e w') fun e w' h => lists_res h)
  have HPa := Lib.hid (fun W => implStepPart_yes n s W h1 h2 h3 h4)
  have HYes : Hid (∀ v, v < n → (partN n s).testBit v = true → ∃ x : Nat, distN n s v = (x : Int) ∧ x ≤ 12) := Lib.hid (fun v hv hb => ⟨farN n s v, dist_of_part n s v hb, by have := far_lt n s v h1 h2 h3 hb; omega⟩)
  have HNot : Hid (∀ v, (partN n s).testBit v = false → distN n s v = -1) := Lib.hid (fun v hb => dist_of_not n s v hb)
  have HTri : Hid (∀ v w (x y : Nat), v < n → w < n → distN n s v = (x : Int) → distN n s w = (y : Int) → distN n s ((v + w) % n) ≤ (x : Int) + (y : Int)) := Lib.hid (fun v w x y hv hw ex ey => by
    have h := dist_add n s v w h1 h2 h3 hv hw (by omega) (by omega)
    rw [ex, ey] at h
    exact h)
  have HBit := Lib.hid (fun v => has_nat0 (partN n s) v (Nat.lt_of_lt_of_le (partF_lt n s h1) (Nat.pow_le_pow_right (by omega) (by omega))))
  have HGet := Lib.hid (fun v hv => tabI_get n (distN n s) v hv)
  have HZer : Hid (distN n s 0 = 0) := Lib.hid (by rw [dist_of_part n s 0 (part_zero n s h1), (far_none n s 0 h1).2 rfl]; rfl)
  have hxl := tabI_len n (distN n s)
  have hpl := partF_lt n s h1
  have hpw := pow_le n h2
  clear h4 hno
  generalize distN n s = F at *
  generalize partN n s = P at *
  generalize tabI n F = xs at *
  go_wp2_with fail
  refine (HI.out _).mono ?_
  rintro e w2 ⟨g, cp, rfl, hb2, hI2⟩
  have HI2 := Lib.hid hI2
  clear hI2
  have HB := Lib.hid (HB.out.trans (hb2.mono HB.out.size))
  clear hb2
  go_wp2_with fail
  refine (HS.out _).mono ?_
  rintro e w3 ⟨sb, rfl, hb3, hI3⟩
  have HI3 := Lib.hid hI3
  have HI2' := Lib.hid (HI2.out.belowAll hb3)
  clear hI3
  have HB := Lib.hid (HB.out.trans (hb3.mono HB.out.size))
  clear hb3
  go_wp2_with fail
  refine (sameInts_any _ _ xs _ _ _ HI2'.out HI3.out).mono ?_
  rintro e w4 ⟨rfl, hb4⟩
  have HI4 := Lib.hid (HI2'.out.belowAll hb4)
  have HB := Lib.hid (HB.out.trans (hb4.mono HB.out.size))
  clear hb4
  go_wp2_with fail
  refine (HPa.out _).mono ?_
  rintro e w5 ⟨rfl, hb5⟩
  have HI5 := Lib.hid (HI4.out.belowAll hb5)
  have HB := Lib.hid (HB.out.trans (hb5.mono HB.out.size))
  clear hb5
  go_wp2
  go_loopw [11] (fun u wr => ∃ v : Nat, v ≤ n ∧ u = .int .i64 (v : Int) ∧ Below w5.heap.size w5 wr) (fun u _ => n - (intOf u).toNat)
  case atStart => exact ⟨0, Nat.zero_le _, rfl, Below.refl _ _⟩
  case round =>
    obtain ⟨v, hv, rfl, hB⟩ := hrel
    have HBv := Lib.hid hB
    have HIv := Lib.hid (HI5.out.belowAll hB)
    clear hB
    by_cases hlv : v < n
    · have c1 := HIv.out.cell (i := v) (by rw [hxl]; exact hlv)
      rw [HGet.out v hlv] at c1
      have hbt := HBit.out v
      have i1 : (0 : Int) ≤ (v : Int) := by omega
      have i2 : (v : Int) < (n : Int) := by omega
      cases hbv : P.testBit v
      · have hFv := HNot.out v hbv
        rw [hFv] at c1
        rw [hbv] at hbt
        go_wp2
        go_quiet (fail)
        clear c1 hbt
        go_wp2
        obtain ⟨wp, rfl⟩ : ∃ wp : World, wp = wr := ⟨_, rfl⟩
        go_loopw [12] (fun u wr => ∃ w : Nat, w ≤ n ∧ u = .int .i64 (w : Int) ∧ Below w5.heap.size w5 wr) (fun u _ => n - (intOf u).toNat)
        case atStart => exact ⟨0, Nat.zero_le _, rfl, below_drewN HBv.out _⟩
        case round =>
          obtain ⟨w, hw, rfl, hB⟩ := hrel
          have HBw := Lib.hid hB
          have HIw := Lib.hid (HI5.out.belowAll hB)
          clear hB
          by_cases hlw : w < n
          · have c1 := HIw.out.cell (i := v) (by rw [hxl]; exact hlv)
            rw [HGet.out v hlv, hFv] at c1
            have j1 : (0 : Int) ≤ (w : Int) := by omega
            have j2 : (w : Int) < (n : Int) := by omega
            go_wp2
            go_quiet (fail)
            go_wp2
            go_roundw
            case rel => exact ⟨w + 1, by omega, by go_num, below_drewN HBw.out _⟩
            case measure => simp [intOf]; omega
        
          · obtain rfl : w = n := by omega
            have j2 : ¬ (w : Int) < (w : Int) := by omega
            go_wp2
            go_roundw
            case rel => exact ⟨v + 1, by omega, by go_num, HBw.out⟩
            case measure => simp [intOf]; omega
      · obtain ⟨x, hFv, hx⟩ := HYes.out v hlv hbv
        rw [hFv] at c1
        rw [hbv] at hbt
        have d0 : decide ((x : Int) < 0) = false := decide_eq_false (by omega)
        go_wp2
        go_quiet (fail)
        clear c1 hbt d0
        go_wp2
        obtain ⟨wp, rfl⟩ : ∃ wp : World, wp = wr := ⟨_, rfl⟩
        go_loopw [12] (fun u wr => ∃ w : Nat, w ≤ n ∧ u = .int .i64 (w : Int) ∧ Below w5.heap.size w5 wr) (fun u _ => n - (intOf u).toNat)
        case atStart => exact ⟨0, Nat.zero_le _, rfl, below_drewN HBv.out _⟩
        case round =>
          obtain ⟨w, hw, rfl, hB⟩ := hrel
          have HBw := Lib.hid hB
          have HIw := Lib.hid (HI5.out.belowAll hB)
          clear hB
          by_cases hlw : w < n
          · have c1 := HIw.out.cell (i := v) (by rw [hxl]; exact hlv)
            rw [HGet.out v hlv, hFv] at c1
            have j1 : (0 : Int) ≤ (w : Int) := by omega
            have j2 : (w : Int) < (n : Int) := by omega
            have c2 := HIw.out.cell (i := w) (by rw [hxl]; exact hlw)
            rw [HGet.out w hlw] at c2
            cases hbw : P.testBit w
            · rw [HNot.out w hbw] at c2
              go_wp2
              go_quiet (fail)
              go_wp2
              go_roundw
              case rel => exact ⟨w + 1, by omega, by go_num, below_drewN HBw.out _⟩
              case measure => simp [intOf]; omega
            · obtain ⟨y, hFw, hy⟩ := HYes.out w hlw hbw
              have htri := HTri.out v w x y hlv hlw hFv hFw
              rw [hFw] at c2
              have hul := Nat.mod_lt (v + w) (show 0 < n by omega)
              have c3 := HIw.out.cell (i := (v + w) % n) (by rw [hxl]; exact hul)
              rw [HGet.out _ hul] at c3
              have hm2 : ((v : Int) + (w : Int)) % (n : Int) = (((v + w) % n : Nat) : Int) := by simp
              have hm1 : Int.tmod ((v : Int) + (w : Int)) (n : Int) = (((v + w) % n : Nat) : Int) := by rw [Int.tmod_eq_emod_of_nonneg (by omega)]; exact hm2
              generalize F ((v + w) % n) = z at *
              generalize (v + w) % n = q at *
              have d1 : decide ((x : Int) + (y : Int) < z) = false := decide_eq_false (by omega)
              have q1 : (0 : Int) ≤ (q : Int) := by omega
              have q2 : (q : Int) < (n : Int) := by omega
              have n0 : ¬ (n : Int) = 0 := by omega
              go_wp2
              go_quiet (fail)
              go_wp2
              go_roundw
              case rel => exact ⟨w + 1, by omega, by go_num, below_drewN HBw.out _⟩
              case measure => simp [intOf]; omega
        
          · obtain rfl : w = n := by omega
            have j2 : ¬ (w : Int) < (w : Int) := by omega
            go_wp2
            go_roundw
            case rel => exact ⟨v + 1, by omega, by go_num, HBw.out⟩
            case measure => simp [intOf]; omega
    · obtain rfl : v = n := by omega
      have c0 := HIv.out.cell (i := 0) (by rw [hxl]; omega)
      rw [HGet.out 0 (by omega), HZer.out] at c0
      have i2 : ¬ (v : Int) < (v : Int) := by omega
      have t0 : (0 : Int) < (v : Int) := by omega
      have HB9 := Lib.hid (HB.out.trans (HBv.out.mono HB.out.size))
      go_wp2
      go_ret
      exact ⟨rfl, HB9.out⟩
end Go.Proofs.Ytgonanembcnlgaa
