/- Drawing for chapter 3. -/
import Derived.Test.YtgonanembcnlgaaStepD
import Derived.Test.YtgonanembcnlgaaStepQM
namespace Go.Proofs.Ytgonanembcnlgaa
open Go.RowKit Go.Shelf
set_option linter.unusedVariables false
theorem drawFarList_any (W : World) (B len cap : Nat) (A : Option Addr) (f : Nat → Nat) (hC : Code W B A len f) (hB : B ≤ W.heap.size) (hlc : len ≤ cap) (hcap : cap ≤ 9223372036854775807) :
    Calls Try.prog 10 #[.slice A len cap] W (StepsPost W) := by
  have HC := Lib.hid (steps_any W B len cap A f hC hB hlc hcap)
  clear hC
  go_enter Try.func10, Try.ntmps10
  go_wp2_with fail
  refine HC.out.mono ?_
  rintro e w1 ⟨n, s, rfl, hn1, hn2, hs, hb⟩
  go_wp2
  go_ret2
  exact ⟨n, s, rfl, hn1, hn2, hs, hb⟩
theorem drawFarMost_any (W : World) (B len cap : Nat) (A : Option Addr) (f : Nat → Nat) (hC : Code W B A len f) (hB : B ≤ W.heap.size) (hlc : len ≤ cap) (hcap : cap ≤ 9223372036854775807) :
    Calls Try.prog 15 #[.slice A len cap] W (StepsPost W) := by
  have HC := Lib.hid (steps_any W B len cap A f hC hB hlc hcap)
  clear hC
  go_enter Try.func15, Try.ntmps15
  go_wp2_with fail
  refine HC.out.mono ?_
  rintro e w1 ⟨n, s, rfl, hn1, hn2, hs, hb⟩
  go_wp2
  go_ret2
  exact ⟨n, s, rfl, hn1, hn2, hs, hb⟩
theorem drawFarSum_any (W : World) (B len cap : Nat) (A : Option Addr) (f : Nat → Nat) (hC : Code W B A len f) (hB : B ≤ W.heap.size) (hlc : len ≤ cap) (hcap : cap ≤ 9223372036854775807) :
    Calls Try.prog 20 #[.slice A len cap] W (StepsPost W) := by
  have HC := Lib.hid (steps_any W B len cap A f hC hB hlc hcap)
  clear hC
  go_enter Try.func20, Try.ntmps20
  go_wp2_with fail
  refine HC.out.mono ?_
  rintro e w1 ⟨n, s, rfl, hn1, hn2, hs, hb⟩
  go_wp2
  go_ret2
  exact ⟨n, s, rfl, hn1, hn2, hs, hb⟩
theorem drawFarLayers_any (W : World) (B len cap : Nat) (A : Option Addr) (f : Nat → Nat) (hC : Code W B A len f) (hB : B ≤ W.heap.size) (hlc : len ≤ cap) (hcap : cap ≤ 9223372036854775807) :
    Calls Try.prog 28 #[.slice A len cap] W (StepsPost W) := by
  have HC := Lib.hid (steps_any W B len cap A f hC hB hlc hcap)
  clear hC
  go_enter Try.func28, Try.ntmps28
  go_wp2_with fail
  refine HC.out.mono ?_
  rintro e w1 ⟨n, s, rfl, hn1, hn2, hs, hb⟩
  go_wp2
  go_ret2
  exact ⟨n, s, rfl, hn1, hn2, hs, hb⟩
theorem drawFarWord_any (W : World) (B len cap : Nat) (A : Option Addr) (f : Nat → Nat) (hC : Code W B A len f) (hB : B ≤ W.heap.size) (hlc : len ≤ cap) (hcap : cap ≤ 9223372036854775807) :
    Calls Try.prog 24 #[.slice A len cap] W (PlacePost W) := by
  have HC := Lib.hid (place_any W B len cap A f hC hB hlc hcap)
  clear hC
  go_enter Try.func24, Try.ntmps24
  go_wp2_with fail
  refine HC.out.mono ?_
  rintro e w1 ⟨n, s, v, rfl, hn1, hn2, hs, hv1, hv2, hb⟩
  go_wp2
  go_ret3
  exact ⟨n, s, v, rfl, hn1, hn2, hs, hv1, hv2, hb⟩
def TwoInts (W : World) (e : Ending) (w' : World) : Prop :=
  ∃ n k : Int, e = .returned (.tuple #[.int .i64 n, .int .i64 k]) ∧ 0 ≤ n ∧ n ≤ 20 ∧ -5 ≤ k ∧ k ≤ 20 ∧ Below W.heap.size W w'
set_option maxHeartbeats 1000000 in
theorem drawFarBest_any (W : World) (B len cap : Nat) (A : Option Addr) (f : Nat → Nat) (hC : Code W B A len f) (hB : B ≤ W.heap.size) (hlc : len ≤ cap) (hcap : cap ≤ 9223372036854775807) :
    Calls Try.prog 30 #[.slice A len cap] W (TwoInts W) := by
  have HC := Lib.hid (open_any W B len cap A f hC hB hlc hcap)
  clear hC
  go_enter Try.func30, Try.ntmps30
  go_wp2_with fail
  refine HC.out.mono ?_
  rintro e w1 ⟨R, A', len', cap', rfl, hR, hl, hRd, hCd, hb1⟩
  have z1 := hb1.size
  have HRd : Hid (Reader w1 B R 0) := Lib.hid ⟨⟨A', len', cap', f, hRd, hCd, hl⟩, by omega⟩
  have HB1 := Lib.hid hb1
  clear hRd hCd hb1
  go_wp2_with fail
  refine (draw_any w1 B R 0 7 HRd.out (by omega) (by omega) (by omega)).mono ?_
  rintro e w2 ⟨a, rfl, ha, hR2, hA2⟩
  have ha2 := ha (by omega)
  have HR2 := Lib.hid hR2
  have HB2 := Lib.hid (HB1.out.trans (hA2.below (m := W.heap.size) hR z1))
  have z2 := HB2.out.size
  clear hR2 hA2 ha
  go_wp2_with fail
  refine (draw_any w2 B R 1 24 HR2.out (by omega) (by omega) (by omega)).mono ?_
  rintro e w3 ⟨d, rfl, hd, hR3, hA3⟩
  have hd3 := hd (by omega)
  have HR3 := Lib.hid hR3
  have HB3 := Lib.hid (HB2.out.trans (hA3.below (m := W.heap.size) hR z2))
  have z3 := HB3.out.size
  clear hR3 hA3 hd
  obtain ⟨x, hx⟩ : ∃ x : Int, x = Int.tdiv (d : Int) 23 := ⟨_, rfl⟩
  have hx2 : (d : Int) / 23 = x := by rw [hx, Int.tdiv_eq_ediv_of_nonneg (by omega)]
  have hx1 : Int.tdiv (d : Int) 23 = x := hx.symm
  have hxb : 0 ≤ x ∧ x ≤ 1 := by omega
  clear hx
  obtain ⟨n, hn⟩ : ∃ n : Int, n = (2 + (a : Int)) + x * 2 := ⟨_, rfl⟩
  have hn' : (2 + (a : Int)) + x * 2 = n := hn.symm
  have hnb : 2 ≤ n ∧ n ≤ 10 := by omega
  have hw2 : IntKind.i64.wrap (x * 2) = x * 2 := IntWalk.i64_in _ ⟨by omega, by omega⟩
  clear hn
  by_cases h4 : 4 < n
  all_goals
    go_wp2_with fail
    refine (draw_any w3 B R (1 + 1) _ HR3.out (by omega) (by omega) (by omega)).mono ?_
    rintro e w4 ⟨v, rfl, hv, hR4, hA4⟩
    have hv4 := hv (by omega)
    have HR4 := Lib.hid hR4
    have HB4 := Lib.hid (HB3.out.trans (hA4.below (m := W.heap.size) hR z3))
    have z4 := HB4.out.size
    clear hR4 hA4 hv
    go_wp2_with fail
    refine (draw_any w4 B R (1 + 1 + 1) 24 HR4.out (by omega) (by omega) (by omega)).mono ?_
    rintro e w5 ⟨c, rfl, hc, hR5, hA5⟩
    have hc5 := hc (by omega)
    have HB5 := Lib.hid (HB4.out.trans (hA5.below (m := W.heap.size) hR z4))
    clear hR5 hA5 hc
    obtain ⟨y, hy⟩ : ∃ y : Int, y = Int.tdiv (c : Int) 23 := ⟨_, rfl⟩
    have hy2 : (c : Int) / 23 = y := by rw [hy, Int.tdiv_eq_ediv_of_nonneg (by omega)]
    have hy1 : Int.tdiv (c : Int) 23 = y := hy.symm
    have hyb : 0 ≤ y ∧ y ≤ 1 := by omega
    clear hy
    go_wp2
    go_ret2
    exact ⟨n, _, rfl, by omega, by omega, by omega, by omega, HB5.out⟩
set_option maxRecDepth 100000 in
set_option maxHeartbeats 2000000 in
theorem drawFarTurned_any (W : World) (B len cap : Nat) (A : Option Addr) (f : Nat → Nat) (hC : Code W B A len f) (hB : B ≤ W.heap.size) (hlc : len ≤ cap) (hcap : cap ≤ 9223372036854775807) :
    Calls Try.prog 33 #[.slice A len cap] W (PlacePost W) := by
  have HC := Lib.hid (open_any W B len cap A f hC hB hlc hcap)
  clear hC
  go_enter Try.func33, Try.ntmps33
  go_wp2_with fail
  refine HC.out.mono ?_
  rintro e w1 ⟨R, A', len', cap', rfl, hR, hl, hRd, hCd, hb1⟩
  have z1 := hb1.size
  have HRd : Hid (Reader w1 B R 0) := Lib.hid ⟨⟨A', len', cap', f, hRd, hCd, hl⟩, by omega⟩
  clear hRd hCd
  go_wp2_with fail
  refine (step_any w1 B R 0 HRd.out (by omega)).mono ?_
  rintro e w2 ⟨n, s, q, rfl, hn1, hn2, hs, hq, hR2, hA2⟩
  have HR2 := Lib.hid hR2
  have HB2 := Lib.hid (hb1.trans (hA2.below (m := W.heap.size) hR z1))
  have z2 := HB2.out.size
  clear hR2 hA2
  go_wp2_with fail
  refine (draw_any w2 B R q (n : Int) HR2.out (by omega) (by omega) (by omega)).mono ?_
  rintro e w3 ⟨m0, rfl, hm, hR3, hA3⟩
  have hm0 := hm (by omega)
  have HR3 := Lib.hid hR3
  have HB3 := Lib.hid (HB2.out.trans (hA3.below (m := W.heap.size) hR z2))
  clear hR3 hA3 hm HR2 HB2 hb1
  have hul := unitsN_lt n
  have hpw := pow_le n hn2
  have HUn := Lib.hid (fun W => l1Units_any n W hn1 hn2)
  have HBit := Lib.hid (fun v (hv : v < 12) => has_nat (unitsN n) v (by omega))
  generalize unitsN n = un at *
  obtain ⟨k0, hk0⟩ : ∃ k0 : Nat, n = k0 + 1 := ⟨n - 1, by omega⟩
  have hkI : (n : Int) - 1 = (k0 : Int) := by omega
  have hk12 : k0 < 12 := by omega
  clear hk0
  go_wp2
  go_loopw [8, 9] (fun u t wr => ∃ v m p : Nat, v < 12 ∧ m < 12 ∧ p + v ≤ 100 ∧ u = .int .i64 (m : Int) ∧ t = .int .i64 (v : Int) ∧ Reader wr B R p ∧ Below W.heap.size W wr) (fun _ t _ => (intOf t).toNat)
  case atStart => exact ⟨k0, m0, q + 1, hk12, by omega, by omega, rfl, by first | rfl | (simp [hkI]), HR3.out, HB3.out⟩
  case round =>
    obtain ⟨v, m, p, hv, hm, hp, rfl, rfl, hRp, hBp⟩ := hrel
    have HRp := Lib.hid hRp
    have HBp := Lib.hid hBp
    have zp := hBp.size
    clear hRp hBp
    by_cases hv0 : v = 0
    · subst hv0
      go_wp2
      go_ret3
      exact ⟨n, s, (m : Int), rfl, hn1, hn2, hs, by omega, by omega, HBp.out⟩
    · have hvp : (0 : Int) < (v : Int) := by omega
      have hbt := HBit.out v hv
      go_wp2_with fail
      refine (draw_any wr B R p 3 HRp.out (by omega) (by omega) (by omega)).mono ?_
      rintro e w5 ⟨c, rfl, hc, hR5, hA5⟩
      have HR5 := Lib.hid hR5
      have HB5 := Lib.hid (HBp.out.trans (hA5.below (m := W.heap.size) hR zp))
      clear hR5 hA5 hc
      by_cases hc0 : c = 0
      · subst hc0
        go_wp2
        go_ret3
        exact ⟨n, s, (m : Int), rfl, hn1, hn2, hs, by omega, by omega, HB5.out⟩
      · have hcp : (0 : Int) < (c : Int) := by omega
        obtain ⟨v', hv'⟩ : ∃ v' : Nat, v = v' + 1 := ⟨v - 1, by omega⟩
        have hvI : (v : Int) - 1 = (v' : Int) := by omega
        have hv12 : v' < 12 ∧ p + 1 + v' ≤ 100 ∧ v' < v := by omega
        have hbt2 := hbt
        clear hv' hbt2
        cases hb : un.testBit v
        · rw [hb] at hbt
          go_wp2_with (go_at_call 61; refine (HUn.out _).mono ?_; rintro e w6 ⟨rfl, rfl⟩)
          go_roundw
          case rel => exact ⟨v', m, p + 1, hv12.1, hm, hv12.2.1, rfl, by first | rfl | (simp [hvI]), HR5.out, HB5.out⟩
          case measure => have := hv12.2.2; simp [intOf]; omega
        · rw [hb] at hbt
          go_wp2_with (go_at_call 61; refine (HUn.out _).mono ?_; rintro e w6 ⟨rfl, rfl⟩)
          go_roundw
          case rel => exact ⟨v', v, p + 1, hv12.1, hv, hv12.2.1, rfl, by first | rfl | (simp [hvI]), HR5.out, HB5.out⟩
          case measure => simp [intOf]; omega
end Go.Proofs.Ytgonanembcnlgaa
