/- Drawing for chapter 5: steps alone. -/
import Derived.Test.YtfgolkbafnfblaaDrawT
namespace Go.Proofs.Ytfgolkbafnfblaa
open Go.RowKit Go.Shelf
set_option linter.unusedVariables false
def OneInts (W : World) (e : Ending) (w' : World) : Prop :=
  ∃ (n : Nat) (k : Int), e = .returned (.tuple #[.int .i64 (n : Int), .int .i64 k]) ∧ 1 ≤ n ∧ n ≤ 13 ∧ 0 ≤ k ∧ k ≤ 13 ∧ Below W.heap.size W w'
set_option maxHeartbeats 1000000 in
theorem drawRoundOne_any (W : World) (B len cap : Nat) (A : Option Addr) (f : Nat → Nat) (hC : Code W B A len f) (hB : B ≤ W.heap.size) (hlc : len ≤ cap) (hcap : cap ≤ 9223372036854775807) :
    Calls Try.prog 16 #[.slice A len cap] W (OneInts W) := by
  have HC := Lib.hid (open_any W B len cap A f hC hB hlc hcap)
  clear hC
  go_enter Try.func16, Try.ntmps16
  go_wp2_with fail
  refine HC.out.mono ?_
  rintro e w1 ⟨R, A', len', cap', rfl, hR, hl, hRd, hCd, hb1⟩
  have z1 := hb1.size
  have HRd : Hid (Reader w1 B R 0) := Lib.hid ⟨⟨A', len', cap', f, hRd, hCd, hl⟩, by omega⟩
  have HB1 := Lib.hid hb1
  clear hRd hCd hb1
  go_wp2_with fail
  refine (draw_any w1 B R 0 13 HRd.out (by omega) (by omega) (by omega)).mono ?_
  rintro e w2 ⟨a, rfl, ha, hR2, hA2⟩
  have ha2 := ha (by omega)
  have HR2 := Lib.hid hR2
  have HB2 := Lib.hid (HB1.out.trans (hA2.below (m := W.heap.size) hR z1))
  have z2 := HB2.out.size
  clear hR2 hA2 ha
  obtain ⟨n, hn⟩ : ∃ n : Nat, n = 1 + a := ⟨_, rfl⟩
  have hn' : (1 : Int) + (a : Int) = (n : Int) := by omega
  have hn1 : 1 ≤ n := by omega
  have hn2 : n ≤ 13 := by omega
  clear hn ha2
  go_wp2_with fail
  refine (draw_any w2 B R (0 + 1) _ HR2.out (by omega) (by omega) (by omega)).mono ?_
  rintro e w3 ⟨v, rfl, hv, hR3, hA3⟩
  have hv3 := hv (by omega)
  have HR3 := Lib.hid hR3
  have HB3 := Lib.hid (HB2.out.trans (hA3.below (m := W.heap.size) hR z2))
  have z3 := HB3.out.size
  clear hR3 hA3 hv
  go_wp2_with fail
  refine (draw_any w3 B R (0 + 1 + 1) 24 HR3.out (by omega) (by omega) (by omega)).mono ?_
  rintro e w4 ⟨c, rfl, hc, hR4, hA4⟩
  have hc4 := hc (by omega)
  have HB4 := Lib.hid (HB3.out.trans (hA4.below (m := W.heap.size) hR z3))
  clear hR4 hA4 hc
  obtain ⟨y, hy⟩ : ∃ y : Int, y = Int.tdiv (c : Int) 23 := ⟨_, rfl⟩
  have hy2 : (c : Int) / 23 = y := by rw [hy, Int.tdiv_eq_ediv_of_nonneg (by omega)]
  have hy1 : Int.tdiv (c : Int) 23 = y := hy.symm
  have hyb : 0 ≤ y ∧ y ≤ 1 := by omega
  clear hy hc4
  go_wp2
  go_ret2
  exact ⟨n, 1 + (v : Int) - y, rfl, hn1, hn2, by omega, by omega, HB4.out⟩
def TwoStepsPost (W : World) (e : Ending) (w' : World) : Prop :=
  ∃ (n a : Nat) (b : Int), e = .returned (.tuple #[.int .i64 (n : Int), .int .i64 (a : Int), .int .i64 b]) ∧ 2 ≤ n ∧ n ≤ 13 ∧ 1 ≤ a ∧ a < n ∧ 0 ≤ b ∧ b < (n : Int) ∧ Below W.heap.size W w'
set_option maxHeartbeats 1000000 in
theorem drawRoundTwo_any (W : World) (B len cap : Nat) (A : Option Addr) (f : Nat → Nat) (hC : Code W B A len f) (hB : B ≤ W.heap.size) (hlc : len ≤ cap) (hcap : cap ≤ 9223372036854775807) :
    Calls Try.prog 13 #[.slice A len cap] W (TwoStepsPost W) := by
  have HC := Lib.hid (open_any W B len cap A f hC hB hlc hcap)
  clear hC
  go_enter Try.func13, Try.ntmps13
  go_wp2_with fail
  refine HC.out.mono ?_
  rintro e w1 ⟨R, A', len', cap', rfl, hR, hl, hRd, hCd, hb1⟩
  have z1 := hb1.size
  have HRd : Hid (Reader w1 B R 0) := Lib.hid ⟨⟨A', len', cap', f, hRd, hCd, hl⟩, by omega⟩
  have HB1 := Lib.hid hb1
  clear hRd hCd hb1
  go_wp2_with fail
  refine (draw_any w1 B R 0 11 HRd.out (by omega) (by omega) (by omega)).mono ?_
  rintro e w2 ⟨a, rfl, ha, hR2, hA2⟩
  have ha2 := ha (by omega)
  have HR2 := Lib.hid hR2
  have HB2 := Lib.hid (HB1.out.trans (hA2.below (m := W.heap.size) hR z1))
  have z2 := HB2.out.size
  clear hR2 hA2 ha
  go_wp2_with fail
  refine (draw_any w2 B R (0 + 1) 24 HR2.out (by omega) (by omega) (by omega)).mono ?_
  rintro e w3 ⟨d, rfl, hd, hR3, hA3⟩
  have hd3 := hd (by omega)
  have HR3 := Lib.hid hR3
  have HB3 := Lib.hid (HB2.out.trans (hA3.below (m := W.heap.size) hR z2))
  have z3 := HB3.out.size
  clear hR3 hA3 hd
  obtain ⟨x, hx⟩ : ∃ x : Int, x = Int.tdiv (d : Int) 23 := ⟨_, rfl⟩
  have hx2 : (d : Int) / 23 = x := by rw [hx, Int.tdiv_eq_ediv_of_nonneg (by omega)]
  have hx1 : Int.tdiv (d : Int) 23 = x := hx.symm
  have hxb : 0 ≤ x ∧ x ≤ 1 := by omega
  clear hx
  obtain ⟨n, hn⟩ : ∃ n : Nat, (n : Int) = (2 + (a : Int)) + x := ⟨((2 + (a : Int)) + x).toNat, by omega⟩
  have hn' : (2 + (a : Int)) + x = (n : Int) := hn.symm
  have hn1 : 2 ≤ n := by omega
  have hn2 : n ≤ 13 := by omega
  clear hn
  go_wp2_with fail
  refine (draw_any w3 B R (0 + 1 + 1) _ HR3.out (by omega) (by omega) (by omega)).mono ?_
  rintro e w4 ⟨v, rfl, hv, hR4, hA4⟩
  have hv4 := hv (by omega)
  have HR4 := Lib.hid hR4
  have HB4 := Lib.hid (HB3.out.trans (hA4.below (m := W.heap.size) hR z3))
  have z4 := HB4.out.size
  clear hR4 hA4 hv
  go_wp2_with fail
  refine (draw_any w4 B R (0 + 1 + 1 + 1) _ HR4.out (by omega) (by omega) (by omega)).mono ?_
  rintro e w5 ⟨u, rfl, hu, hR5, hA5⟩
  have hu5 := hu (by omega)
  have HR5 := Lib.hid hR5
  have HB5 := Lib.hid (HB4.out.trans (hA5.below (m := W.heap.size) hR z4))
  have z5 := HB5.out.size
  clear hR5 hA5 hu
  go_wp2_with fail
  refine (draw_any w5 B R (0 + 1 + 1 + 1 + 1) 24 HR5.out (by omega) (by omega) (by omega)).mono ?_
  rintro e w6 ⟨c, rfl, hc, hR6, hA6⟩
  have hc6 := hc (by omega)
  have HB6 := Lib.hid (HB5.out.trans (hA6.below (m := W.heap.size) hR z5))
  clear hR6 hA6 hc
  obtain ⟨y, hy⟩ : ∃ y : Int, y = Int.tdiv (c : Int) 23 := ⟨_, rfl⟩
  have hy2 : (c : Int) / 23 = y := by rw [hy, Int.tdiv_eq_ediv_of_nonneg (by omega)]
  have hy1 : Int.tdiv (c : Int) 23 = y := hy.symm
  have hyb : 0 ≤ y ∧ y ≤ 1 := by omega
  clear hy hc6
  go_wp2
  go_ret3
  exact ⟨n, 1 + v, 1 + (u : Int) - y, by simp, hn1, hn2, by omega, by omega, by omega, by omega, HB6.out⟩
end Go.Proofs.Ytfgolkbafnfblaa
