/- The draws of numbers of chapter 7. Written by gen57.py. -/
import Derived.Test.YtaomjhkodohkcaaGM
namespace Go.Proofs.Ytaomjhkodohkcaa
open Go.RowKit Go.Shelf
set_option linter.unusedVariables false
def FindPost (W : World) (e : Ending) (w' : World) : Prop :=
  ∃ n k : Nat, e = .returned (.tuple #[.int .i64 (n : Int), .int .i64 (k : Int)]) ∧ 2 ≤ n ∧ n ≤ 13 ∧ k ≤ n ∧ Below W.heap.size W w'
def OneNat (W : World) (e : Ending) (w' : World) : Prop :=
  ∃ n : Nat, e = .returned (.int .i64 (n : Int)) ∧ n ≤ 13 ∧ Below W.heap.size W w'
set_option maxHeartbeats 1000000 in
theorem drawDiffFind_any (W : World) (B len cap : Nat) (A : Option Addr) (f : Nat → Nat) (hC : Code W B A len f) (hB : B ≤ W.heap.size) (hlc : len ≤ cap) (hcap : cap ≤ 9223372036854775807) :
    Calls Try.prog 21 #[.slice A len cap] W (FindPost W) := by
  have HC := Lib.hid (open_any W B len cap A f hC hB hlc hcap)
  clear hC
  go_enter Try.func21, Try.ntmps21
  go_wp2_with fail
  refine HC.out.mono ?_
  rintro e w1 ⟨R, A', len', cap', rfl, hR, hl, hRd, hCd, hb1⟩
  have z1 := hb1.size
  have HR1 : Hid (Reader w1 B R 0) := Lib.hid ⟨⟨A', len', cap', f, hRd, hCd, hl⟩, by omega⟩
  have HB1 := Lib.hid hb1
  clear hRd hCd hb1
  go_wp2_with fail
  refine (draw_any w1 B R (0) 10 HR1.out (by omega) (by omega) (by omega)).mono ?_
  rintro e w2 ⟨a, rfl, ha, hR2, hA2⟩
  have ha_ := ha (by omega)
  have HR2 := Lib.hid hR2
  have HB2 := Lib.hid (HB1.out.trans (hA2.below (m := W.heap.size) hR z1))
  have z2 := HB2.out.size
  clear hR2 hA2 ha
  go_wp2_with fail
  refine (draw_any w2 B R (0 + 1) 24 HR2.out (by omega) (by omega) (by omega)).mono ?_
  rintro e w3 ⟨c, rfl, hc, hR3, hA3⟩
  have hc_ := hc (by omega)
  have HR3 := Lib.hid hR3
  have HB3 := Lib.hid (HB2.out.trans (hA3.below (m := W.heap.size) hR z2))
  have z3 := HB3.out.size
  clear hR3 hA3 hc
  obtain ⟨yc, hyc⟩ : ∃ y : Int, y = Int.tdiv (c : Int) 23 := ⟨_, rfl⟩
  have ec2 : (c : Int) / 23 = yc := by rw [hyc, Int.tdiv_eq_ediv_of_nonneg (by omega)]
  have ec1 : Int.tdiv (c : Int) 23 = yc := hyc.symm
  have bc : yc = 0 ∨ yc = 1 := by omega
  clear hyc hc_
  obtain ⟨n, hn⟩ : ∃ n : Nat, (n : Int) = 2 + (a : Int) + yc * 2 := ⟨(2 + (a : Int) + yc * 2).toNat, by omega⟩
  have hn1 : 2 ≤ n := by omega
  have hn2 : n ≤ 13 := by omega
  have hN : Hid ((2 : Int) + (a : Int) + yc * 2 = (n : Int)) := hn.symm
  have hN2 : (2 : Int) + (a : Int) + yc * 2 = (n : Int) := hN.out
  clear hn
  go_wp2_with fail
  refine (draw_any w3 B R (0 + 1 + 1) (n : Int) HR3.out (by omega) (by omega) (by omega)).mono ?_
  rintro e w4 ⟨v, rfl, hv, hR4, hA4⟩
  have hv_ := hv (by omega)
  have HR4 := Lib.hid hR4
  have HB4 := Lib.hid (HB3.out.trans (hA4.below (m := W.heap.size) hR z3))
  have z4 := HB4.out.size
  clear hR4 hA4 hv
  go_wp2_with fail
  refine (draw_any w4 B R (0 + 1 + 1 + 1) 24 HR4.out (by omega) (by omega) (by omega)).mono ?_
  rintro e w5 ⟨d, rfl, hd, hR5, hA5⟩
  have hd_ := hd (by omega)
  have HR5 := Lib.hid hR5
  have HB5 := Lib.hid (HB4.out.trans (hA5.below (m := W.heap.size) hR z4))
  have z5 := HB5.out.size
  clear hR5 hA5 hd
  obtain ⟨yd, hyd⟩ : ∃ y : Int, y = Int.tdiv (d : Int) 23 := ⟨_, rfl⟩
  have ed2 : (d : Int) / 23 = yd := by rw [hyd, Int.tdiv_eq_ediv_of_nonneg (by omega)]
  have ed1 : Int.tdiv (d : Int) 23 = yd := hyd.symm
  have bd : yd = 0 ∨ yd = 1 := by omega
  clear hyd hd_
  obtain ⟨k, hk⟩ : ∃ k : Nat, (k : Int) = 1 + (v : Int) - yd := ⟨(1 + (v : Int) - yd).toNat, by omega⟩
  have hk1 : k ≤ n := by omega
  have HK : Hid ((1 : Int) + (v : Int) - yd = (k : Int)) := hk.symm
  clear hk
  go_wp2
  go_ret2
  exact ⟨n, k, by rw [← HK.out]; rfl, hn1, hn2, hk1, HB5.out⟩
set_option maxHeartbeats 1000000 in
theorem drawDiffThinMost_any (W : World) (B len cap : Nat) (A : Option Addr) (f : Nat → Nat) (hC : Code W B A len f) (hB : B ≤ W.heap.size) (hlc : len ≤ cap) (hcap : cap ≤ 9223372036854775807) :
    Calls Try.prog 29 #[.slice A len cap] W (OneNat W) := by
  have HC := Lib.hid (open_any W B len cap A f hC hB hlc hcap)
  clear hC
  go_enter Try.func29, Try.ntmps29
  go_wp2_with fail
  refine HC.out.mono ?_
  rintro e w1 ⟨R, A', len', cap', rfl, hR, hl, hRd, hCd, hb1⟩
  have z1 := hb1.size
  have HR1 : Hid (Reader w1 B R 0) := Lib.hid ⟨⟨A', len', cap', f, hRd, hCd, hl⟩, by omega⟩
  have HB1 := Lib.hid hb1
  clear hRd hCd hb1
  go_wp2_with fail
  refine (draw_any w1 B R (0) 13 HR1.out (by omega) (by omega) (by omega)).mono ?_
  rintro e w2 ⟨a, rfl, ha, hR2, hA2⟩
  have ha_ := ha (by omega)
  have HR2 := Lib.hid hR2
  have HB2 := Lib.hid (HB1.out.trans (hA2.below (m := W.heap.size) hR z1))
  have z2 := HB2.out.size
  clear hR2 hA2 ha
  go_wp2_with fail
  refine (draw_any w2 B R (0 + 1) 24 HR2.out (by omega) (by omega) (by omega)).mono ?_
  rintro e w3 ⟨c, rfl, hc, hR3, hA3⟩
  have hc_ := hc (by omega)
  have HR3 := Lib.hid hR3
  have HB3 := Lib.hid (HB2.out.trans (hA3.below (m := W.heap.size) hR z2))
  have z3 := HB3.out.size
  clear hR3 hA3 hc
  obtain ⟨yc, hyc⟩ : ∃ y : Int, y = Int.tdiv (c : Int) 23 := ⟨_, rfl⟩
  have ec2 : (c : Int) / 23 = yc := by rw [hyc, Int.tdiv_eq_ediv_of_nonneg (by omega)]
  have ec1 : Int.tdiv (c : Int) 23 = yc := hyc.symm
  have bc : yc = 0 ∨ yc = 1 := by omega
  clear hyc hc_
  obtain ⟨n, hn⟩ : ∃ n : Nat, (n : Int) = (a : Int) + yc := ⟨((a : Int) + yc).toNat, by omega⟩
  have hn2 : n ≤ 13 := by omega
  have HN : Hid ((a : Int) + yc = (n : Int)) := hn.symm
  clear hn
  go_wp2
  go_ret
  exact ⟨n, by rw [← HN.out]; rfl, hn2, HB3.out⟩
set_option maxHeartbeats 1000000 in
theorem drawDiffWhole_any (W : World) (B len cap : Nat) (A : Option Addr) (f : Nat → Nat) (hC : Code W B A len f) (hB : B ≤ W.heap.size) (hlc : len ≤ cap) (hcap : cap ≤ 9223372036854775807) :
    Calls Try.prog 32 #[.slice A len cap] W (OneNat W) := by
  have HC := Lib.hid (open_any W B len cap A f hC hB hlc hcap)
  clear hC
  go_enter Try.func32, Try.ntmps32
  go_wp2_with fail
  refine HC.out.mono ?_
  rintro e w1 ⟨R, A', len', cap', rfl, hR, hl, hRd, hCd, hb1⟩
  have z1 := hb1.size
  have HR1 : Hid (Reader w1 B R 0) := Lib.hid ⟨⟨A', len', cap', f, hRd, hCd, hl⟩, by omega⟩
  have HB1 := Lib.hid hb1
  clear hRd hCd hb1
  go_wp2_with fail
  refine (draw_any w1 B R (0) 13 HR1.out (by omega) (by omega) (by omega)).mono ?_
  rintro e w2 ⟨a, rfl, ha, hR2, hA2⟩
  have ha_ := ha (by omega)
  have HR2 := Lib.hid hR2
  have HB2 := Lib.hid (HB1.out.trans (hA2.below (m := W.heap.size) hR z1))
  have z2 := HB2.out.size
  clear hR2 hA2 ha
  go_wp2_with fail
  refine (draw_any w2 B R (0 + 1) 24 HR2.out (by omega) (by omega) (by omega)).mono ?_
  rintro e w3 ⟨c, rfl, hc, hR3, hA3⟩
  have hc_ := hc (by omega)
  have HR3 := Lib.hid hR3
  have HB3 := Lib.hid (HB2.out.trans (hA3.below (m := W.heap.size) hR z2))
  have z3 := HB3.out.size
  clear hR3 hA3 hc
  obtain ⟨yc, hyc⟩ : ∃ y : Int, y = Int.tdiv (c : Int) 23 := ⟨_, rfl⟩
  have ec2 : (c : Int) / 23 = yc := by rw [hyc, Int.tdiv_eq_ediv_of_nonneg (by omega)]
  have ec1 : Int.tdiv (c : Int) 23 = yc := hyc.symm
  have bc : yc = 0 ∨ yc = 1 := by omega
  clear hyc hc_
  obtain ⟨n, hn⟩ : ∃ n : Nat, (n : Int) = (a : Int) + yc := ⟨((a : Int) + yc).toNat, by omega⟩
  have hn2 : n ≤ 13 := by omega
  have HN : Hid ((a : Int) + yc = (n : Int)) := hn.symm
  clear hn
  go_wp2
  go_ret
  exact ⟨n, by rw [← HN.out]; rfl, hn2, HB3.out⟩
end Go.Proofs.Ytaomjhkodohkcaa
