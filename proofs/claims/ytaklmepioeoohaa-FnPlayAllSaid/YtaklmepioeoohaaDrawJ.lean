/- The draws of numbers for plays. Written by gen68.py. -/
import Derived.Test.YtaklmepioeoohaaDrawH
namespace Go.Proofs.Ytaklmepioeoohaa
open Go.RowKit Go.Shelf
set_option linter.unusedVariables false
set_option maxHeartbeats 1000000 in
theorem drawPlayAll_any (W : World) (B len cap : Nat) (A : Option Addr) (f : Nat → Nat) (hC : Code W B A len f) (hB : B ≤ W.heap.size) (hlc : len ≤ cap) (hcap : cap ≤ 9223372036854775807) :
    Calls Try.prog 17 #[.slice A len cap] W (OneNat W) := by
  have HC := Lib.hid (open_any W B len cap A f hC hB hlc hcap)
  clear hC
  go_enter Try.func17, Try.ntmps17
  go_wp2_with fail
  refine HC.out.mono ?_
  rintro e w1 ⟨R, A', len', cap', rfl, hR, hl, hRd, hCd, hb1⟩
  have z1 := hb1.size
  have HR1 : Hid (Reader w1 B R 0) := Lib.hid ⟨⟨A', len', cap', f, hRd, hCd, hl⟩, by omega⟩
  have HB1 := Lib.hid hb1
  clear hRd hCd hb1
  go_wp2_with fail
  refine (draw_any w1 B R (0) 4 HR1.out (by omega) (by omega) (by omega)).mono ?_
  rintro e w2 ⟨a, rfl, ha, hR2, hA2⟩
  have ha_ := ha (by omega)
  have HR2 := Lib.hid hR2
  have HB2 := Lib.hid (HB1.out.trans (hA2.below (m := W.heap.size) hR z1))
  have z2 := HB2.out.size
  clear hR2 hA2 ha
  go_wp2_with fail
  refine (draw_any w2 B R (0 + 1) 24 HR2.out (by omega) (by omega) (by omega)).mono ?_
  rintro e w3 ⟨c, rfl, hc, hR3, hA3⟩
  have hc_ := hc (by omega)
  have HR3 := Lib.hid hR3
  have HB3 := Lib.hid (HB2.out.trans (hA3.below (m := W.heap.size) hR z2))
  have z3 := HB3.out.size
  clear hR3 hA3 hc
  obtain ⟨yc, hyc⟩ : ∃ y : Int, y = Int.tdiv (c : Int) 23 := ⟨_, rfl⟩
  have ec2 : (c : Int) / 23 = yc := by rw [hyc, Int.tdiv_eq_ediv_of_nonneg (by omega)]
  have ec1 : Int.tdiv (c : Int) 23 = yc := hyc.symm
  have bc : yc = 0 ∨ yc = 1 := by omega
  clear hyc hc_
  go_wp2_with fail
  refine (draw_any w3 B R (0 + 1 + 1) 24 HR3.out (by omega) (by omega) (by omega)).mono ?_
  rintro e w4 ⟨d, rfl, hd, hR4, hA4⟩
  have hd_ := hd (by omega)
  have HR4 := Lib.hid hR4
  have HB4 := Lib.hid (HB3.out.trans (hA4.below (m := W.heap.size) hR z3))
  have z4 := HB4.out.size
  clear hR4 hA4 hd
  obtain ⟨yd, hyd⟩ : ∃ y : Int, y = Int.tdiv (d : Int) 23 := ⟨_, rfl⟩
  have ed2 : (d : Int) / 23 = yd := by rw [hyd, Int.tdiv_eq_ediv_of_nonneg (by omega)]
  have ed1 : Int.tdiv (d : Int) 23 = yd := hyd.symm
  have bd : yd = 0 ∨ yd = 1 := by omega
  clear hyd hd_
  obtain ⟨n, hn⟩ : ∃ n : Nat, (n : Int) = 3 + 2 * (a : Int) + yc * 3 - yd * 2 := ⟨(3 + 2 * (a : Int) + yc * 3 - yd * 2).toNat, by omega⟩
  have hn2 : n ≤ 13 := by omega
  have HN : Hid (3 + 2 * (a : Int) + yc * 3 - yd * 2 = (n : Int)) := hn.symm
  clear hn
  go_wp2
  go_ret
  exact ⟨n, by rw [← HN.out]; rfl, hn2, HB4.out⟩
theorem drawPlayClasses_any (W : World) (B len cap : Nat) (A : Option Addr) (f : Nat → Nat) (hC : Code W B A len f) (hB : B ≤ W.heap.size) (hlc : len ≤ cap) (hcap : cap ≤ 9223372036854775807) :
    Calls Try.prog 32 #[.slice A len cap] W (OneNat W) := by
  have HC := Lib.hid (drawPlayAll_any W B len cap A f hC hB hlc hcap)
  clear hC
  go_enter Try.func32, Try.ntmps32
  go_wp2_with fail
  refine HC.out.mono ?_
  rintro e w1 ⟨n, rfl, hn, hb⟩
  go_wp2
  go_ret
  exact ⟨n, rfl, hn, hb⟩
end Go.Proofs.Ytaklmepioeoohaa
