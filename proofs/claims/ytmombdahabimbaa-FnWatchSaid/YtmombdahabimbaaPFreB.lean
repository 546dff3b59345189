/- Promise laws of chapter 6 over given contracts of the program: FnWatch, FnColours, FnWaysColours. -/
import Derived.Test.YtmombdahabimbaaPFreA
import Derived.Test.YtmombdahabimbaaFreM
import Derived.Test.YtmombdahabimbaaFreI
import Derived.Test.YtmombdahabimbaaDrawP
import Derived.Test.YtmombdahabimbaaStepWA
import Derived.Test.YtmombdahabimbaaStepWB
import Derived.Test.YtmombdahabimbaaGM
namespace Go.Proofs.Ytmombdahabimbaa
open Go.RowKit Go.Shelf
set_option linter.unusedVariables false
set_option maxHeartbeats 1000000 in
theorem lawP_FnWatch (W : World) (B len cap : Nat) (A : Option Addr) (f : Nat → Nat) (hC : Code W B A len f) (hB : B ≤ W.heap.size) (hlc : len ≤ cap) (hcap : cap ≤ 9223372036854775807)
    (hWN : NoFreeWatch) (hWY : YesFreeWatch) (hMY : YesFreeMost) :
    Calls Try.prog 3 #[.slice A len cap] W fun e w' => e = .returned (.bool true) ∧ Below W.heap.size W w' := by
  have HC := Lib.hid (drawFreeWatch_any W B len cap A f hC hB hlc hcap)
  clear hC
  by_cases hlen : (1048576 : Int) < (len : Int)
  · go_enter Try.func3, Try.ntmps3
    go_wp2
    go_ret
    exact ⟨rfl, Below.refl _ _⟩
  go_enter Try.func3, Try.ntmps3
  go_wp2_with fail
  refine HC.out.mono ?_
  rintro e w1 ⟨n, s, rfl, hn1, hn2, hs, hbl⟩
  have HB := Lib.hid hbl
  clear hbl hB hlc hcap
  by_cases hno : NoStep (n : Int) (s : Int)
  · have HI := Lib.hid (fun W => hWN n s W hno)
    have HS := Lib.hid (fun W => specFreeWatch_no n s W hno)
    clear hno
    go_wp2_with fail
    refine (HI.out _).mono ?_
    rintro e w2 ⟨rfl, hb2⟩
    have HB := Lib.hid (HB.out.trans (hb2.mono HB.out.size))
    clear hb2
    go_wp2_with fail
    refine (HS.out _).mono ?_
    rintro e w3 ⟨rfl, rfl⟩
    go_wp2
    go_ret
    exact ⟨rfl, HB.out⟩
  have h4 : s.testBit 0 = false := by
    obtain ⟨n', s', hn', hs', _, _, _, h4⟩ := not_noStep hno
    obtain rfl : s = s' := by omega
    exact h4
  have h12 : n ≤ 12 := by omega
  obtain ⟨p1, p2, p3, p4⟩ := p_watch n s hn1 h12 hs h4
  have hbl := bothN_lt n s hn1 hs
  have hb0 := both_zero_bit n s hn1 hs h4
  have HI := Lib.hid (fun W => hWY n s W hn1 h12 hs h4)
  have HS := Lib.hid (fun W => specFreeWatch_yes n s W hn1 h12 hs h4)
  have HBo := Lib.hid (fun W => implStepBoth_yes n s W hn1 h12 hs h4)
  have HX := Lib.hid (fun W => hWY n (bothN n s) W hn1 h12 hbl hb0)
  have HM := Lib.hid (fun W => hMY n s W hn1 h12 hs h4)
  have HSz := Lib.hid (fun W => size_any s W (by have := pow_le n h12; omega))
  have hwl : watchF n s ≤ n := low_le _ _ _
  have hxl : watchF n (bothN n s) ≤ n := low_le _ _ _
  have hzl := sizeN_le n s h12 hs
  generalize mostF n s = m at *
  generalize watchF n (bothN n s) = x at *
  generalize watchF n s = o at *
  generalize bothN n s = b at *
  generalize sizeN s = z at *
  obtain ⟨y, hy⟩ : ∃ y, z + 1 = y := ⟨_, rfl⟩
  rw [hy] at p1
  obtain ⟨x1, x2⟩ := wraps_big ((z : Int) + 1) ((y : Int)) (by omega) (by omega)
  have Hq1 := Lib.hid x1
  have Hq2 := Lib.hid x2
  clear x1 x2
  obtain ⟨P, hP⟩ : ∃ P, o * y = P := ⟨_, rfl⟩
  have hPl : P ≤ 156 := by rw [← hP]; exact Nat.mul_le_mul (show o ≤ 12 by omega) (show y ≤ 13 by omega)
  rw [hP] at p1
  obtain ⟨x1, x2⟩ := wraps_big ((o : Int) * (y : Int)) ((P : Int)) (by rw [← hP]; exact (Int.natCast_mul o y).symm) (by omega)
  have Hq3 := Lib.hid x1
  have Hq4 := Lib.hid x2
  clear x1 x2
  have HaI : Hid ((n : Int) ≤ (P : Int)) := Lib.hid (by omega)
  have HaJ : Hid (decide ((n : Int) ≤ (P : Int)) = true) := Lib.hid (decide_eq_true (HaI.out))
  have HaK : Hid (decide (n ≤ P) = true) := Lib.hid (decide_eq_true (by have := HaI.out; omega))
  obtain ⟨u, hu⟩ : ∃ u, n - 1 = u := ⟨_, rfl⟩
  rw [hu] at p2
  obtain ⟨x1, x2⟩ := wraps_big ((n : Int) - 1) ((u : Int)) (by omega) (by omega)
  have Hr1 := Lib.hid x1
  have Hr2 := Lib.hid x2
  clear x1 x2
  have HbI : Hid ((x : Int) ≤ (m : Int)) := Lib.hid (by omega)
  have HbJ : Hid (decide ((x : Int) ≤ (m : Int)) = true) := Lib.hid (decide_eq_true (HbI.out))
  have HbK : Hid (decide (x ≤ m) = true) := Lib.hid (decide_eq_true (by have := HbI.out; omega))
  have HcI : Hid ((x : Int) ≤ (o : Int)) := Lib.hid (by omega)
  have HcJ : Hid (decide ((x : Int) ≤ (o : Int)) = true) := Lib.hid (decide_eq_true (HcI.out))
  have HcK : Hid (decide (x ≤ o) = true) := Lib.hid (decide_eq_true (by have := HcI.out; omega))
  clear hy hP hPl p1 p3 p4 hno hWN hWY hMY hbl hb0
  go_wp2_with fail
  refine (HI.out _).mono ?_
  rintro e w2 ⟨rfl, hb2⟩
  have HB := Lib.hid (HB.out.trans (hb2.mono HB.out.size))
  clear hb2
  go_wp2_with fail
  refine (HS.out _).mono ?_
  rintro e w3 ⟨rfl, hb3⟩
  have HB := Lib.hid (HB.out.trans (hb3.mono HB.out.size))
  clear hb3
  go_wp2_with fail
  refine (HBo.out _).mono ?_
  rintro e w4 ⟨rfl, hb4⟩
  have HB := Lib.hid (HB.out.trans (hb4.mono HB.out.size))
  clear hb4
  go_wp2_with fail
  refine (HX.out _).mono ?_
  rintro e w5 ⟨rfl, hb5⟩
  have HB := Lib.hid (HB.out.trans (hb5.mono HB.out.size))
  clear hb5
  go_wp2_with fail
  refine (HM.out _).mono ?_
  rintro e w6 ⟨rfl, hb6⟩
  have HB := Lib.hid (HB.out.trans (hb6.mono HB.out.size))
  clear hb6
  by_cases ho : o = 1
  · have hz := p2.1 ho
    have HfJ : Hid (((z : Int) == (u : Int)) = true) := Lib.hid (by rw [hz]; simp)
    have HeJ : Hid (((o : Int) == 1) = true) := Lib.hid (by simp [ho])
    have HeK : Hid ((o == 1) = true) := Lib.hid (by simp [ho])
    clear p2 ho hz hu
    go_wp2_with fail
    refine (HSz.out _).mono ?_
    rintro e w7 ⟨rfl, rfl⟩
    have q1 := Hq1.out
    have q2 := Hq2.out
    have q3 := Hq3.out
    have q4 := Hq4.out
    have aI := HaI.out
    have aJ := HaJ.out
    have aK := HaK.out
    go_wp2_with fail
    refine (HSz.out _).mono ?_
    rintro e w8 ⟨rfl, rfl⟩
    have r1 := Hr1.out
    have r2 := Hr2.out
    have bI := HbI.out
    have bJ := HbJ.out
    have bK := HbK.out
    have cI := HcI.out
    have cJ := HcJ.out
    have cK := HcK.out
    have eJ := HeJ.out
    have fJ := HfJ.out
    have eK := HeK.out
    go_wp2
    go_ret
    exact ⟨rfl, HB.out⟩
  · have hz : z ≠ u := fun h => ho (p2.2 h)
    have HfJ : Hid (((z : Int) == (u : Int)) = false) := Lib.hid (beq_cast_ne (hz))
    have HeJ : Hid (((o : Int) == 1) = false) := Lib.hid (by simp; omega)
    have HeK : Hid ((o == 1) = false) := Lib.hid (by simp [ho])
    clear p2 ho hz hu
    go_wp2_with fail
    refine (HSz.out _).mono ?_
    rintro e w7 ⟨rfl, rfl⟩
    have q1 := Hq1.out
    have q2 := Hq2.out
    have q3 := Hq3.out
    have q4 := Hq4.out
    have aI := HaI.out
    have aJ := HaJ.out
    have aK := HaK.out
    go_wp2_with fail
    refine (HSz.out _).mono ?_
    rintro e w8 ⟨rfl, rfl⟩
    have r1 := Hr1.out
    have r2 := Hr2.out
    have bI := HbI.out
    have bJ := HbJ.out
    have bK := HbK.out
    have cI := HcI.out
    have cJ := HcJ.out
    have cK := HcK.out
    have eJ := HeJ.out
    have fJ := HfJ.out
    have eK := HeK.out
    go_wp2
    go_ret
    exact ⟨rfl, HB.out⟩
end Go.Proofs.Ytmombdahabimbaa
