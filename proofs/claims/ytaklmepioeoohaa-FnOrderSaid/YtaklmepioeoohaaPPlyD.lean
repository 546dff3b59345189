/- The promise law FnOrder over given contracts, the model's among them. Written by gen72.py. -/
import Derived.Test.YtaklmepioeoohaaPlyP
import Derived.Test.YtaklmepioeoohaaGQ
import Derived.Test.YtaklmepioeoohaaDrawI
import Derived.Test.YtaklmepioeoohaaSame
import Derived.Test.YtaklmepioeoohaaPDifA
import Derived.Test.YtaklmepioeoohaaPDifB
namespace Go.Proofs.Ytaklmepioeoohaa
open Go.RowKit Go.Shelf
set_option linter.unusedVariables false
set_option maxHeartbeats 1000000 in
set_option maxRecDepth 4000 in
theorem lawP_FnOrder (W : World) (B len cap : Nat) (A : Option Addr) (f : Nat → Nat) (hC : Code W B A len f) (hB : B ≤ W.heap.size) (hlc : len ≤ cap) (hcap : cap ≤ 9223372036854775807)
    (hN : NoPlayOrder) (hY : YesPlayOrder) (hSY : YesSpecOrder) :
    Calls Try.prog 10 #[.slice A len cap] W fun e w' => e = .returned (.bool true) ∧ Below W.heap.size W w' := by
  have HC := Lib.hid (drawPlayOrder_any W B len cap A f hC hB hlc hcap)
  clear hC
  by_cases hlen : (1048576 : Int) < (len : Int)
  · go_enter Try.func10, Try.ntmps10
    go_wp2
    go_ret
    exact ⟨rfl, Below.refl _ _⟩
  go_enter Try.func10, Try.ntmps10
  go_wp2_with fail
  refine HC.out.mono ?_
  rintro e w1 ⟨n, s, rfl, hn1, hn13, hs13, hbl⟩
  have HB := Lib.hid hbl
  clear hbl hB hlc hcap
  by_cases hno : NoPlay (n : Int) (s : Int) ∨ 9 < (n : Int)
  · have HI := Lib.hid (fun W => hN n s W hno)
    have HS := Lib.hid (fun W => specPlayOrder_no n s W hno)
    clear hno hN hY hSY
    go_wp2_with fail
    refine (HI.out _).mono ?_
    rintro e w2 ⟨sa, rfl, hb2, hI2⟩
    have HI2 := Lib.hid hI2
    have HB := Lib.hid (HB.out.trans (hb2.mono HB.out.size))
    clear hb2 hI2
    go_wp2_with fail
    refine (HS.out _).mono ?_
    rintro e w3 ⟨sb, rfl, hb3, hI3⟩
    have HI3 := Lib.hid hI3
    have HI2 := Lib.hid (HI2.out.belowAll hb3)
    have HB := Lib.hid (HB.out.trans (hb3.mono HB.out.size))
    clear hb3 hI3
    go_wp2_with fail
    refine (sameInts_any _ _ [] _ _ _ HI2.out HI3.out).mono ?_
    rintro e w4 ⟨rfl, hb4⟩
    have HI2 := Lib.hid (HI2.out.belowAll hb4)
    have HI3 := Lib.hid (HI3.out.belowAll hb4)
    have HB := Lib.hid (HB.out.trans (hb4.mono HB.out.size))
    clear hb4
    go_wp2_with fail
    refine (sameInts_any _ _ [] _ _ _ HI2.out HI3.out).mono ?_
    rintro e w5 ⟨rfl, hb5⟩
    have HB := Lib.hid (HB.out.trans (hb5.mono HB.out.size))
    clear hb5
    go_wp2
    go_ret
    exact ⟨rfl, HB.out⟩
  obtain ⟨n', s', hn', hs', h3, h12, hs, hp⟩ := not_noPlay (fun c => hno (.inl c))
  obtain rfl : n = n' := by omega
  obtain rfl : s = s' := by omega
  have h9 : n ≤ 9 := by have : ¬ 9 < (n : Int) := fun c => hno (.inr c); omega
  clear hn' hs' hno hs13 hn13
  have HI := Lib.hid (fun W => hY n s W h9 hs hp)
  have HS := Lib.hid (fun W => hSY n s W h9 hs hp)
  obtain ⟨_, o1, o2, o3, o4⟩ := ord_says n s h9 hs hp
  have hsb := seeO_lt n (ordL n s) (fun i hi => (o4 i hi).2.1)
  have hpw := pow_le n h12
  have HSb : Hid (∀ i, i ≤ n → seeO (ordL n s) i < 2 ^ 40) := Lib.hid (fun i hi => by have := hsb i hi; omega)
  have hs40 : s < 2 ^ 40 := by omega
  have HO4 := Lib.hid o4
  have HLen := Lib.hid o1
  have HO2 := Lib.hid o2
  have HO3 := Lib.hid o3
  have HSe : Hid (∀ i, seeO (ordL n s) (i + 1) = seeO (ordL n s) i ||| 2 ^ atN (ordL n s) i) := Lib.hid (fun _ => rfl)
  have HZe : Hid (seeO (ordL n s) 0 = 0) := Lib.hid rfl
  obtain ⟨P, hP⟩ : ∃ P, 2 ^ n = P := ⟨_, rfl⟩
  have HF := Lib.hid (pow_fits n P h12 hP)
  rw [hP] at HO3
  generalize ordL n s = xs at *
  have hmx : Try.prog.follows .mixedOrders = true := by kernel_rfl
  clear hN hY hSY o1 o2 o3 o4 hsb hpw hP hs hp
  go_wp2_with fail
  refine (HI.out _).mono ?_
  rintro e w2 ⟨sa, rfl, hb2, hI2⟩
  have HI2 := Lib.hid hI2
  have HB := Lib.hid (HB.out.trans (hb2.mono HB.out.size))
  clear hb2 hI2
  go_wp2_with fail
  refine (HS.out _).mono ?_
  rintro e w3 ⟨sb, rfl, hb3, hI3⟩
  have HI3 := Lib.hid hI3
  have HI2 := Lib.hid (HI2.out.belowAll hb3)
  have HB := Lib.hid (HB.out.trans (hb3.mono HB.out.size))
  clear hb3 hI3
  go_wp2_with fail
  refine (sameInts_any _ _ xs _ _ _ HI2.out HI3.out).mono ?_
  rintro e w4 ⟨rfl, hb4⟩
  have HI2 := Lib.hid (HI2.out.belowAll hb4)
  have HI3 := Lib.hid (HI3.out.belowAll hb4)
  have HB := Lib.hid (HB.out.trans (hb4.mono HB.out.size))
  clear hb4
  obtain ⟨g, cap', rfl⟩ : ∃ g cap', sa = .slice (some ⟨g, 0, none⟩) n cap' := by
    rcases HI2.out.shape with ⟨e1, e2⟩ | ⟨g, c, e1, _, _, _⟩
    · have := HLen.out
      rw [e2] at this
      simp at this
      omega
    · exact ⟨g, c, by rw [e1, HLen.out]⟩
  clear HI3 HI HS
  go_wp2
  go_loopw [9, 10] (fun a u wr => ∃ i : Nat, i ≤ n ∧ a = .int .i64 ((seeO xs i : Nat) : Int) ∧ u = .int .i64 (i : Int) ∧ Hid (Below w4.heap.size w4 wr)) (fun _ u _ => n - (intOf u).toNat)
  case atStart => exact ⟨0, Nat.zero_le _, by rw [HZe.out]; rfl, rfl, Lib.hid (Below.refl _ _)⟩
  case round =>
    obtain ⟨i, hi, rfl, rfl, HBk⟩ := hrel
    have HL := Lib.hid (HI2.out.belowAll HBk.out)
    by_cases hlt : i < n
    · obtain ⟨hx, hxn, hbt⟩ := HO4.out i hlt
      have c1 := HL.out.cell (i := i) (by rw [HLen.out]; exact hlt)
      rw [hx] at c1
      have hse := HSe.out i
      have hw := with_nat (seeO xs i) (atN xs i) (HSb.out i (by omega)) (by omega)
      rw [← hse] at hw
      have hwi : bits .or .i64 ((seeO xs i : Nat) : Int) (IntKind.i64.wrap (2 ^ atN xs i)) = ((seeO xs (i + 1) : Nat) : Int) := by rw [IntWalk.i64_left]; exact hw
      have HBt := Lib.hid hbt
      have HSn : Hid (seeO xs (i + 1) = seeO xs (i + 1)) := Lib.hid rfl
      clear hse hx hbt
      by_cases hz : i = 0
      · subst hz
        generalize atN xs 0 = x at *
        have x64 : min x 64 = x := by omega
        have x0 : (0 : Int) ≤ (x : Int) := by omega
        obtain ⟨S1, hS1⟩ : ∃ S1, seeO xs (0 + 1) = S1 := ⟨_, rfl⟩
        have HS1 := Lib.hid hS1
        rw [hS1] at hw hwi
        clear hS1
        generalize seeO xs 0 = S0 at *
        go_wp2
        go_region
        go_wp2
        go_roundw
        case rel => exact ⟨0 + 1, by omega, by rw [HS1.out], by go_num, Lib.hid HBk.out.drew⟩
        case measure => simp [intOf]; omega
      · obtain ⟨J, hJ⟩ : ∃ J, i - 1 = J := ⟨_, rfl⟩
        obtain ⟨hy, hyn, _⟩ := HO4.out J (by omega)
        have c2 := HL.out.cell (i := J) (by rw [HLen.out]; omega)
        rw [hy] at c2
        have hbb := HBt.out hz
        rw [hJ] at hbb
        unfold beatB at hbb
        obtain ⟨j1, j2⟩ := two_wraps ((i : Int) - 1) J (by omega) (by omega)
        obtain ⟨⟨f1, f2⟩, ⟨f3, f4⟩, f5, f6⟩ := step_fits n (atN xs i) (atN xs J) (by omega) h12 hxn hyn
        have hn0 := has_nat0 s (rest n ((atN xs i : Int) - (atN xs J : Int))) hs40
        rw [hbb] at hn0
        have hrl := rest_lt n ((atN xs i : Int) - (atN xs J : Int)) (by omega)
        generalize rest n ((atN xs i : Int) - (atN xs J : Int)) = r at *
        generalize atN xs i = x at *
        generalize atN xs J = y at *
        have x64 : min x 64 = x := by omega
        have x0 : (0 : Int) ≤ (x : Int) := by omega
        have r64 : min r 64 = r := by omega
        have r0 : (0 : Int) ≤ (r : Int) := by omega
        have k1 : (0 : Int) < (i : Int) := by omega
        have k2 := decide_eq_true k1
        have k3 : 0 < i := by omega
        have k4 := decide_eq_true k3
        have k5 : J < n := by omega
        obtain ⟨S1, hS1⟩ : ∃ S1, seeO xs (i + 1) = S1 := ⟨_, rfl⟩
        have HS1 := Lib.hid hS1
        rw [hS1] at hw hwi
        clear hS1 hJ hy hbb HBt
        generalize seeO xs i = S0 at *
        go_wp2
        go_region
        go_wp2
        go_roundw
        case rel => exact ⟨i + 1, by omega, by rw [HS1.out], by go_num, Lib.hid HBk.out.drew⟩
        case measure => simp [intOf]; omega
    · obtain rfl : i = n := by omega
      have HB9 := Lib.hid (HB.out.trans (HBk.out.mono HB.out.size))
      obtain ⟨⟨e1, e2⟩, e3, e4⟩ := HF.out
      have c1 := HL.out.cell (i := 0) (by rw [HLen.out]; omega)
      obtain ⟨hx, _, _⟩ := HO4.out 0 (by omega)
      rw [hx, HO2.out] at c1
      rw [HO3.out]
      have i0 : (0 : Int) < (i : Int) := by omega
      have i5 : 0 < i := by omega
      have i6 : min i 64 = i := by omega
      clear hx
      go_wp2
      go_ret
      exact ⟨rfl, HB9.out⟩
end Go.Proofs.Ytaklmepioeoohaa
