/- The laws FnNext and FnCuts. -/
import Derived.Test.YtgadlhcgaeilcaaStepD
import Derived.Test.YtgadlhcgaeilcaaStepQ
import Derived.Test.YtgadlhcgaeilcaaStepWB
import Derived.Test.YtgadlhcgaeilcaaStepSB
import Derived.Test.YtgadlhcgaeilcaaPost
namespace Go.Proofs.Ytgadlhcgaeilcaa
open Go.RowKit Go.Shelf
set_option linter.unusedVariables false
set_option maxHeartbeats 1000000 in
theorem place_any (W : World) (B len cap : Nat) (A : Option Addr) (f : Nat → Nat) (hC : Code W B A len f) (hB : B ≤ W.heap.size) (hlc : len ≤ cap) (hcap : cap ≤ 9223372036854775807) :
    Calls Try.prog 51 #[.slice A len cap] W (PlacePost W) := by
  have HC := Lib.hid (open_any W B len cap A f hC hB hlc hcap)
  clear hC
  go_enter Try.func51, Try.ntmps51
  go_wp2_with fail
  refine HC.out.mono ?_
  rintro e w1 ⟨R, A', len', cap', rfl, hR, hl, hRd, hCd, hb1⟩
  have z1 := hb1.size
  have HRd : Hid (Reader w1 B R 0) := Lib.hid ⟨⟨A', len', cap', f, hRd, hCd, hl⟩, by omega⟩
  clear hRd hCd
  go_wp2_with fail
  refine (step_any w1 B R 0 HRd.out (by omega)).mono ?_
  rintro e w2 ⟨n, s, q, rfl, hn1, hn2, hs, hq, hR2, hA2⟩
  have HR2 := Lib.hid hR2
  have HB2 := Lib.hid (hb1.trans (hA2.below (m := W.heap.size) hR z1))
  have z2 := HB2.out.size
  clear hR2 hA2
  go_wp2_with fail
  refine (draw_any w2 B R q 24 HR2.out (by omega) (by omega) (by omega)).mono ?_
  rintro e w3 ⟨d, rfl, hd, hR3, hA3⟩
  have hd3 := hd (by omega)
  have HR3 := Lib.hid hR3
  have HB3 := Lib.hid (HB2.out.trans (hA3.below (m := W.heap.size) hR z2))
  have z3 := HB3.out.size
  clear hR3 hA3 hd
  by_cases hd23 : d = 23
  all_goals
    first
      | subst hd23
      | (have hq1 : (d : Int) / 23 = 0 := by omega
         have hq2 : Int.tdiv (d : Int) 23 = 0 := by rw [Int.tdiv_eq_ediv_of_nonneg (by omega)]; exact hq1)
    go_wp2_with fail
    refine (draw_any w3 B R (q + 1) _ HR3.out (by omega) (by omega) (by omega)).mono ?_
    rintro e w4 ⟨v, rfl, hv, hR4, hA4⟩
    have hv4 := hv (by omega)
    have HR4 := Lib.hid hR4
    have HB4 := Lib.hid (HB3.out.trans (hA4.below (m := W.heap.size) hR z3))
    have z4 := HB4.out.size
    clear hR4 hA4 hv
    go_wp2_with fail
    refine (draw_any w4 B R (q + 1 + 1) 24 HR4.out (by omega) (by omega) (by omega)).mono ?_
    rintro e w5 ⟨c, rfl, hc, hR5, hA5⟩
    have hc5 := hc (by omega)
    have HB5 := Lib.hid (HB4.out.trans (hA5.below (m := W.heap.size) hR z4))
    clear hR5 hA5 hc
    by_cases hc23 : c = 23
    all_goals
      first
        | subst hc23
        | (have hq3 : (c : Int) / 23 = 0 := by omega
           have hq4 : Int.tdiv (c : Int) 23 = 0 := by rw [Int.tdiv_eq_ediv_of_nonneg (by omega)]; exact hq3)
      go_wp2
      go_ret3
      exact ⟨n, s, _, rfl, hn1, hn2, hs, by omega, by omega, HB5.out⟩
theorem drawStepNext_any (W : World) (B len cap : Nat) (A : Option Addr) (f : Nat → Nat) (hC : Code W B A len f) (hB : B ≤ W.heap.size) (hlc : len ≤ cap) (hcap : cap ≤ 9223372036854775807) :
    Calls Try.prog 26 #[.slice A len cap] W (PlacePost W) := by
  have HC := Lib.hid (place_any W B len cap A f hC hB hlc hcap)
  clear hC
  go_enter Try.func26, Try.ntmps26
  go_wp2_with fail
  refine HC.out.mono ?_
  rintro e w1 ⟨n, s, v, rfl, hn1, hn2, hs, hv1, hv2, hb⟩
  go_wp2
  go_ret3
  exact ⟨n, s, v, rfl, hn1, hn2, hs, hv1, hv2, hb⟩
def CutsPost (W : World) (e : Ending) (w' : World) : Prop :=
  ∃ n s t : Nat, e = .returned (.tuple #[.int .i64 (n : Int), .int .i64 (s : Int), .int .i64 (t : Int)]) ∧ 1 ≤ n ∧ n ≤ 12 ∧ s < 2 ^ n ∧ t < 2 ^ n ∧ Below W.heap.size W w'
theorem or_zero (t : Nat) (ht : t < 2 ^ 40) : bits .or .i64 (t : Int) 0 = (t : Int) := by
  rw [show (0 : Int) = ((0 : Nat) : Int) from rfl, or_nat t 0 (by omega) (by omega), Nat.or_zero]
set_option maxHeartbeats 1000000 in
theorem drawStepCuts_any (W : World) (B len cap : Nat) (A : Option Addr) (f : Nat → Nat) (hC : Code W B A len f) (hB : B ≤ W.heap.size) (hlc : len ≤ cap) (hcap : cap ≤ 9223372036854775807) :
    Calls Try.prog 36 #[.slice A len cap] W (CutsPost W) := by
  have HC := Lib.hid (open_any W B len cap A f hC hB hlc hcap)
  clear hC
  go_enter Try.func36, Try.ntmps36
  go_wp2_with fail
  refine HC.out.mono ?_
  rintro e w1 ⟨R, A', len', cap', rfl, hR, hl, hRd, hCd, hb1⟩
  have z1 := hb1.size
  have HRd : Hid (Reader w1 B R 0) := Lib.hid ⟨⟨A', len', cap', f, hRd, hCd, hl⟩, by omega⟩
  clear hRd hCd
  go_wp2_with fail
  refine (step_any w1 B R 0 HRd.out (by omega)).mono ?_
  rintro e w2 ⟨n, s, q, rfl, hn1, hn2, hs, hq, hR2, hA2⟩
  have HR2 := Lib.hid hR2
  have HB2 := Lib.hid (hb1.trans (hA2.below (m := W.heap.size) hR z1))
  have hpw := pow_le n hn2
  clear hR2 hA2
  go_wp2
  go_loopw [8, 9] (fun u v wr => ∃ k t q : Nat, k ≤ n ∧ t < 2 ^ n ∧ q ≤ 20 + k ∧ u = .int .i64 (t : Int) ∧ v = .int .i64 (k : Int) ∧ Reader wr B R q ∧ Below W.heap.size W wr) (fun _ v _ => n - (intOf v).toNat)
  case atStart => exact ⟨0, 0, q, Nat.zero_le _, Nat.two_pow_pos n, by omega, rfl, rfl, HR2.out, HB2.out⟩
  case round =>
    obtain ⟨k, t, q, hk, ht, hq, rfl, rfl, hR3, hB3⟩ := hrel
    have HR3 := Lib.hid hR3
    have HB3 := Lib.hid hB3
    have z3 := hB3.size
    clear hR3 hB3
    by_cases hlt : k < n
    · go_wp2_with fail
      refine (draw_any wr B R q 2 HR3.out (by omega) (by omega) (by omega)).mono ?_
      rintro e w3 ⟨d, rfl, hd, hR4, hA4⟩
      have hd2 := hd (by omega)
      have HR4 := Lib.hid hR4
      have HB4 := Lib.hid (HB3.out.trans (hA4.below (m := W.heap.size) hR z3))
      clear hR4 hA4 hd
      by_cases hd0 : d = 0
      · subst hd0
        have hor := or_zero t (by omega)
        go_wp2
        go_roundw
        case rel => exact ⟨k + 1, t, q + 1, by omega, ht, by omega, rfl, by go_num, HR4.out, HB4.out⟩
        case measure => simp [intOf]; omega
      · obtain rfl : d = 1 := by omega
        have hw := with_nat t k (by omega) (by omega)
        have hl := or_pow_lt n t k ht hlt
        go_wp2
        go_roundw
        case rel => exact ⟨k + 1, t ||| 2 ^ k, q + 1, by omega, hl, by omega, by first | rfl | go_num | (trace_state; fail), by go_num, HR4.out, HB4.out⟩
        case measure => simp [intOf]; omega
    · have e : k = n := by omega
      subst e
      go_wp2
      go_ret3
      exact ⟨k, s, t, rfl, hn1, hn2, hs, ht, HB3.out⟩
theorem law_PNext (W : World) (B len cap : Nat) (A : Option Addr) (f : Nat → Nat) (hC : Code W B A len f) (hB : B ≤ W.heap.size) (hlc : len ≤ cap) (hcap : cap ≤ 9223372036854775807) :
    Calls Try.prog 7 #[.slice A len cap] W fun e w' => e = .returned (.bool true) ∧ Below W.heap.size W w' := by
  have HC := Lib.hid (drawStepNext_any W B len cap A f hC hB hlc hcap)
  clear hC
  by_cases hlen : (1048576 : Int) < (len : Int)
  · go_enter Try.func7, Try.ntmps7
    go_wp2
    go_ret
    exact ⟨rfl, Below.refl _ _⟩
  · go_enter Try.func7, Try.ntmps7
    go_wp2_with fail
    refine HC.out.mono ?_
    rintro e w1 ⟨n, s, v, rfl, h1, h2, h3, hv1, hv2, hb1⟩
    have HB := Lib.hid hb1
    clear hb1 hB hlc hcap
    by_cases hno : NoStep (n : Int) (s : Int)
    · have HN := Lib.hid hno
      clear hno
      go_wp2_with fail
      refine (implStepNext_no n s v _ HN.out).mono ?_
      rintro e w2 ⟨rfl, hb2⟩
      have HB := Lib.hid (HB.out.trans (hb2.mono HB.out.size))
      clear hb2
      go_wp2_with fail
      refine (specStepNext_no n s v _ HN.out).mono ?_
      rintro e w3 ⟨rfl, rfl⟩
      go_wp2
      go_ret
      exact ⟨rfl, HB.out⟩
    · have h4 : s.testBit 0 = false := by
        obtain ⟨n', s', hn', hs', _, _, _, h4⟩ := not_noStep hno
        obtain rfl : s = s' := by omega
        exact h4
      clear hno
      by_cases hv : 0 ≤ v ∧ v < (n:Int)
      · obtain ⟨hv3, hv4⟩ := hv
        obtain ⟨u, rfl⟩ : ∃ u : Nat, v = (u : Int) := ⟨v.toNat, by omega⟩
        have hpw := pow_le n h2
        have hol := shiftN_lt n s (u : Int)
        have hbt := has_nat0 (shiftN n s (u : Int)) u (by omega)
        rw [shift_self_bit n s u h1 h3 h4 (by omega)] at hbt
        have him := fun W => implStepNext_yes n s (u : Int) W h1 h2 h3 h4 hv3 hv4
        have hsp := fun W => specStepNext_yes n s (u : Int) W h1 h2 h3 h4 hv3 hv4
        have hsh := fun W => implShift_yes n s (u : Int) W h1 h2 h3 (by omega) (by omega)
        have hsa := fun W => size_any (shiftN n s (u : Int)) W (by omega)
        rw [size_shift n s (u : Int) h1 h2 h3] at hsa
        have hsb := fun W => size_any s W (by omega)
        generalize shiftN n s (u : Int) = o at *
        generalize sizeN s = z at *
        have HIm := Lib.hid him
        have HSp := Lib.hid hsp
        have HSh := Lib.hid hsh
        have HSa := Lib.hid hsa
        have HSb := Lib.hid hsb
        clear him hsp hsh hsa hsb
        go_wp2_with fail
        refine (HIm.out _).mono ?_
        rintro e w2 ⟨rfl, hb2⟩
        have HB := Lib.hid (HB.out.trans (hb2.mono HB.out.size))
        clear hb2
        go_wp2_with fail
        refine (HSp.out _).mono ?_
        rintro e w3 ⟨rfl, rfl⟩
        go_wp2_with fail
        refine (HSh.out _).mono ?_
        rintro e w4 ⟨rfl, hb4⟩
        have HB := Lib.hid (HB.out.trans (hb4.mono HB.out.size))
        clear hb4
        go_wp2_with fail
        refine (HSa.out _).mono ?_
        rintro e w5 ⟨rfl, rfl⟩
        go_wp2_with fail
        refine (HSb.out _).mono ?_
        rintro e w6 ⟨rfl, rfl⟩
        go_wp2
        go_ret
        exact ⟨rfl, HB.out⟩
      · have HV := Lib.hid hv
        clear hv
        go_wp2_with fail
        refine (implStepNext_move n s v _ h1 h2 h3 h4 HV.out).mono ?_
        rintro e w2 ⟨rfl, hb2⟩
        have HB := Lib.hid (HB.out.trans (hb2.mono HB.out.size))
        clear hb2
        go_wp2_with fail
        refine (specStepNext_move n s v _ h1 h2 h3 h4 HV.out).mono ?_
        rintro e w3 ⟨rfl, rfl⟩
        go_wp2
        go_ret
        exact ⟨rfl, HB.out⟩
set_option maxHeartbeats 2000000 in
theorem law_PCuts (W : World) (B len cap : Nat) (A : Option Addr) (f : Nat → Nat) (hC : Code W B A len f) (hB : B ≤ W.heap.size) (hlc : len ≤ cap) (hcap : cap ≤ 9223372036854775807) :
    Calls Try.prog 10 #[.slice A len cap] W fun e w' => e = .returned (.bool true) ∧ Below W.heap.size W w' := by
  have HC := Lib.hid (drawStepCuts_any W B len cap A f hC hB hlc hcap)
  clear hC
  by_cases hlen : (1048576 : Int) < (len : Int)
  · go_enter Try.func10, Try.ntmps10
    go_wp2
    go_ret
    exact ⟨rfl, Below.refl _ _⟩
  · go_enter Try.func10, Try.ntmps10
    go_wp2_with fail
    refine HC.out.mono ?_
    rintro e w1 ⟨n, s, t, rfl, h1, h2, h3, h5, hb1⟩
    have HB := Lib.hid hb1
    clear hb1 hB hlc hcap
    by_cases hno : NoStep (n : Int) (s : Int)
    · have HN := Lib.hid hno
      clear hno
      go_wp2_with fail
      refine (implStepCuts_no n s t _ HN.out).mono ?_
      rintro e w2 ⟨rfl, hb2⟩
      have HB := Lib.hid (HB.out.trans (hb2.mono HB.out.size))
      clear hb2
      go_wp2_with fail
      refine (specStepCuts_no n s t _ HN.out).mono ?_
      rintro e w3 ⟨rfl, rfl⟩
      go_wp2
      go_ret
      exact ⟨rfl, HB.out⟩
    · have h4 : s.testBit 0 = false := by
        obtain ⟨n', s', hn', hs', _, _, _, h4⟩ := not_noStep hno
        obtain rfl : s = s' := by omega
        exact h4
      clear hno
      have hpw := pow_le n h2
      have hp1 := Nat.two_pow_pos n
      have hall := all_nat n h2
      have him := fun W => implStepCuts_yes n s t W h1 h2 h3 h4 h5
      have hsp := fun W => specStepCuts_yes n s t W h1 h2 h3 h4 h5
      have hib := fun W => implStepCuts_yes n s (2 ^ n - 1 - t) W h1 h2 h3 h4 (by omega)
      rw [cut_back n s t h1 h2 h3 h5] at hib
      have hc0 := cut_none n s
      have hc1 := cut_full n s h1 h2 h3
      have hz : t = 0 → cutsN n s t = 0 := fun e => by rw [e, hc0]
      have hz1 : t = 2 ^ n - 1 → cutsN n s t = 0 := fun e => by rw [e, hc1]
      have hsub : IntKind.i64.wrap (((2 ^ n - 1 : Nat) : Int) - (t : Int)) = ((2 ^ n - 1 - t : Nat) : Int) := by rw [IntWalk.i64_in _ (by omega)]; omega
      have hal : 2 ^ n - 1 < 4096 := by omega
      clear hc0 hc1
      generalize cutsN n s t = o at *
      generalize hL : 2 ^ n - 1 = al at *
      obtain ⟨c, hc⟩ : ∃ c, al - t = c := ⟨_, rfl⟩
      rw [hc] at hsub hib
      have HIm := Lib.hid him
      have HSp := Lib.hid hsp
      have HIb := Lib.hid hib
      clear him hsp hib hL
      by_cases ht0 : t = 0
      · have ho := hz ht0
        subst ht0
        subst ho
        obtain rfl : al = c := by omega
        clear hz hz1 hc
        go_wp2_with fail
        refine (HIm.out _).mono ?_
        rintro e w2 ⟨rfl, hb2⟩
        have HB := Lib.hid (HB.out.trans (hb2.mono HB.out.size))
        clear hb2
        go_wp2_with fail
        refine (HSp.out _).mono ?_
        rintro e w3 ⟨rfl, rfl⟩
        go_wp2_with fail
        refine (HIb.out _).mono ?_
        rintro e w4 ⟨rfl, hb4⟩
        have HB := Lib.hid (HB.out.trans (hb4.mono HB.out.size))
        clear hb4
        go_wp2
        go_ret
        exact ⟨rfl, HB.out⟩
      · have htz : ((t : Int) == 0) = false := by simp; omega
        have htz2 : ((t : Int) != 0) = true := by simp; omega
        by_cases ht1 : t = al
        · have ho := hz1 ht1
          subst ht1
          subst ho
          obtain rfl : c = 0 := by omega
          clear hz hz1 hc
          go_wp2_with fail
          refine (HIm.out _).mono ?_
          rintro e w2 ⟨rfl, hb2⟩
          have HB := Lib.hid (HB.out.trans (hb2.mono HB.out.size))
          clear hb2
          go_wp2_with fail
          refine (HSp.out _).mono ?_
          rintro e w3 ⟨rfl, rfl⟩
          go_wp2_with fail
          refine (HIb.out _).mono ?_
          rintro e w4 ⟨rfl, hb4⟩
          have HB := Lib.hid (HB.out.trans (hb4.mono HB.out.size))
          clear hb4
          go_wp2
          go_ret
          exact ⟨rfl, HB.out⟩
        · have htn : ((t : Int) == (al : Int)) = false := by simp; omega
          have htn2 : ((t : Int) != (al : Int)) = true := by simp; omega
          clear hz hz1 hc
          go_wp2_with fail
          refine (HIm.out _).mono ?_
          rintro e w2 ⟨rfl, hb2⟩
          have HB := Lib.hid (HB.out.trans (hb2.mono HB.out.size))
          clear hb2
          go_wp2_with fail
          refine (HSp.out _).mono ?_
          rintro e w3 ⟨rfl, rfl⟩
          go_wp2_with fail
          refine (HIb.out _).mono ?_
          rintro e w4 ⟨rfl, hb4⟩
          have HB := Lib.hid (HB.out.trans (hb4.mono HB.out.size))
          clear hb4
          go_wp2
          go_ret
          exact ⟨rfl, HB.out⟩
end Go.Proofs.Ytgadlhcgaeilcaa
