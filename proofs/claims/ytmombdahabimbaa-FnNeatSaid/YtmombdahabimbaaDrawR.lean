/- Drawing for chapter 6: neat sets. -/
import Derived.Test.YtmombdahabimbaaDrawP
namespace Go.Proofs.Ytmombdahabimbaa
open Go.RowKit Go.Shelf
set_option linter.unusedVariables false
theorem less_one (n s : Nat) (hs : s < 2 ^ n) (h2 : n ≤ 12) : bits .andNot .i64 (s : Int) 1 = ((lessN s 1 : Nat) : Int) := less_nat s 1 (by have := pow_le n h2; omega) (by omega)
theorem neat_arith (k c n : Nat) (hk2 : 2 ≤ k) (hk4 : k ≤ 4) (hc1 : 1 ≤ c) (hc3 : c ≤ 3) (hn : k * c = n) : 1 ≤ n ∧ n ≤ 12 ∧ k ≤ n ∧ n / k = c := by
  subst hn
  refine ⟨Nat.mul_pos (by omega) hc1, Nat.mul_le_mul hk4 hc3, Nat.le_mul_of_pos_right k hc1, Nat.mul_div_cancel_left c (by omega)⟩
set_option maxHeartbeats 2000000 in
theorem drawFreeNeat_any (W : World) (B len cap : Nat) (A : Option Addr) (f : Nat → Nat) (hC : Code W B A len f) (hB : B ≤ W.heap.size) (hlc : len ≤ cap) (hcap : cap ≤ 9223372036854775807) :
    Calls Try.prog 11 #[.slice A len cap] W (AtMost W 12) := by
  have HC := Lib.hid (open_any W B len cap A f hC hB hlc hcap)
  clear hC
  go_enter Try.func11, Try.ntmps11
  go_wp2_with fail
  refine HC.out.mono ?_
  rintro e w1 ⟨R, A', len', cap', rfl, hR, hl, hRd, hCd, hb1⟩
  have z1 := hb1.size
  have HRd : Hid (Reader w1 B R 0) := Lib.hid ⟨⟨A', len', cap', f, hRd, hCd, hl⟩, by omega⟩
  clear hRd hCd
  have HA := Lib.hid (Aside.refl R w1)
  go_wp2_with fail
  refine (draw_any w1 B R (0) 2 HRd.out (by omega) (by omega) (by omega)).mono ?_
  rintro e w2 ⟨d, rfl, hd2, hR2, hA2⟩
  have hd2 := hd2 (by omega)
  have HRd := Lib.hid hR2
  have HA := Lib.hid (HA.out.trans hA2)
  clear hR2 hA2
  by_cases hd0 : d = 0
  · subst hd0
    go_wp2_with fail
    refine (draw_any w2 B R (0 + 1) 3 HRd.out (by omega) (by omega) (by omega)).mono ?_
    rintro e w3 ⟨a, rfl, hd3, hR3, hA3⟩
    have hd3 := hd3 (by omega)
    have HRd := Lib.hid hR3
    have HA := Lib.hid (HA.out.trans hA3)
    clear hR3 hA3
    obtain ⟨k, hk⟩ : ∃ k : Nat, 2 + a = k := ⟨_, rfl⟩
    have hk2 : 2 ≤ k := by omega
    have hk4 : k ≤ 4 := by omega
    obtain ⟨x1, x2⟩ := wraps_at'' ((2 : Int) + (a : Int)) ((k : Int)) (by omega) (by omega)
    have Hm1 := Lib.hid x1
    have Hm2 := Lib.hid x2
    clear x1 x2
    clear hk hd3 hd2
    have m1 := Hm1.out
    have m2 := Hm2.out
    go_wp2_with fail
    clear m1 m2
    refine (draw_any w3 B R (0 + 1 + 1) 3 HRd.out (by omega) (by omega) (by omega)).mono ?_
    rintro e w4 ⟨b, rfl, hd4, hR4, hA4⟩
    have hd4 := hd4 (by omega)
    have HRd := Lib.hid hR4
    have HA := Lib.hid (HA.out.trans hA4)
    clear hR4 hA4
    obtain ⟨c, hc⟩ : ∃ c : Nat, 1 + b = c := ⟨_, rfl⟩
    have hc1 : 1 ≤ c := by omega
    have hc3 : c ≤ 3 := by omega
    obtain ⟨x1, x2⟩ := wraps_at'' ((1 : Int) + (b : Int)) ((c : Int)) (by omega) (by omega)
    have Hk1 := Lib.hid x1
    have Hk2 := Lib.hid x2
    clear x1 x2
    clear hc hd4
    obtain ⟨n, hn⟩ : ∃ n : Nat, k * c = n := ⟨_, rfl⟩
    obtain ⟨hn1, hn12, hnk, hnc⟩ := neat_arith k c n hk2 hk4 hc1 hc3 hn
    obtain ⟨x1, x2⟩ := wraps_at'' ((k : Int) * (c : Int)) ((n : Int)) (by rw [← hn]; exact (Int.natCast_mul k c).symm) (by omega)
    have Hl1 := Lib.hid x1
    have Hl2 := Lib.hid x2
    clear x1 x2
    have Hq1 : Hid (Int.tdiv (n : Int) (k : Int) = (c : Int)) := Lib.hid (by rw [← hnc]; rfl)
    have Hq2 : Hid ((n : Int) / (k : Int) = (c : Int)) := Lib.hid (by rw [← hnc]; rfl)
    have Hz1 : Hid (((k : Int) = 0) = False) := Lib.hid (by simp; omega)
    have Hz2 : Hid (((k : Int) == 0) = false) := Lib.hid (by simp; omega)
    have Hz3 : Hid (((n : Int) = 0) = False) := Lib.hid (by simp; omega)
    have Hz4 : Hid (((n : Int) == 0) = false) := Lib.hid (by simp; omega)
    have Hz5 : Hid ((k = 0) = False) := Lib.hid (by simp; omega)
    have Hz6 : Hid ((n = 0) = False) := Lib.hid (by simp; omega)
    clear hn hnk hnc
    have hpw := pow_le n hn12
    have k1 := Hk1.out
    have k2 := Hk2.out
    have m1 := Hm1.out
    have m2 := Hm2.out
    have l1 := Hl1.out
    have l2 := Hl2.out
    go_wp2
    clear k1 k2 m1 m2 l1 l2
    have h1p := one_lt n hn1
    go_loopw [7, 8] (fun u v wr => ∃ j s q : Nat, 1 ≤ j ∧ j ≤ k ∧ s < 2 ^ n ∧ q ≤ 3 + j ∧ u = .int .i64 (s : Int) ∧ v = .int .i64 (j : Int) ∧ Reader wr B R q ∧ Aside R w1 wr) (fun _ v _ => k - (intOf v).toNat)
    case atStart => exact ⟨1, 0, 0 + 1 + 1 + 1, by omega, by omega, Nat.two_pow_pos n, by omega, rfl, rfl, HRd.out, HA.out⟩
    case round =>
      obtain ⟨j, s, q, hj1, hj, hs, hq, rfl, rfl, hR3, hA3⟩ := hrel
      have HRd := Lib.hid hR3
      have HA := Lib.hid hA3
      clear hR3 hA3
      by_cases hlt : j < k
      · have HDr := Lib.hid (draw_any wr B R q (c : Int) HRd.out (by omega) (by omega) (by omega))
        have q1 := Hq1.out
        have q2 := Hq2.out
        have z1 := Hz1.out
        have z2 := Hz2.out
        have z5 := Hz5.out
        go_wp2_with fail
        clear q1 q2 z1 z2 z5
        refine HDr.out.mono ?_
        rintro e w9 ⟨x, rfl, hx, hR9, hA9⟩
        have hx := hx (by omega)
        have HRd := Lib.hid hR9
        have HA := Lib.hid (HA.out.trans hA9)
        clear hR9 hA9 HDr
        obtain ⟨P, hP⟩ : ∃ P : Nat, k * x = P := ⟨_, rfl⟩
        have hP9 : P ≤ 36 := by rw [← hP]; exact Nat.mul_le_mul hk4 (show x ≤ 9 by omega)
        obtain ⟨T, hT⟩ : ∃ T : Nat, j + P = T := ⟨_, rfl⟩
        obtain ⟨r, hr⟩ : ∃ r : Nat, T % n = r := ⟨_, rfl⟩
        have hrn : r < n := by rw [← hr]; exact Nat.mod_lt _ hn1
        have Hr1 : Hid (Int.tmod (T : Int) (n : Int) = (r : Int)) := Lib.hid (by rw [← hr]; rfl)
        have Hr2 : Hid ((T : Int) % (n : Int) = (r : Int)) := Lib.hid (by rw [← hr]; rfl)
        clear hr
        obtain ⟨x1, x2⟩ := wraps_at'' ((k : Int) * (x : Int)) ((P : Int)) (by rw [← hP]; exact (Int.natCast_mul k x).symm) (by omega)
        have Hu1 := Lib.hid x1
        have Hu2 := Lib.hid x2
        clear x1 x2
        obtain ⟨x1, x2⟩ := wraps_at'' ((j : Int) + (P : Int)) ((T : Int)) (by omega) (by omega)
        have Hv1 := Lib.hid x1
        have Hv2 := Lib.hid x2
        clear x1 x2
        obtain ⟨x1, x2⟩ := wraps_at'' ((r : Int)) ((r : Int)) (rfl) (by omega)
        have Hw1 := Lib.hid x1
        have Hw2 := Lib.hid x2
        clear x1 x2
        have Hp1 := Lib.hid (wrap_pow r (by omega))
        have Hp2 := Lib.hid (wrap_powI r (by omega))
        have hol := or_pow_lt n s r hs hrn
        have Ho1 := Lib.hid (or_small s (2 ^ r) (by omega) (by have := Nat.pow_lt_pow_right (a := 2) (by omega) (show r < 12 by omega); omega))
        have Ho2 : Hid (bits .or .i64 (s : Int) ((2 : Int) ^ r) = ((s ||| 2 ^ r : Nat) : Int)) := Lib.hid (by rw [← cast_pow]; exact Ho1.out)
        have Hz7 : Hid ((0 : Int) ≤ (r : Int)) := Lib.hid (by omega)
        have Hz8 : Hid (min r 64 = r) := Lib.hid (by omega)
        clear hP hT
        have r1 := Hr1.out
        have r2 := Hr2.out
        have u1 := Hu1.out
        have u2 := Hu2.out
        have v1 := Hv1.out
        have v2 := Hv2.out
        have w1 := Hw1.out
        have w2 := Hw2.out
        have p1 := Hp1.out
        have p2 := Hp2.out
        have o1 := Ho1.out
        have o2 := Ho2.out
        have z3 := Hz3.out
        have z4 := Hz4.out
        have z6 := Hz6.out
        have z7 := Hz7.out
        have z8 := Hz8.out
        go_wp2
        clear r1 r2 u1 u2 v1 v2 w1 w2 p1 p2 o1 o2 z3 z4 z6 z7 z8
        go_roundw
        case rel => exact ⟨j + 1, _, q + 1, by omega, by omega, hol, by omega, rfl, by go_num, HRd.out, HA.out⟩
        case measure => simp [intOf]; omega
      · obtain rfl : j = k := by omega
        have Hl := Lib.hid (less_one n s hs hn12)
        have hll := lessN_lt (n := n) 1 hs
        have HB2 := Lib.hid (hb1.trans (HA.out.below (m := W.heap.size) hR z1))
        have l9 := Hl.out
        go_wp2
        go_ret2
        exact ⟨n, _, rfl, hn1, hn12, hll, HB2.out⟩
  · have e1 : ((d : Int) == 0) = false := by simp; omega
    go_wp2_with fail
    refine (stepM_any w2 B R (0 + 1) 10 (by omega) (by omega) HRd.out (by omega)).mono ?_
    rintro e w3 ⟨n, s, q, rfl, hn1, hn2, hs, hq, hR3, hA3⟩
    have HB2 := Lib.hid (hb1.trans ((HA.out.trans hA3).below (m := W.heap.size) hR z1))
    clear hR3 hA3
    go_wp2
    go_ret2
    exact ⟨n, s, rfl, hn1, by omega, hs, HB2.out⟩
end Go.Proofs.Ytmombdahabimbaa
