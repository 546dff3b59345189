/- The law FnRing: sets have others. -/
import Derived.Test.YtodiliabjaiecaaPSum
import Derived.Test.YtodiliabjaiecaaRingC
namespace Go.Proofs.Ytodiliabjaiecaa
open Go.RowKit Go.Shelf
set_option linter.unusedVariables false
def PairPost (W : World) (e : Ending) (w' : World) : Prop :=
  ∃ x y : Int, e = .returned (.tuple #[.int .i64 x, .int .i64 y]) ∧ Below W.heap.size W w'
set_option maxHeartbeats 600000 in
theorem drawIn_any (W : World) (B len cap : Nat) (A : Option Addr) (f : Nat → Nat) (hC : Code W B A len f) (hB : B ≤ W.heap.size) (hlc : len ≤ cap) (hcap : cap ≤ 9223372036854775807) :
    Calls Try.prog 17 #[.slice A len cap] W (PairPost W) := by
  have HC := Lib.hid (open_any W B len cap A f hC hB hlc hcap)
  clear hC
  go_enter Try.func17, Try.ntmps17
  go_wp2_with fail
  refine HC.out.mono ?_
  rintro e w1 ⟨R, A', len', cap', rfl, hR, hl, hRd, hCd, hb1⟩
  have z1 := hb1.size
  have HRd : Hid (Reader w1 B R 0) := Lib.hid ⟨⟨A', len', cap', f, hRd, hCd, hl⟩, by omega⟩
  clear hRd hCd
  go_wp2_with fail
  refine (set_any w1 B R 0 HRd.out (by omega)).mono ?_
  rintro e w2 ⟨n, s, q, rfl, hn1, hn2, hs, hq, hR2, hA2⟩
  have HR2 := Lib.hid hR2
  have HB2 := Lib.hid (hb1.trans (hA2.below (m := W.heap.size) hR z1))
  have z2 := HB2.out.size
  clear hR2 hA2
  go_wp2_with fail
  refine (draw_any w2 B R q 24 HR2.out (by omega) (by omega) (by omega)).mono ?_
  rintro e w3 ⟨d, rfl, hd, hR3, hA3⟩
  have hd3 := hd (by omega)
  have HR3 := Lib.hid hR3
  have HB3 := Lib.hid (HB2.out.trans (hA3.below (m := W.heap.size) hR z2))
  have z3 := HB3.out.size
  clear hR3 hA3 hd
  by_cases hd23 : d = 23
  all_goals
    first
      | subst hd23
      | (have hq1 : (d : Int) / 23 = 0 := by omega
         have hq2 : Int.tdiv (d : Int) 23 = 0 := by rw [Int.tdiv_eq_ediv_of_nonneg (by omega)]; exact hq1)
    go_wp2_with fail
    refine (draw_any w3 B R (q + 1) 24 HR3.out (by omega) (by omega) (by omega)).mono ?_
    rintro e w4 ⟨c, rfl, hc, hR4, hA4⟩
    have hc3 := hc (by omega)
    have HB4 := Lib.hid (HB3.out.trans (hA4.below (m := W.heap.size) hR z3))
    clear hR4 hA4 hc
    by_cases hc23 : c = 23
    all_goals
      first
        | subst hc23
        | (have hq3 : (c : Int) / 23 = 0 := by omega
           have hq4 : Int.tdiv (c : Int) 23 = 0 := by rw [Int.tdiv_eq_ediv_of_nonneg (by omega)]; exact hq3)
      go_wp2
      go_ret2
      exact ⟨_, _, rfl, HB4.out⟩
theorem sum_one (n s : Nat) (h1 : 1 ≤ n) (hs : s < 2 ^ n) : sumN n s 1 = s := by
  have h0 : ∀ v : Nat, (1 : Nat).testBit v = true ↔ v = 0 := fun v => by
    rw [show (1 : Nat) = 2 ^ 0 from rfl, Nat.testBit_two_pow, decide_eq_true_eq]; omega
  refine Nat.eq_of_testBit_eq fun i => ?_
  rw [Bool.eq_iff_iff, sumN_bit n s 1 i h1 hs]
  constructor
  · rintro ⟨v, w, h2, h3, h4, h5, h6⟩
    obtain rfl := (h0 v).1 h3
    rw [Nat.zero_add, Nat.mod_eq_of_lt h4] at h6
    rw [← h6]; exact h5
  · intro h
    have hi := lt_of_bits n s hs i h
    exact ⟨0, i, by omega, (h0 0).2 rfl, hi, h, by rw [Nat.zero_add, Nat.mod_eq_of_lt hi]⟩
theorem law_Ring (W : World) (B len cap : Nat) (A : Option Addr) (f : Nat → Nat) (hC : Code W B A len f) (hB : B ≤ W.heap.size) (hlc : len ≤ cap) (hcap : cap ≤ 9223372036854775807) :
    Calls Try.prog 3 #[.slice A len cap] W fun e w' => e = .returned (.bool true) ∧ Below W.heap.size W w' := by
  have HC := Lib.hid (drawIn_any W B len cap A f hC hB hlc hcap)
  clear hC
  by_cases hlen : (1048576 : Int) < (len : Int)
  · go_enter Try.func3, Try.ntmps3
    go_wp2
    go_ret
    exact ⟨rfl, Below.refl _ _⟩
  · go_enter Try.func3, Try.ntmps3
    go_wp2_with fail
    refine HC.out.mono ?_
    rintro e w1 ⟨x, y, rfl, hb1⟩
    have z1 := hb1.size
    by_cases hno : NotIn x y
    · have HN := Lib.hid hno
      clear hno
      go_wp2_with fail
      refine (implIn_no x y _ HN.out).mono ?_
      rintro e w2 ⟨rfl, hb2⟩
      go_wp2_with fail
      refine (specIn_no x y _ HN.out).mono ?_
      rintro e w3 ⟨rfl, rfl⟩
      go_wp2
      go_ret
      exact ⟨rfl, hb1.trans (hb2.mono z1)⟩
    · obtain ⟨n, s, rfl, rfl, h1, h2, h3⟩ := not_notIn hno
      clear hno
      have hpw := pow_le n h2
      have hp1 : 1 < 2 ^ n := Nat.one_lt_two_pow (by omega)
      have hall := all_nat n h2
      have him := fun W => implIn_yes n s W h1 h2 h3
      have hsp := fun W => specIn_yes n s W h1 h2 h3
      have hs1 := fun W => implSum_yes n s 1 W h1 h2 h3 hp1
      have hs2 := fun W => implSum_yes n (2 ^ n - 1 - s) 1 W h1 h2 (by omega) hp1
      have hi2 := fun W => implIn_yes n (2 ^ n - 1 - s) W h1 h2 (by omega)
      rw [sum_one n s h1 h3] at hs1
      rw [sum_one n _ h1 (by omega)] at hs2
      have HIm := Lib.hid him
      have HSp := Lib.hid hsp
      have HS1 := Lib.hid hs1
      obtain ⟨p, hp⟩ : ∃ p, 2 ^ n - 1 = p := ⟨_, rfl⟩
      rw [hp] at hall hs2 hi2
      have hps : s ≤ p := by omega
      have hpp : p ≤ 4095 := by omega
      clear hp hp1 hpw h3
      obtain ⟨o, ho⟩ : ∃ o, p - s = o := ⟨_, rfl⟩
      rw [ho] at hs2 hi2
      have hoI : (p : Int) - (s : Int) = (o : Int) := by omega
      have hob : o ≤ 4095 := by omega
      clear ho
      have HS2 := Lib.hid hs2
      have HI2 := Lib.hid hi2
      clear him hsp hs1 hs2 hi2
      go_wp2_with fail
      refine (HIm.out _).mono ?_
      rintro e w2 ⟨rfl, hb2⟩
      have z2 := hb2.size
      go_wp2_with fail
      refine (HSp.out _).mono ?_
      rintro e w3 ⟨rfl, rfl⟩
      go_wp2_with fail
      refine (HS1.out _).mono ?_
      rintro e w4 ⟨rfl, hb4⟩
      have z4 := hb4.size
      go_wp2_with fail
      refine (HS2.out _).mono ?_
      rintro e w5 ⟨rfl, hb5⟩
      have z5 := hb5.size
      go_wp2_with fail
      refine (HI2.out _).mono ?_
      rintro e w6 ⟨rfl, hb6⟩
      go_wp2
      go_ret
      exact ⟨rfl, (((hb1.trans (hb2.mono z1)).trans (hb4.mono (by omega))).trans (hb5.mono (by omega))).trans (hb6.mono (by omega))⟩
end Go.Proofs.Ytodiliabjaiecaa
