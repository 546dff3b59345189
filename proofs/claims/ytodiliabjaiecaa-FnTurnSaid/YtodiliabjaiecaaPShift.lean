/- The law FnShift: shifts lead back. -/
import Derived.Test.YtodiliabjaiecaaPSum
import Derived.Test.YtodiliabjaiecaaDavenport
namespace Go.Proofs.Ytodiliabjaiecaa
open Go.RowKit Go.Shelf
set_option linter.unusedVariables false
def MovePost (W : World) (e : Ending) (w' : World) : Prop :=
  ∃ (n s : Nat) (k : Int), e = .returned (.tuple #[.int .i64 (n : Int), .int .i64 (s : Int), .int .i64 k]) ∧ 1 ≤ n ∧ n ≤ 13 ∧ s < 2 ^ 13 ∧ -20 ≤ k ∧ k ≤ 120 ∧ Below W.heap.size W w'
set_option maxHeartbeats 600000 in
theorem drawShift_any (W : World) (B len cap : Nat) (A : Option Addr) (f : Nat → Nat) (hC : Code W B A len f) (hB : B ≤ W.heap.size) (hlc : len ≤ cap) (hcap : cap ≤ 9223372036854775807) :
    Calls Try.prog 21 #[.slice A len cap] W (MovePost W) := by
  have HC := Lib.hid (open_any W B len cap A f hC hB hlc hcap)
  clear hC
  go_enter Try.func21, Try.ntmps21
  go_wp2_with fail
  refine HC.out.mono ?_
  rintro e w1 ⟨R, A', len', cap', rfl, hR, hl, hRd, hCd, hb1⟩
  have z1 := hb1.size
  have HRd : Hid (Reader w1 B R 0) := Lib.hid ⟨⟨A', len', cap', f, hRd, hCd, hl⟩, by omega⟩
  clear hRd hCd
  go_wp2_with fail
  refine (set_any w1 B R 0 HRd.out (by omega)).mono ?_
  rintro e w2 ⟨n, s, q, rfl, hn1, hn2, hs, hq, hR2, hA2⟩
  have HR2 := Lib.hid hR2
  have HB2 := Lib.hid (hb1.trans (hA2.below (m := W.heap.size) hR z1))
  have z2 := HB2.out.size
  clear hR2 hA2
  go_wp2_with fail
  refine (draw_any w2 B R q 41 HR2.out (by omega) (by omega) (by omega)).mono ?_
  rintro e w3 ⟨d, rfl, hd, hR3, hA3⟩
  have hd3 := hd (by omega)
  have HR3 := Lib.hid hR3
  have HB3 := Lib.hid (HB2.out.trans (hA3.below (m := W.heap.size) hR z2))
  have z3 := HB3.out.size
  clear hR3 hA3 hd
  go_wp2_with fail
  refine (draw_any w3 B R (q + 1) 24 HR3.out (by omega) (by omega) (by omega)).mono ?_
  rintro e w4 ⟨c, rfl, hc, hR4, hA4⟩
  have hc3 := hc (by omega)
  have HB4 := Lib.hid (HB3.out.trans (hA4.below (m := W.heap.size) hR z3))
  clear hR4 hA4 hc
  by_cases hc23 : c = 23
  · subst hc23
    go_wp2
    go_ret3
    exact ⟨n, s, _, rfl, hn1, hn2, hs, by omega, by omega, HB4.out⟩
  · have hq3 : (c : Int) / 23 = 0 := by omega
    have hq4 : Int.tdiv (c : Int) 23 = 0 := by rw [Int.tdiv_eq_ediv_of_nonneg (by omega)]; exact hq3
    go_wp2
    go_ret3
    exact ⟨n, s, _, rfl, hn1, hn2, hs, by omega, by omega, HB4.out⟩
theorem shift_back (n s : Nat) (k : Int) (h1 : 1 ≤ n) (hs : s < 2 ^ n) : shiftN n (shiftN n s k) (0 - k) = s := by
  refine Nat.eq_of_testBit_eq fun i => ?_
  by_cases hi : i < n
  · rw [shift_mem n _ _ h1 (shiftN_lt n s k) i hi, shift_mem n s k h1 hs _ (rest_lt n _ h1)]
    have e : rest n (((rest n ((i : Int) - (0 - k)) : Nat) : Int) - k) = i := by
      rw [Int.sub_eq_add_neg, rest_rest n _ _ h1, show (i : Int) - (0 - k) + -k = (i : Int) by omega, rest_self n i hi]
    rw [e]
  · have e1 : (shiftN n (shiftN n s k) (0 - k)).testBit i = false := by
      by_cases hb : (shiftN n (shiftN n s k) (0 - k)).testBit i = true
      · exact absurd (lt_of_bits n _ (shiftN_lt n _ _) i hb) hi
      · simpa using hb
    have e2 : s.testBit i = false := by
      by_cases hb : s.testBit i = true
      · exact absurd (lt_of_bits n s hs i hb) hi
      · simpa using hb
    rw [e1, e2]
theorem law_Shift (W : World) (B len cap : Nat) (A : Option Addr) (f : Nat → Nat) (hC : Code W B A len f) (hB : B ≤ W.heap.size) (hlc : len ≤ cap) (hcap : cap ≤ 9223372036854775807) :
    Calls Try.prog 4 #[.slice A len cap] W fun e w' => e = .returned (.bool true) ∧ Below W.heap.size W w' := by
  have HC := Lib.hid (drawShift_any W B len cap A f hC hB hlc hcap)
  clear hC
  by_cases hlen : (1048576 : Int) < (len : Int)
  · go_enter Try.func4, Try.ntmps4
    go_wp2
    go_ret
    exact ⟨rfl, Below.refl _ _⟩
  · go_enter Try.func4, Try.ntmps4
    go_wp2_with fail
    refine HC.out.mono ?_
    rintro e w1 ⟨n, s, k, rfl, hn1, hn2, hs, hk1, hk2, hb1⟩
    have z1 := hb1.size
    by_cases hno : NotIn (n : Int) (s : Int)
    · have HN := Lib.hid hno
      clear hno
      go_wp2_with fail
      refine (implShift_no n s k _ HN.out).mono ?_
      rintro e w2 ⟨rfl, hb2⟩
      go_wp2_with fail
      refine (specShift_no n s k _ HN.out).mono ?_
      rintro e w3 ⟨rfl, rfl⟩
      go_wp2
      go_ret
      exact ⟨rfl, hb1.trans (hb2.mono z1)⟩
    · obtain ⟨m, s', hm, hs', h1, h2, h3⟩ := not_notIn hno
      obtain rfl : n = m := by omega
      obtain rfl : s = s' := by omega
      clear hno hm hs' hn2
      have hpw := pow_le n h2
      by_cases hk : -100 ≤ k ∧ k ≤ 100
      · have hso := shiftN_lt n s k
        have hit := fun W => implShift_yes n (shiftN n s k) (0 - k) W h1 h2 hso (by omega) (by omega)
        have him := fun W => implShift_yes n s k W h1 h2 h3 hk.1 hk.2
        have hsp := fun W => specShift_yes n s k W h1 h2 h3 hk.1 hk.2
        rw [shift_back n s k h1 h3] at hit
        have k1 := size_any (shiftN n s k)
        have k2 := size_any s
        rw [size_shift n s k h1 h2 h3] at k1
        obtain ⟨hka, hkb⟩ := hk
        have HIm := Lib.hid him
        have HSp := Lib.hid hsp
        clear him hsp
        generalize shiftN n s k = o at *
        obtain ⟨j, hj⟩ : ∃ j : Int, 0 - k = j := ⟨_, rfl⟩
        rw [hj] at hit
        have HIt := Lib.hid hit
        have K1 := Lib.hid (fun W => k1 W (by omega))
        have K2 := Lib.hid (fun W => k2 W (by omega))
        clear k1 k2 hit
        have hj2 : -k = j := by omega
        generalize sizeN s = a at *
        go_wp2_with fail
        refine (HIm.out _).mono ?_
        rintro e w2 ⟨rfl, hb2⟩
        have z2 := hb2.size
        go_wp2_with fail
        refine (HSp.out _).mono ?_
        rintro e w3 ⟨rfl, rfl⟩
        go_wp2_with fail
        refine (HIt.out _).mono ?_
        rintro e w4 ⟨rfl, hb4⟩
        go_wp2_with fail
        refine (K1.out _).mono ?_
        rintro e w5 ⟨rfl, rfl⟩
        go_wp2_with fail
        refine (K2.out _).mono ?_
        rintro e w6 ⟨rfl, rfl⟩
        go_wp2
        go_ret
        exact ⟨rfl, (hb1.trans (hb2.mono z1)).trans (hb4.mono (by omega))⟩
      · have HK := Lib.hid hk
        clear hk
        go_wp2_with fail
        refine (implShift_move n s k _ h1 h2 h3 HK.out).mono ?_
        rintro e w2 ⟨rfl, hb2⟩
        go_wp2_with fail
        refine (specShift_move n s k _ h1 h2 h3 HK.out).mono ?_
        rintro e w3 ⟨rfl, rfl⟩
        go_wp2
        go_ret
        exact ⟨rfl, hb1.trans (hb2.mono z1)⟩
end Go.Proofs.Ytodiliabjaiecaa
