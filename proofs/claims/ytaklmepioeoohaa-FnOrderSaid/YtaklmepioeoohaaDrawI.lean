/- The draws of chapter 8. Written by gen66.py. -/
import Derived.Test.YtaklmepioeoohaaDrawP
import Derived.Test.YtaklmepioeoohaaGP
namespace Go.Proofs.Ytaklmepioeoohaa
open Go.RowKit Go.Shelf
set_option linter.unusedVariables false
/-- A ring of at most eleven places and a set, a reader going on. -/
def PlayPost (W : World) (B R p : Nat) (e : Ending) (w' : World) : Prop :=
  ∃ n s q : Nat, e = .returned (.tuple #[.int .i64 (n : Int), .int .i64 (s : Int)]) ∧ 1 ≤ n ∧ n ≤ 11 ∧ s < 2 ^ n ∧ q ≤ p + 60 ∧ Reader w' B R q ∧ Aside R W w'
theorem play_pows : (22 : Nat) < 2 ^ 7 ∧ (570 : Nat) < 2 ^ 11 := by decide
theorem dne {d k : Nat} (h : d ≠ k) : ((d : Int) == (k : Int)) = false := by simp; omega
set_option maxHeartbeats 2000000 in
theorem play_any (W : World) (B R p M : Nat) (hM1 : 1 ≤ M) (hM : M ≤ 5) (h : Reader W B R p) (hp : p ≤ 800) :
    Calls Try.prog 40 #[.pointer (some ⟨R, 0, none⟩), .int .i64 (M : Int)] W (PlayPost W B R p) := by
  have HR := Lib.hid h
  have HP := Lib.hid play_pows
  clear h
  go_enter Try.func40, Try.ntmps40
  go_wp2_with fail
  refine (draw_any W B R p (M : Int) HR.out (by omega) (by omega) (by omega)).mono ?_
  rintro e w1 ⟨a, rfl, ha0, hR1, hA1⟩
  have ha := ha0 (by omega)
  have HR1 := Lib.hid hR1
  have HA1 := Lib.hid hA1
  clear hR1 hA1 ha0
  obtain ⟨T, hT⟩ : ∃ T : Nat, 2 * a = T := ⟨_, rfl⟩
  obtain ⟨n, hn⟩ : ∃ n : Nat, 3 + T = n := ⟨_, rfl⟩
  have hn3 : 3 ≤ n := by omega
  have hn11 : n ≤ 11 := by omega
  obtain ⟨t1, t2⟩ := two_wraps (2 * (a : Int)) T (by omega) (by omega)
  obtain ⟨k1, k2⟩ := two_wraps (3 + (T : Int)) n (by omega) (by omega)
  have HZ : Hid (0 < 2 ^ n) := Lib.hid (Nat.two_pow_pos n)
  have HPw := Lib.hid (pow_le n (by omega))
  clear hT hn ha
  go_wp2
  clear t1 t2 k1 k2
  go_loopw [7, 8] (fun u v wr => ∃ k s q : Nat, 1 ≤ k ∧ k ≤ n ∧ s < 2 ^ n ∧ q ≤ p + k ∧ u = .int .i64 (s : Int) ∧ v = .int .i64 (k : Int) ∧ Hid (Reader wr B R q) ∧ Hid (Aside R W wr)) (fun _ v _ => n - (intOf v).toNat)
  case atStart => exact ⟨1, 0, p + 1, Nat.le_refl _, by omega, HZ.out, by omega, rfl, rfl, HR1, HA1⟩
  case round =>
    obtain ⟨k, s, q, hk1, hk, hs, hq, rfl, rfl, HR3, HA3⟩ := hrel
    obtain ⟨T, hT⟩ : ∃ T : Nat, 2 * k = T := ⟨_, rfl⟩
    obtain ⟨t1, t2⟩ := two_wraps (2 * (k : Int)) T (by omega) (by omega)
    by_cases hlt : T < n
    · have c1 : (T : Int) < (n : Int) := by omega
      have c2 := decide_eq_true c1
      have hkn : k < n := by omega
      have HS4 : Hid (s < 2 ^ 40) := Lib.hid (by have := HPw.out; omega)
      have HW1 := Lib.hid (with_nat s k HS4.out (by omega))
      have HL1 := Lib.hid (or_pow_lt n s k hs hkn)
      obtain ⟨E, hE⟩ : ∃ E : Nat, n - k = E := ⟨_, rfl⟩
      have HW2 := Lib.hid (with_nat s E HS4.out (by omega))
      have HL2 := Lib.hid (or_pow_lt n s E hs (by omega))
      obtain ⟨s1, s2⟩ := two_wraps ((n : Int) - (k : Int)) E (by omega) (by omega)
      have hE64 : min E 64 = E := by omega
      have hE0 : (0 : Int) ≤ (E : Int) := by omega
      clear hT hE hs
      go_wp2_with fail
      refine (draw_any wr B R q 2 HR3.out (by omega) (by omega) (by omega)).mono ?_
      rintro e w3 ⟨d, rfl, hd, hR4, hA4⟩
      have HR4 := Lib.hid hR4
      have HA4 := Lib.hid (HA3.out.trans hA4)
      clear hR4 hA4 hd
      by_cases hd0 : d = 0
      · subst hd0
        have hw := HW1.out
        go_wp2
        go_roundw
        case rel => exact ⟨k + 1, s ||| 2 ^ k, q + 1, by omega, by omega, HL1.out, by omega, rfl, by go_num, HR4, HA4⟩
        case measure => simp [intOf]; omega
      · have hdz : ((d : Int) == 0) = false := by simp; omega
        have hw := HW2.out
        go_wp2
        go_roundw
        case rel => exact ⟨k + 1, s ||| 2 ^ E, q + 1, by omega, by omega, HL2.out, by omega, rfl, by go_num, HR4, HA4⟩
        case measure => simp [intOf]; omega
    · have c1 : ¬ (T : Int) < (n : Int) := by omega
      have c2 := decide_eq_false c1
      clear hT
      go_wp2_with fail
      refine (draw_any wr B R q 12 HR3.out (by omega) (by omega) (by omega)).mono ?_
      rintro e w3 ⟨d, rfl, hd, hR4, hA4⟩
      have HR4 := Lib.hid hR4
      have HA4 := Lib.hid (HA3.out.trans hA4)
      clear hR4 hA4 hd t1 t2 c1 c2
      by_cases hd0 : d = 0
      · subst hd0
        go_wp2
        go_ret2
        exact ⟨7, 22, q + 1, rfl, by omega, by omega, HP.out.1, by omega, HR4.out, HA4.out⟩
      · have hdz : ((d : Int) == 0) = false := by simp; omega
        by_cases hd1 : d = 1
        · subst hd1
          go_wp2
          go_ret2
          exact ⟨11, 570, q + 1, rfl, by omega, by omega, HP.out.2, by omega, HR4.out, HA4.out⟩
        · have hdz1 : ((d : Int) == 1) = false := by simp; omega
          by_cases hd2 : d = 2
          · subst hd2
            go_wp2_with fail
            refine (draw_any w3 B R (q + 1) 2 HR4.out (by omega) (by omega) (by omega)).mono ?_
            rintro e w4 ⟨d, rfl, hd, hR5, hA5⟩
            have HR5 := Lib.hid hR5
            have HA5 := Lib.hid (HA4.out.trans hA5)
            clear hR5 hA5 hd
            by_cases hd0 : d = 0
            · subst hd0
              go_wp2_with fail
              refine (stepM_any w4 B R (q + 1 + 1) 9 (by omega) (by omega) HR5.out (by omega)).mono ?_
              rintro e w5 ⟨n2, s2, q2, rfl, hn1, hn2, hs2, hq2, hR6, hA6⟩
              have HR6 := Lib.hid hR6
              have HA6 := Lib.hid (HA5.out.trans hA6)
              clear hR6 hA6
              go_wp2
              go_ret2
              exact ⟨n2, s2, q2, rfl, hn1, by omega, hs2, by omega, HR6.out, HA6.out⟩
            · have hdz3 : ((d : Int) == 0) = false := by simp; omega
              go_wp2
              go_ret2
              exact ⟨n, s, q + 1 + 1, rfl, by omega, hn11, hs, by omega, HR5.out, HA5.out⟩
          · have hdz2 : ((d : Int) == 2) = false := by simp; omega
            go_wp2
            go_ret2
            exact ⟨n, s, q + 1, rfl, by omega, hn11, hs, by omega, HR4.out, HA4.out⟩
def Most11 (W : World) (e : Ending) (w' : World) : Prop := AtMost W 11 e w'
theorem drawPlayIn_any (W : World) (B len cap : Nat) (A : Option Addr) (f : Nat → Nat) (hC : Code W B A len f) (hB : B ≤ W.heap.size) (hlc : len ≤ cap) (hcap : cap ≤ 9223372036854775807) :
    Calls Try.prog 11 #[.slice A len cap] W (AtMost W 11) := by
  have HC := Lib.hid (open_any W B len cap A f hC hB hlc hcap)
  clear hC
  go_enter Try.func11, Try.ntmps11
  go_wp2_with fail
  refine HC.out.mono ?_
  rintro e w1 ⟨R, A', len', cap', rfl, hR, hl, hRd, hCd, hb1⟩
  have z1 := hb1.size
  have HRd : Hid (Reader w1 B R 0) := Lib.hid ⟨⟨A', len', cap', f, hRd, hCd, hl⟩, by omega⟩
  clear hRd hCd
  go_wp2_with fail
  refine (play_any w1 B R 0 5 (by omega) (by omega) HRd.out (by omega)).mono ?_
  rintro e w2 ⟨n, s, q, rfl, hn1, hn2, hs, hq, hR2, hA2⟩
  have HB2 := Lib.hid (hb1.trans (hA2.below (m := W.heap.size) hR z1))
  clear hR2 hA2
  go_wp2
  go_ret2
  exact ⟨n, s, rfl, hn1, hn2, hs, HB2.out⟩
theorem drawPlayThree_any (W : World) (B len cap : Nat) (A : Option Addr) (f : Nat → Nat) (hC : Code W B A len f) (hB : B ≤ W.heap.size) (hlc : len ≤ cap) (hcap : cap ≤ 9223372036854775807) :
    Calls Try.prog 21 #[.slice A len cap] W (AtMost W 11) := by
  have HC := Lib.hid (open_any W B len cap A f hC hB hlc hcap)
  clear hC
  go_enter Try.func21, Try.ntmps21
  go_wp2_with fail
  refine HC.out.mono ?_
  rintro e w1 ⟨R, A', len', cap', rfl, hR, hl, hRd, hCd, hb1⟩
  have z1 := hb1.size
  have HRd : Hid (Reader w1 B R 0) := Lib.hid ⟨⟨A', len', cap', f, hRd, hCd, hl⟩, by omega⟩
  clear hRd hCd
  go_wp2_with fail
  refine (play_any w1 B R 0 5 (by omega) (by omega) HRd.out (by omega)).mono ?_
  rintro e w2 ⟨n, s, q, rfl, hn1, hn2, hs, hq, hR2, hA2⟩
  have HB2 := Lib.hid (hb1.trans (hA2.below (m := W.heap.size) hR z1))
  clear hR2 hA2
  go_wp2
  go_ret2
  exact ⟨n, s, rfl, hn1, hn2, hs, HB2.out⟩
theorem drawPlayTwice_any (W : World) (B len cap : Nat) (A : Option Addr) (f : Nat → Nat) (hC : Code W B A len f) (hB : B ≤ W.heap.size) (hlc : len ≤ cap) (hcap : cap ≤ 9223372036854775807) :
    Calls Try.prog 24 #[.slice A len cap] W (AtMost W 11) := by
  have HC := Lib.hid (open_any W B len cap A f hC hB hlc hcap)
  clear hC
  go_enter Try.func24, Try.ntmps24
  go_wp2_with fail
  refine HC.out.mono ?_
  rintro e w1 ⟨R, A', len', cap', rfl, hR, hl, hRd, hCd, hb1⟩
  have z1 := hb1.size
  have HRd : Hid (Reader w1 B R 0) := Lib.hid ⟨⟨A', len', cap', f, hRd, hCd, hl⟩, by omega⟩
  clear hRd hCd
  go_wp2_with fail
  refine (play_any w1 B R 0 5 (by omega) (by omega) HRd.out (by omega)).mono ?_
  rintro e w2 ⟨n, s, q, rfl, hn1, hn2, hs, hq, hR2, hA2⟩
  have HB2 := Lib.hid (hb1.trans (hA2.below (m := W.heap.size) hR z1))
  clear hR2 hA2
  go_wp2
  go_ret2
  exact ⟨n, s, rfl, hn1, hn2, hs, HB2.out⟩
theorem drawPlayEqual_any (W : World) (B len cap : Nat) (A : Option Addr) (f : Nat → Nat) (hC : Code W B A len f) (hB : B ≤ W.heap.size) (hlc : len ≤ cap) (hcap : cap ≤ 9223372036854775807) :
    Calls Try.prog 28 #[.slice A len cap] W (AtMost W 11) := by
  have HC := Lib.hid (open_any W B len cap A f hC hB hlc hcap)
  clear hC
  go_enter Try.func28, Try.ntmps28
  go_wp2_with fail
  refine HC.out.mono ?_
  rintro e w1 ⟨R, A', len', cap', rfl, hR, hl, hRd, hCd, hb1⟩
  have z1 := hb1.size
  have HRd : Hid (Reader w1 B R 0) := Lib.hid ⟨⟨A', len', cap', f, hRd, hCd, hl⟩, by omega⟩
  clear hRd hCd
  go_wp2_with fail
  refine (play_any w1 B R 0 5 (by omega) (by omega) HRd.out (by omega)).mono ?_
  rintro e w2 ⟨n, s, q, rfl, hn1, hn2, hs, hq, hR2, hA2⟩
  have HB2 := Lib.hid (hb1.trans (hA2.below (m := W.heap.size) hR z1))
  clear hR2 hA2
  go_wp2
  go_ret2
  exact ⟨n, s, rfl, hn1, hn2, hs, HB2.out⟩
theorem drawPlayOrder_any (W : World) (B len cap : Nat) (A : Option Addr) (f : Nat → Nat) (hC : Code W B A len f) (hB : B ≤ W.heap.size) (hlc : len ≤ cap) (hcap : cap ≤ 9223372036854775807) :
    Calls Try.prog 37 #[.slice A len cap] W (AtMost W 11) := by
  have HC := Lib.hid (open_any W B len cap A f hC hB hlc hcap)
  clear hC
  go_enter Try.func37, Try.ntmps37
  go_wp2_with fail
  refine HC.out.mono ?_
  rintro e w1 ⟨R, A', len', cap', rfl, hR, hl, hRd, hCd, hb1⟩
  have z1 := hb1.size
  have HRd : Hid (Reader w1 B R 0) := Lib.hid ⟨⟨A', len', cap', f, hRd, hCd, hl⟩, by omega⟩
  clear hRd hCd
  go_wp2_with fail
  refine (play_any w1 B R 0 4 (by omega) (by omega) HRd.out (by omega)).mono ?_
  rintro e w2 ⟨n, s, q, rfl, hn1, hn2, hs, hq, hR2, hA2⟩
  have HB2 := Lib.hid (hb1.trans (hA2.below (m := W.heap.size) hR z1))
  clear hR2 hA2
  go_wp2
  go_ret2
  exact ⟨n, s, rfl, hn1, hn2, hs, HB2.out⟩
end Go.Proofs.Ytaklmepioeoohaa
