/- The law FnAlike: sets that are alike have others that are, and as many places. -/
import Derived.Test.YthccchelemnnfaaPLeast
import Derived.Test.YthccchelemnnfaaTurnM
import Derived.Test.YthccchelemnnfaaDavenport
namespace Go.Proofs.Ythccchelemnnfaa
open Go.RowKit Go.Shelf
set_option linter.unusedVariables false
theorem or_none (t : Nat) (ht : t < 2 ^ 40) : bits .or .i64 (t : Int) 0 = (t : Int) := by
  rw [show (0 : Int) = ((0 : Nat) : Int) from rfl, or_nat t 0 (by omega) (by omega), Nat.or_zero]
def FewPost (W : World) (B R p : Nat) (e : Ending) (w' : World) : Prop :=
  ∃ n s q : Nat, e = .returned (.tuple #[.int .i64 (n : Int), .int .i64 (s : Int)]) ∧ 1 ≤ n ∧ n ≤ 13 ∧ s < 2 ^ 13 ∧ q ≤ p + 20 ∧ Reader w' B R q ∧ Aside R W w'
set_option maxHeartbeats 1000000 in
theorem few_any (W : World) (B R p m : Nat) (h : Reader W B R p) (hp : p ≤ 900) (hm1 : 1 ≤ m) (hm2 : m ≤ 13) :
    Calls Try.prog 62 #[.pointer (some ⟨R, 0, none⟩), .int .i64 (m : Int)] W (FewPost W B R p) := by
  have HR := Lib.hid h
  clear h
  go_enter Try.func62, Try.ntmps62
  go_wp2_with fail
  refine (draw_any W B R p m HR.out (by omega) (by omega) (by omega)).mono ?_
  rintro e w1 ⟨n0, rfl, hn0, hR1, hA1⟩
  have hn1 := hn0 (by omega)
  have HR1 := Lib.hid hR1
  have HA1 := Lib.hid hA1
  clear hR1 hA1 hn0
  obtain ⟨n, hn⟩ : ∃ n : Nat, n = 1 + n0 := ⟨_, rfl⟩
  have hnI : ((1 : Int) + (n0 : Int)) = (n : Int) := by omega
  have hnb : n ≤ 13 := by omega
  have hnb1 : 1 ≤ n := by omega
  clear hn hn1
  go_wp2
  go_loopw [7, 8] (fun u v wr => ∃ k s q : Nat, k ≤ n ∧ s < 2 ^ 13 ∧ q ≤ p + 2 + k ∧ u = .int .i64 (s : Int) ∧ v = .int .i64 (k : Int) ∧ Reader wr B R q ∧ Aside R W wr) (fun _ v _ => n - (intOf v).toNat)
  case atStart => exact ⟨0, 0, p + 1, Nat.zero_le _, by omega, by omega, rfl, rfl, HR1.out, HA1.out⟩
  case round =>
    obtain ⟨k, s, q, hk, hs, hq, rfl, rfl, hR3, hA3⟩ := hrel
    have HR3 := Lib.hid hR3
    have HA3 := Lib.hid hA3
    clear hR3 hA3
    by_cases hlt : k < n
    · go_wp2_with fail
      refine (draw_any wr B R q 2 HR3.out (by omega) (by omega) (by omega)).mono ?_
      rintro e w3 ⟨d, rfl, hd, hR4, hA4⟩
      have hd2 := hd (by omega)
      have HR4 := Lib.hid hR4
      have HA4 := Lib.hid (HA3.out.trans hA4)
      clear hR4 hA4 hd
      by_cases hd0 : d = 0
      · subst hd0
        have hor := or_none s (by omega)
        go_wp2
        go_roundw
        case rel => exact ⟨k + 1, s, q + 1, by omega, hs, by omega, rfl, by go_num, HR4.out, HA4.out⟩
        case measure => simp [intOf]; omega
      · obtain rfl : d = 1 := by omega
        have hw := with_nat s k (by omega) (by omega)
        have hl := or_pow_lt 13 s k hs (by omega)
        go_wp2
        go_roundw
        case rel => exact ⟨k + 1, s ||| 2 ^ k, q + 1, by omega, hl, by omega, rfl, by go_num, HR4.out, HA4.out⟩
        case measure => simp [intOf]; omega
    · have e : k = n := by omega
      subst e
      go_wp2
      go_ret2
      exact ⟨k, s, q, rfl, hnb1, hnb, hs, by omega, HR3.out, HA3.out⟩
set_option maxHeartbeats 2000000 in
theorem drawAlike_any (W : World) (B len cap : Nat) (A : Option Addr) (f : Nat → Nat) (hC : Code W B A len f) (hB : B ≤ W.heap.size) (hlc : len ≤ cap) (hcap : cap ≤ 9223372036854775807) :
    Calls Try.prog 33 #[.slice A len cap] W (TwoPost W) := by
  have HC := Lib.hid (open_any W B len cap A f hC hB hlc hcap)
  clear hC
  go_enter Try.func33, Try.ntmps33
  go_wp2_with fail
  refine HC.out.mono ?_
  rintro e w1 ⟨R, A', len', cap', rfl, hR, hl, hRd, hCd, hb1⟩
  have z1 := hb1.size
  have HRd : Hid (Reader w1 B R 0) := Lib.hid ⟨⟨A', len', cap', f, hRd, hCd, hl⟩, by omega⟩
  clear hRd hCd
  go_wp2_with fail
  refine (set_any w1 B R 0 HRd.out (by omega)).mono ?_
  rintro e w2 ⟨n, s, q, rfl, hn1, hn2, hs, hq, hR2, hA2⟩
  have HR2 := Lib.hid hR2
  have HB2 := Lib.hid (hb1.trans (hA2.below (m := W.heap.size) hR z1))
  have z2 := HB2.out.size
  clear hR2 hA2
  go_wp2_with fail
  refine (draw_any w2 B R q 3 HR2.out (by omega) (by omega) (by omega)).mono ?_
  rintro e w3 ⟨d, rfl, hd, hR3, hA3⟩
  have HR3 := Lib.hid hR3
  have HB3 := Lib.hid (HB2.out.trans (hA3.below (m := W.heap.size) hR z2))
  have z3 := HB3.out.size
  clear hR3 hA3 hd
  by_cases hd0 : d = 0
  · subst hd0
    go_wp2_with fail
    refine (few_any w3 B R (q + 1) n HR3.out (by omega) hn1 hn2).mono ?_
    rintro e w4 ⟨n', t, q', rfl, _, _, ht, hq', hR4, hA4⟩
    have HB4 := Lib.hid (HB3.out.trans (hA4.below (m := W.heap.size) hR z3))
    clear hR4 hA4
    go_wp2
    go_ret3
    exact ⟨n, s, t, rfl, hn1, hn2, hs, ht, HB4.out⟩
  · have hdz : ((d : Int) == 0) = false := by simp; omega
    by_cases hno : NotIn (n : Int) (s : Int)
    · have HN := Lib.hid hno
      clear hno
      go_wp2_with fail
      refine (specIn_no n s _ HN.out).mono ?_
      rintro e w4 ⟨rfl, rfl⟩
      go_wp2_with fail
      refine (few_any w3 B R (q + 1) n HR3.out (by omega) hn1 hn2).mono ?_
      rintro e w5 ⟨n', t, q', rfl, _, _, ht, hq', hR4, hA4⟩
      have HB4 := Lib.hid (HB3.out.trans (hA4.below (m := W.heap.size) hR z3))
      clear hR4 hA4
      go_wp2
      go_ret3
      exact ⟨n, s, t, rfl, hn1, hn2, hs, ht, HB4.out⟩
    · obtain ⟨m, s', hm, hs', h1, h2, h3⟩ := not_notIn hno
      obtain rfl : n = m := by omega
      obtain rfl : s = s' := by omega
      clear hno hm hs' hn2 hs
      have hpw := pow_le n h2
      have HIn := Lib.hid (fun W => specIn_yes n s W h1 h2 h3)
      have HUn := Lib.hid (fun W => l1Units_any n W h1 h2)
      have hul := unitsN_lt n
      go_wp2_with fail
      refine (HIn.out _).mono ?_
      rintro e w4 ⟨rfl, rfl⟩
      go_wp2_with fail
      refine (draw_any w3 B R (q + 1) n HR3.out (by omega) (by omega) (by omega)).mono ?_
      rintro e w5 ⟨u, rfl, hu, hR5, hA5⟩
      have hu5 := hu (by omega)
      have HR5 := Lib.hid hR5
      have HB5 := Lib.hid (HB3.out.trans (hA5.below (m := W.heap.size) hR z3))
      have z5 := HB5.out.size
      clear hR5 hA5 hu
      have hbt := has_nat0 (unitsN n) u (by omega)
      generalize unitsN n = un at *
      go_wp2_with fail
      refine (HUn.out _).mono ?_
      rintro e w6 ⟨rfl, rfl⟩
      cases hb : un.testBit u
      · rw [hb] at hbt
        clear hb
        go_wp2_with fail
        refine (draw_any w5 B R (q + 1 + 1) 4 HR5.out (by omega) (by omega) (by omega)).mono ?_
        rintro e w7 ⟨c, rfl, hc, hR7, hA7⟩
        have HR7 := Lib.hid hR7
        have HB7 := Lib.hid (HB5.out.trans (hA7.below (m := W.heap.size) hR z5))
        have z7 := HB7.out.size
        clear hR7 hA7 hc
        by_cases hc0 : c = 0
        · subst hc0
          go_wp2_with fail
          refine (draw_any w7 B R (q + 1 + 1 + 1) n HR7.out (by omega) (by omega) (by omega)).mono ?_
          rintro e w8 ⟨k, rfl, hk, hR8, hA8⟩
          have hk8 := hk (by omega)
          have HB8 := Lib.hid (HB7.out.trans (hA8.below (m := W.heap.size) hR z7))
          clear hR8 hA8 hk
          have hml := mapN_lt n s (u : Int) (k : Int) n h1
          go_wp2_with fail
          refine (l1Map_any n s (u : Int) (k : Int) _ h1 h2 (pow_mono h2 h3) (by omega) (by omega) (by omega) (by omega)).mono ?_
          rintro e w9 ⟨rfl, rfl⟩
          go_wp2
          go_ret3
          exact ⟨n, s, _, rfl, h1, by omega, by omega, by omega, HB8.out⟩
        · have hcp : (0 : Int) < (c : Int) := by omega
          go_wp2_with fail
          refine (draw_any w7 B R (q + 1 + 1 + 1) n HR7.out (by omega) (by omega) (by omega)).mono ?_
          rintro e w8 ⟨k, rfl, hk, hR8, hA8⟩
          have hk8 := hk (by omega)
          have HB8 := Lib.hid (HB7.out.trans (hA8.below (m := W.heap.size) hR z7))
          clear hR8 hA8 hk
          have hml := mapN_lt n s 1 (k : Int) n h1
          go_wp2_with fail
          refine (l1Map_any n s 1 (k : Int) _ h1 h2 (pow_mono h2 h3) (by omega) (by omega) (by omega) (by omega)).mono ?_
          rintro e w9 ⟨rfl, rfl⟩
          go_wp2
          go_ret3
          exact ⟨n, s, _, rfl, h1, by omega, by omega, by omega, HB8.out⟩
      · rw [hb] at hbt
        clear hb
        go_wp2_with fail
        refine (draw_any w5 B R (q + 1 + 1) n HR5.out (by omega) (by omega) (by omega)).mono ?_
        rintro e w8 ⟨k, rfl, hk, hR8, hA8⟩
        have hk8 := hk (by omega)
        have HB8 := Lib.hid (HB5.out.trans (hA8.below (m := W.heap.size) hR z5))
        clear hR8 hA8 hk
        have hml := mapN_lt n s (u : Int) (k : Int) n h1
        go_wp2_with fail
        refine (l1Map_any n s (u : Int) (k : Int) _ h1 h2 (pow_mono h2 h3) (by omega) (by omega) (by omega) (by omega)).mono ?_
        rintro e w9 ⟨rfl, rfl⟩
        go_wp2
        go_ret3
        exact ⟨n, s, _, rfl, h1, by omega, by omega, by omega, HB8.out⟩
theorem compl_bit' (n t i : Nat) (ht : t < 2 ^ n) (hi : i < n) : (2 ^ n - 1 - t).testBit i = !t.testBit i := by
  have h := Nat.testBit_two_pow_sub_succ ht i
  rw [show 2 ^ n - (t + 1) = 2 ^ n - 1 - t by omega] at h
  rw [h]
  simp [hi]
theorem ext_below (n x y : Nat) (hx : x < 2 ^ n) (hy : y < 2 ^ n) (h : ∀ i, i < n → x.testBit i = y.testBit i) : x = y := by
  refine Nat.eq_of_testBit_eq fun i => ?_
  by_cases hi : i < n
  · exact h i hi
  · rw [Nat.testBit_lt_two_pow (Nat.lt_of_lt_of_le hx (Nat.pow_le_pow_right (by omega) (by omega))), Nat.testBit_lt_two_pow (Nat.lt_of_lt_of_le hy (Nat.pow_le_pow_right (by omega) (by omega)))]
theorem act_size (n s u k : Nat) (h1 : 1 ≤ n) (h2 : n ≤ 12) (hs : s < 2 ^ n) (hu : u < n) (hg : Nat.gcd u n = 1) : sizeN (act n s u k) = sizeN s := by
  rw [← shift_turn n s u k h1, size_shift n _ k h1 h2 (turnN_lt n s _ h1)]
  exact turn_unit n s u h1 h2 hs (by rw [rest_self n u hu]; exact hg)
theorem act_or (n a b u k : Nat) (h1 : 1 ≤ n) : act n (a ||| b) u k = act n a u k ||| act n b u k := by
  refine Nat.eq_of_testBit_eq fun i => ?_
  rw [Bool.eq_iff_iff, Nat.testBit_or, Bool.or_eq_true, act_bit, act_bit, act_bit]
  constructor
  · rintro ⟨v, hv, hb, e⟩
    rw [Nat.testBit_or, Bool.or_eq_true] at hb
    rcases hb with hb | hb
    · exact .inl ⟨v, hv, hb, e⟩
    · exact .inr ⟨v, hv, hb, e⟩
  · rintro (⟨v, hv, hb, e⟩ | ⟨v, hv, hb, e⟩)
    · exact ⟨v, hv, by rw [Nat.testBit_or, hb, Bool.true_or], e⟩
    · exact ⟨v, hv, by rw [Nat.testBit_or, hb, Bool.or_true], e⟩
theorem compl_or (n s : Nat) (hs : s < 2 ^ n) : s ||| (2 ^ n - 1 - s) = 2 ^ n - 1 := by
  refine ext_below n _ _ (Nat.or_lt_two_pow hs (by omega)) (by have := Nat.two_pow_pos n; omega) fun i hi => ?_
  rw [Nat.testBit_or, compl_bit' n s i hs hi, Nat.testBit_two_pow_sub_one]
  simp [hi]
theorem compl_and (n s : Nat) (hs : s < 2 ^ n) : s &&& (2 ^ n - 1 - s) = 0 := by
  refine ext_below n _ _ (Nat.and_lt_two_pow _ (by omega)) (Nat.two_pow_pos n) fun i hi => ?_
  rw [Nat.testBit_and, compl_bit' n s i hs hi, Nat.zero_testBit]
  cases s.testBit i <;> rfl
def fullB : Bool := (List.range 13).all fun n => sizeN (2 ^ n - 1) == n
theorem full_all : fullB = true := by decide +kernel
theorem full_size (n : Nat) (h2 : n ≤ 12) : sizeN (2 ^ n - 1) = n := by
  have h := full_all
  unfold fullB at h
  exact eq_of_beq (List.all_eq_true.1 h n (List.mem_range.2 (by omega)))
theorem compl_size (n s : Nat) (h2 : n ≤ 12) (hs : s < 2 ^ n) : sizeN s + sizeN (2 ^ n - 1 - s) = n := by
  have hb := popF_both 40 s (2 ^ n - 1 - s)
  rw [compl_or n s hs, compl_and n s hs, popF_zero] at hb
  have := full_size n h2
  unfold sizeN at *
  omega
theorem act_full (n u k : Nat) (h1 : 1 ≤ n) (h2 : n ≤ 12) (hu : u < n) (hg : Nat.gcd u n = 1) : act n (2 ^ n - 1) u k = 2 ^ n - 1 := by
  have hp := pow_le n h2
  have hp1 := Nat.two_pow_pos n
  have hl := act_lt n (2 ^ n - 1) u k h1
  have hz := act_size n (2 ^ n - 1) u k h1 h2 (by omega) hu hg
  unfold sizeN at hz
  refine popF_same 40 _ _ (by omega) (by omega) (fun i hi => ?_) (by omega)
  have hin := lt_of_bits n _ hl i hi
  rw [Nat.testBit_two_pow_sub_one]
  simpa using hin
theorem zero_of_size (x : Nat) (hx : x < 2 ^ 40) (h : popF 40 x = 0) : x = 0 := by
  by_cases e : x = 0
  · exact e
  · have := size_pos x hx e
    unfold sizeN at this
    omega
theorem act_compl (n s u k : Nat) (h1 : 1 ≤ n) (h2 : n ≤ 12) (hs : s < 2 ^ n) (hu : u < n) (hg : Nat.gcd u n = 1) : act n (2 ^ n - 1 - s) u k = 2 ^ n - 1 - act n s u k := by
  have hp := pow_le n h2
  have hc : 2 ^ n - 1 - s < 2 ^ n := by omega
  have hl := act_lt n s u k h1
  have hlc := act_lt n (2 ^ n - 1 - s) u k h1
  have ho := act_or n s (2 ^ n - 1 - s) u k h1
  rw [compl_or n s hs, act_full n u k h1 h2 hu hg] at ho
  have hb := popF_both 40 (act n s u k) (act n (2 ^ n - 1 - s) u k)
  rw [← ho] at hb
  have e1 := act_size n s u k h1 h2 hs hu hg
  have e2 := act_size n (2 ^ n - 1 - s) u k h1 h2 hc hu hg
  have e3 := compl_size n s h2 hs
  have e4 := full_size n h2
  unfold sizeN at e1 e2 e3 e4
  have hand : act n s u k &&& act n (2 ^ n - 1 - s) u k = 0 := by
    refine zero_of_size _ (Nat.lt_of_le_of_lt Nat.and_le_left (by omega)) ?_
    omega
  refine ext_below n _ _ hlc (by omega) fun i hi => ?_
  rw [compl_bit' n _ i hl hi]
  have b1 := congrArg (fun z => z.testBit i) ho
  simp only [Nat.testBit_or] at b1
  have b2 : ((act n s u k).testBit i && (act n (2 ^ n - 1 - s) u k).testBit i) = false := by rw [← Nat.testBit_and, hand, Nat.zero_testBit]
  rw [Nat.testBit_two_pow_sub_one] at b1
  rw [decide_eq_true hi] at b1
  generalize (act n s u k).testBit i = x at *
  generalize (act n (2 ^ n - 1 - s) u k).testBit i = y at *
  revert b1 b2
  cases x <;> cases y <;> decide
theorem first_compl (n s : Nat) (h1 : 1 ≤ n) (h2 : n ≤ 12) (hs : s < 2 ^ n) : firstN n (2 ^ n - 1 - firstN n s) = firstN n (2 ^ n - 1 - s) := by
  obtain ⟨u, k, hu, hg, hk, e⟩ := first_is n s h1 hs
  rw [e, ← act_compl n s u k h1 h2 hs hu hg]
  exact first_act n (2 ^ n - 1 - s) u k h1 h2 (by omega) hu hg hk
theorem first_size (n s : Nat) (h1 : 1 ≤ n) (h2 : n ≤ 12) (hs : s < 2 ^ n) : sizeN (firstN n s) = sizeN s := by
  obtain ⟨u, k, hu, hg, hk, e⟩ := first_is n s h1 hs
  rw [e]
  exact act_size n s u k h1 h2 hs hu hg
theorem law_Alike (W : World) (B len cap : Nat) (A : Option Addr) (f : Nat → Nat) (hC : Code W B A len f) (hB : B ≤ W.heap.size) (hlc : len ≤ cap) (hcap : cap ≤ 9223372036854775807) :
    Calls Try.prog 8 #[.slice A len cap] W fun e w' => e = .returned (.bool true) ∧ Below W.heap.size W w' := by
  have HC := Lib.hid (drawAlike_any W B len cap A f hC hB hlc hcap)
  clear hC
  by_cases hlen : (1048576 : Int) < (len : Int)
  · go_enter Try.func8, Try.ntmps8
    go_wp2
    go_ret
    exact ⟨rfl, Below.refl _ _⟩
  · go_enter Try.func8, Try.ntmps8
    go_wp2_with fail
    refine HC.out.mono ?_
    rintro e w1 ⟨n, s, t, rfl, hn1, hn2, hs, ht, hb1⟩
    have HB := Lib.hid hb1
    clear hb1
    by_cases hno : NotIn (n : Int) (s : Int) ∨ NotIn (n : Int) (t : Int)
    · have HN := Lib.hid hno
      clear hno
      go_wp2_with fail
      refine (implAlike_no n s t _ HN.out).mono ?_
      rintro e w2 ⟨rfl, hb2⟩
      have HB := Lib.hid (HB.out.trans (hb2.mono HB.out.size))
      clear hb2
      go_wp2_with fail
      refine (specAlike_no n s t _ HN.out).mono ?_
      rintro e w3 ⟨rfl, rfl⟩
      go_wp2
      go_ret
      exact ⟨rfl, HB.out⟩
    · obtain ⟨m, s', hm, hs', h1, h2, h3⟩ := not_notIn (fun hh => hno (.inl hh))
      obtain ⟨m', t', hm', ht', _, _, h4⟩ := not_notIn (fun hh => hno (.inr hh))
      obtain rfl : n = m := by omega
      obtain rfl : n = m' := by omega
      obtain rfl : s = s' := by omega
      obtain rfl : t = t' := by omega
      clear hno hm hm' hs' ht' hn2 hs ht
      have him := fun W => implAlike_yes n s t W h1 h2 h3 h4
      have hsp := fun W => specAlike_yes n s t W h1 h2 h3 h4
      by_cases he : firstN n s = firstN n t
      · have hpw := pow_le n h2
        have hp1 := Nat.two_pow_pos n
        have hall := all_nat n h2
        have hba := fun W => implAlike_yes n t s W h1 h2 h4 h3
        have hcc := fun W => implAlike_yes n (2 ^ n - 1 - s) (2 ^ n - 1 - t) W h1 h2 (by omega) (by omega)
        have hfc : firstN n (2 ^ n - 1 - s) = firstN n (2 ^ n - 1 - t) := by
          rw [← first_compl n s h1 h2 h3, ← first_compl n t h1 h2 h4, he]
        have hsz : sizeN s = sizeN t := by
          rw [← first_size n s h1 h2 h3, ← first_size n t h1 h2 h4, he]
        have hsa := fun W => size_any s W (by omega)
        have hsb := fun W => size_any t W (by omega)
        rw [hsz] at hsa
        rw [show decide (firstN n s = firstN n t) = true from by simpa using he] at him hsp
        rw [show decide (firstN n t = firstN n s) = true from by simpa using he.symm] at hba
        rw [show decide (firstN n (2 ^ n - 1 - s) = firstN n (2 ^ n - 1 - t)) = true from by simpa using hfc] at hcc
        have hsub : IntKind.i64.wrap (((2 ^ n - 1 : Nat) : Int) - (s : Int)) = ((2 ^ n - 1 - s : Nat) : Int) := by rw [IntWalk.i64_in _ (by omega)]; omega
        have hsub2 : IntKind.i64.wrap (((2 ^ n - 1 : Nat) : Int) - (t : Int)) = ((2 ^ n - 1 - t : Nat) : Int) := by rw [IntWalk.i64_in _ (by omega)]; omega
        have hal : 2 ^ n - 1 < 4096 := by omega
        clear he hfc hsz
        generalize sizeN t = z at *
        generalize hL : 2 ^ n - 1 = al at *
        generalize al - s = c at *
        generalize al - t = d at *
        have HIm := Lib.hid him
        have HSp := Lib.hid hsp
        have HBa := Lib.hid hba
        have HCc := Lib.hid hcc
        have HSa := Lib.hid hsa
        have HSb := Lib.hid hsb
        clear him hsp hba hcc hsa hsb hL
        go_wp2_with fail
        refine (HIm.out _).mono ?_
        rintro e w2 ⟨rfl, hb2⟩
        have HB := Lib.hid (HB.out.trans (hb2.mono HB.out.size))
        clear hb2
        go_wp2_with fail
        refine (HSp.out _).mono ?_
        rintro e w3 ⟨rfl, rfl⟩
        go_wp2_with fail
        refine (HBa.out _).mono ?_
        rintro e w4 ⟨rfl, hb4⟩
        have HB := Lib.hid (HB.out.trans (hb4.mono HB.out.size))
        clear hb4
        go_wp2_with fail
        refine (HCc.out _).mono ?_
        rintro e w5 ⟨rfl, hb5⟩
        have HB := Lib.hid (HB.out.trans (hb5.mono HB.out.size))
        clear hb5
        go_wp2_with fail
        refine (HSa.out _).mono ?_
        rintro e w6 ⟨rfl, rfl⟩
        go_wp2_with fail
        refine (HSb.out _).mono ?_
        rintro e w7 ⟨rfl, rfl⟩
        go_wp2
        go_ret
        exact ⟨rfl, HB.out⟩
      · rw [show decide (firstN n s = firstN n t) = false from by simpa using he] at him hsp
        have HIm := Lib.hid him
        have HSp := Lib.hid hsp
        clear him hsp he
        go_wp2_with fail
        refine (HIm.out _).mono ?_
        rintro e w2 ⟨rfl, hb2⟩
        have HB := Lib.hid (HB.out.trans (hb2.mono HB.out.size))
        clear hb2
        go_wp2_with fail
        refine (HSp.out _).mono ?_
        rintro e w3 ⟨rfl, rfl⟩
        go_wp2
        go_ret
        exact ⟨rfl, HB.out⟩
end Go.Proofs.Ythccchelemnnfaa
