/- The law FnHolds: what holds a set is even spaced. -/
import Derived.Test.YthccchelemnnfaaStepQ
import Derived.Test.YthccchelemnnfaaPLeast
import Derived.Test.YthccchelemnnfaaPSum
import Derived.Test.YthccchelemnnfaaWrapA
import Derived.Test.YthccchelemnnfaaSpecB
import Derived.Test.YthccchelemnnfaaHeld
import Derived.Deep.RegionHeld
namespace Go.Proofs.Ythccchelemnnfaa
open Go.RowKit Go.Shelf
set_option linter.unusedVariables false
theorem wrap_powH (v : Nat) (hv : v < 40) : IntKind.i64.wrap ((2 : Int) ^ v) = ((2 ^ v : Nat) : Int) := by
  have h := two_pow_lt v hv
  rw [← cast_pow]
  generalize 2 ^ v = m at h ⊢
  exact IntWalk.i64_in _ (by omega)
theorem all_wrap (n : Nat) (hn : n ≤ 12) : IntKind.i64.wrap (((2 ^ n : Nat) : Int) - 1) = ((2 ^ n - 1 : Nat) : Int) := by
  have h := pow_le n hn
  have h1 := Nat.two_pow_pos n
  generalize 2 ^ n = m at *
  rw [IntWalk.i64_in _ (by omega)]
  omega
theorem and_small (a b : Nat) (ha : a < 4096) (hb : b < 4096) : bits .and .i64 (a : Int) (b : Int) = ((a &&& b : Nat) : Int) := and_nat a b (by omega) (by omega)
theorem all_small (n : Nat) (hn : n ≤ 12) : 2 ^ n - 1 < 4096 := by
  have h := pow_le n hn
  omega
theorem l1SumW_any (n a b : Nat) (w : World) (h1 : 1 ≤ n) (h2 : n ≤ 12) (ha : a < 2 ^ 40) (hb : b < 2 ^ n) :
    Calls Try.prog 45 #[.int .i64 (n:Int), .int .i64 (a:Int), .int .i64 (b:Int)] w fun e w' => e = .returned (.int .i64 ((sumN n b a : Nat) : Int)) ∧ w = w' := by
  have hp := pow_le n h2
  go_enter Try.func45, Try.ntmps45
  go_wp2
  go_loop [7, 8] (fun u v => ∃ j : Nat, j ≤ n ∧ u = .int .i64 ((overSet a (sumS n b) j 0 : Nat) : Int) ∧ v = .int .i64 (j : Int)) (fun _ v => n - (intOf v).toNat)
  case atStart => exact ⟨0, Nat.zero_le _, rfl, rfl⟩
  case round =>
    obtain ⟨j, hj, rfl, rfl⟩ := hrel
    by_cases hlt : j < n
    · have hbt := has_nat a j (by omega)
      have ho := overSet_lt (sumS n b) n (2 ^ n) 0 a j (Nat.two_pow_pos n) hj (sumS_lt n b)
      have hsl := shiftN_lt n b (j : Int)
      have HO := or_nat (overSet a (sumS n b) j 0) (shiftN n b (j : Int)) (by omega) (by omega)
      have HS := Lib.hid (over_step a (sumS n b) j 0)
      have HC := Lib.hid (l1Shift_any n b j w h1 h2 hb hlt)
      by_cases hbit : a.testBit j = true
      · go_wp2_with (go_at_call 52; refine HC.out.mono ?_; rintro e w' ⟨rfl, rfl⟩)
        go_round
        case rel => exact ⟨j + 1, by omega, by rw [HS.out, if_pos hbit]; rfl, by go_num⟩
        case measure => simp [intOf]; omega
      · have hbit' : a.testBit j = false := by simpa using hbit
        go_wp2
        go_round
        case rel => exact ⟨j + 1, by omega, by rw [HS.out, if_neg hbit], by go_num⟩
        case measure => simp [intOf]; omega
    · have e : j = n := by omega
      subst e
      go_wp2
      go_ret
      exact ⟨rfl, rfl⟩
theorem Reader.drew' {W : World} {B R p : Nat} (h : Reader W B R p) : Reader W.drew B R p := by
  obtain ⟨⟨A, len, cap, f, h1, h2, h3⟩, hB⟩ := h
  exact ⟨⟨A, len, cap, f, h1, ⟨h2.byte, h2.cell⟩, h3⟩, hB⟩
set_option maxRecDepth 100000 in
set_option maxHeartbeats 4000000 in
theorem drawHolds_any (W : World) (B len cap : Nat) (A : Option Addr) (f : Nat → Nat) (hC : Code W B A len f) (hB : B ≤ W.heap.size) (hlc : len ≤ cap) (hcap : cap ≤ 9223372036854775807) :
    Calls Try.prog 21 #[.slice A len cap] W (OnePost W) := by
  have HC := Lib.hid (open_any W B len cap A f hC hB hlc hcap)
  clear hC
  go_enter Try.func21, Try.ntmps21
  go_wp2_with fail
  refine HC.out.mono ?_
  rintro e w1 ⟨R, A', len', cap', rfl, hR, hl, hRd, hCd, hb1⟩
  have z1 := hb1.size
  have HRd : Hid (Reader w1 B R 0) := Lib.hid ⟨⟨A', len', cap', f, hRd, hCd, hl⟩, by omega⟩
  clear hRd hCd
  go_wp2_with fail
  refine (set_any w1 B R 0 HRd.out (by omega)).mono ?_
  rintro e w2 ⟨n, s, q, rfl, hn1, hn2, hs, hq, hR2, hA2⟩
  have HR2 := Lib.hid hR2
  have HB2 := Lib.hid (hb1.trans (hA2.below (m := W.heap.size) hR z1))
  have z2 := HB2.out.size
  clear hR2 hA2
  by_cases hn : (n : Int) ≤ 12
  · have h2 : n ≤ 12 := by omega
    have hpw := pow_le n h2
    go_wp2_with fail
    refine (draw_any w2 B R q 2 HR2.out (by omega) (by omega) (by omega)).mono ?_
    rintro e w3 ⟨d, rfl, hd, hR3, hA3⟩
    have HR3 := Lib.hid hR3
    have HB3 := Lib.hid (HB2.out.trans (hA3.below (m := W.heap.size) hR z2))
    have z3 := HB3.out.size
    clear hR3 hA3 hd
    by_cases hd0 : d = 0
    · subst hd0
      have hmx : Try.prog.follows .mixedOrders = true := by kernel_rfl
      have e12 := all_wrap n h2
      have hal := all_small n h2
      have hpre : ∀ k : Nat, k < n → 2 ^ k < 2 ^ n := fun k hk => Nat.pow_lt_pow_right (by omega) hk
      have HP : Hid (∀ k : Nat, k < n → ∀ W, Calls Try.prog 51 #[.int .i64 (n:Int), .int .i64 ((2 ^ k : Nat):Int), .int .i64 1] W fun e w' => e = .returned (.int .i64 ((iterN n (2 ^ k) n : Nat) : Int)) ∧ W = w') := Lib.hid (fun k hk W => l2Part_any n (2 ^ k) W hn1 h2 (hpre k hk))
      have HL : Hid (∀ k : Nat, ∀ W, Calls Try.prog 45 #[.int .i64 (n:Int), .int .i64 (s:Int), .int .i64 ((iterN n (2 ^ k) n : Nat):Int)] W fun e w' => e = .returned (.int .i64 ((sumN n (iterN n (2 ^ k) n) s : Nat) : Int)) ∧ W = w') := Lib.hid (fun k W => l1SumW_any n s (iterN n (2 ^ k) n) W hn1 h2 (by omega) (iterN_lt n (2 ^ k) n hn1))
      have HO : Hid (∀ k : Nat, sumN n (iterN n (2 ^ k) n) s < 4096) := Lib.hid (fun k => Nat.lt_of_lt_of_le (sumN_lt n _ s) hpw)
      clear hpre
      generalize 2 ^ n - 1 = al at *
      have e11 := wrap_powH n (by omega)
      have f11 := wrap_pow n (by omega)
      clear hpw
      obtain ⟨N, hN⟩ : ∃ N, 2 ^ n = N := ⟨_, rfl⟩
      rw [hN] at e11 f11 e12
      have hA0 := Aside.start R w3
      go_wp2
      refine wp_region_held_drew (S := fun W2 => Aside R w3 W2) hmx hA0 (fun _ => ?_)
      refine take1 0 (v := ?_) rfl (by kernel_rfl) (by kernel_rfl) (by kernel_rfl) (fun _ _ _ h => h) (by rfl) ?_ hA0 ?_
      rotate_left
      · intro W2 hA
        clear hA
        go_simp
        try with_reducible rfl
      try simp only [Act.put, List.setIfInBounds_toArray, List.set_cons_zero, List.set_cons_succ]
      refine take1 1 (v := ?_) rfl (by kernel_rfl) (by kernel_rfl) (by kernel_rfl) (fun _ _ _ h => h) (by rfl) ?_ hA0 ?_
      rotate_left
      · intro W2 hA
        clear hA
        go_simp
        try with_reducible rfl
      try simp only [Act.put, List.setIfInBounds_toArray, List.set_cons_zero, List.set_cons_succ]
      refine take1 2 (v := ?_) rfl (by kernel_rfl) (by kernel_rfl) (by kernel_rfl) (fun _ _ _ h => h) (by rfl) ?_ hA0 ?_
      rotate_left
      · intro W2 hA
        clear hA
        go_simp
        try with_reducible rfl
      try simp only [Act.put, List.setIfInBounds_toArray, List.set_cons_zero, List.set_cons_succ]
      refine take1 3 (v := ?_) rfl (by kernel_rfl) (by kernel_rfl) (by kernel_rfl) (fun _ _ _ h => h) (by rfl) ?_ hA0 ?_
      rotate_left
      · intro W2 hA
        clear hA
        go_simp
        try with_reducible rfl
      try simp only [Act.put, List.setIfInBounds_toArray, List.set_cons_zero, List.set_cons_succ]
      refine take1 4 (v := ?_) rfl (by kernel_rfl) (by kernel_rfl) (by kernel_rfl) (fun _ _ _ h => h) (by rfl) ?_ hA0 ?_
      rotate_left
      · intro W2 hA
        clear hA
        go_simp
        try with_reducible rfl
      try simp only [Act.put, List.setIfInBounds_toArray, List.set_cons_zero, List.set_cons_succ]
      refine take1 5 (v := ?_) rfl (by kernel_rfl) (by kernel_rfl) (by kernel_rfl) (fun _ _ _ h => h) (by rfl) ?_ hA0 ?_
      rotate_left
      · intro W2 hA
        clear hA
        go_simp
        try with_reducible rfl
      try simp only [Act.put, List.setIfInBounds_toArray, List.set_cons_zero, List.set_cons_succ]
      refine take1 10 (v := ?_) rfl (by kernel_rfl) (by kernel_rfl) (by kernel_rfl) (fun _ _ _ h => h) (by rfl) ?_ hA0 ?_
      rotate_left
      · intro W2 hA
        clear hA
        go_simp
        try with_reducible rfl
      try simp only [Act.put, List.setIfInBounds_toArray, List.set_cons_zero, List.set_cons_succ]
      refine take1 11 (v := ?_) rfl (by kernel_rfl) (by kernel_rfl) (by kernel_rfl) (fun _ _ _ h => h) (by rfl) ?_ hA0 ?_
      rotate_left
      · intro W2 hA
        clear hA
        go_simp
        try with_reducible rfl
      try simp only [Act.put, List.setIfInBounds_toArray, List.set_cons_zero, List.set_cons_succ]
      refine take1 12 (v := ?_) rfl (by kernel_rfl) (by kernel_rfl) (by kernel_rfl) (fun _ _ _ h => h) (by rfl) ?_ hA0 ?_
      rotate_left
      · intro W2 hA
        clear hA
        go_simp
        try with_reducible rfl
      try simp only [Act.put, List.setIfInBounds_toArray, List.set_cons_zero, List.set_cons_succ]
      refine step1 6 (by kernel_rfl) rfl (fun K hK => ?_)
      go_simp
      refine (draw_any w3.drew B R (q + 1) n HR3.out.drew' (by omega) (by omega) (by omega)).mono ?_
      rintro e w4 ⟨k, rfl, hk, hR4, hA4'⟩
      have hk4 := hk (by omega)
      have hkn : k < n := by omega
      have hA4 := hA0.trans hA4'
      clear hR4 hA4' hk
      go_wp2_with fail
      refine hK.out _ _ hA4 ?_
      clear hK K
      try simp only [Act.put, List.setIfInBounds_toArray, List.set_cons_zero, List.set_cons_succ]
      have e7 := wrap_powH k (by omega)
      have f7 := wrap_pow k (by omega)
      have HPk := Lib.hid (HP.out k hkn)
      have HLk := Lib.hid (HL.out k)
      have hok := HO.out k
      generalize iterN n (2 ^ k) n = it at *
      generalize 2 ^ k = kk at *
      refine take1 7 (v := ?_) rfl (by kernel_rfl) (by kernel_rfl) (by kernel_rfl) (fun _ _ _ h => h) (by rfl) ?_ hA4 ?_
      rotate_left
      · intro W2 hA
        clear hA
        go_simp
        try with_reducible rfl
      try simp only [Act.put, List.setIfInBounds_toArray, List.set_cons_zero, List.set_cons_succ]
      refine step1 8 (by kernel_rfl) rfl (fun K hK => ?_)
      go_simp
      refine (HPk.out _).mono ?_
      rintro e w5 ⟨rfl, rfl⟩
      go_wp2_with fail
      refine hK.out _ _ hA4 ?_
      clear hK K
      try simp only [Act.put, List.setIfInBounds_toArray, List.set_cons_zero, List.set_cons_succ]
      refine step1 9 (by kernel_rfl) rfl (fun K hK => ?_)
      go_simp
      refine (HLk.out _).mono ?_
      rintro e w6 ⟨rfl, rfl⟩
      go_wp2_with fail
      refine hK.out _ _ hA4 ?_
      clear hK K
      try simp only [Act.put, List.setIfInBounds_toArray, List.set_cons_zero, List.set_cons_succ]
      have HB4 := Lib.hid (HB3.out.trans (hA4.below (m := W.heap.size) hR z3))
      generalize sumN n it s = o at *
      have hand := and_small o al hok hal
      have hla : o &&& al ≤ o := Nat.and_le_left
      generalize o &&& al = r at *
      refine take1 13 (v := ?_) rfl (by kernel_rfl) (by kernel_rfl) (by kernel_rfl) (fun _ _ _ h => h) (by rfl) ?_ hA4 ?_
      rotate_left
      · intro W2 hA
        clear hA
        go_simp
        try with_reducible rfl
      try simp only [Act.put, List.setIfInBounds_toArray, List.set_cons_zero, List.set_cons_succ]
      refine take1 14 (v := ?_) rfl (by kernel_rfl) (by kernel_rfl) (by kernel_rfl) (fun _ _ _ h => h) (by rfl) ?_ hA4 ?_
      rotate_left
      · intro W2 hA
        clear hA
        go_simp
        try with_reducible rfl
      try simp only [Act.put, List.setIfInBounds_toArray, List.set_cons_zero, List.set_cons_succ]
      refine take1 15 (v := ?_) rfl (by kernel_rfl) (by kernel_rfl) (by kernel_rfl) (fun _ _ _ h => h) (by rfl) ?_ hA4 ?_
      rotate_left
      · intro W2 hA
        clear hA
        go_simp
        try with_reducible rfl
      try simp only [Act.put, List.setIfInBounds_toArray, List.set_cons_zero, List.set_cons_succ]
      refine stop1 (by kernel_rfl) ?_
      go_wp2
      go_ret2
      exact ⟨n, r, by first | rfl | (trace_state; fail), hn1, hn2, by omega, HB4.out⟩
    · have hdz : ((d : Int) == 0) = false := by simp; omega
      go_wp2
      go_ret2
      exact ⟨n, s, rfl, hn1, hn2, hs, HB3.out⟩
  · have hn' : ¬ ((n : Int) ≤ 12) := hn
    go_wp2
    go_ret2
    exact ⟨n, s, rfl, hn1, hn2, hs, HB2.out⟩
theorem hold_bit (n s i : Nat) (h1 : 1 ≤ n) : (holdsN n s).testBit i = true ↔ i < n ∧ shiftN n s (i : Int) = s := by
  have h : ∀ j, j ≤ n → ((upto (holdS n s) j 0).testBit i = true ↔ i < j ∧ shiftN n s (i : Int) = s) := by
    intro j
    induction j with
    | zero => intro _; simp [upto]
    | succ j ih =>
      intro hj
      show (if shiftN n s (j : Int) = s then upto (holdS n s) j 0 ||| 2 ^ j else upto (holdS n s) j 0).testBit i = true ↔ _
      have ih' := ih (by omega)
      split
      · rename_i hs
        rw [Nat.testBit_or, Bool.or_eq_true, ih', Nat.testBit_two_pow, decide_eq_true_eq]
        constructor
        · rintro (⟨h, e⟩ | rfl)
          · exact ⟨by omega, e⟩
          · exact ⟨by omega, hs⟩
        · rintro ⟨h, e⟩
          by_cases hij : j = i
          · exact .inr hij
          · exact .inl ⟨by omega, e⟩
      · rename_i hs
        rw [ih']
        constructor
        · rintro ⟨h, e⟩; exact ⟨by omega, e⟩
        · rintro ⟨h, e⟩
          by_cases hij : i = j
          · subst hij; exact absurd e hs
          · exact ⟨by omega, e⟩
  unfold holdsN
  rw [overAll (holdS n s) n n 0 (Nat.le_refl n)]
  exact h n (Nat.le_refl n)
theorem hold_zero (n s : Nat) (h1 : 1 ≤ n) (hs : s < 2 ^ n) : (holdsN n s).testBit 0 = true := (hold_bit n s 0 h1).2 ⟨h1, shift_zero n s h1 hs⟩
theorem rest_nat (n a b : Nat) (h1 : 1 ≤ n) : rest n ((a : Int) + (b : Int)) = (a + b) % n := by
  have := rest_cast n ((a : Int) + (b : Int)) h1
  have e : (((a + b) % n : Nat) : Int) = ((a : Int) + (b : Int)) % (n : Int) := by rw [Int.natCast_emod, Int.natCast_add]
  omega
theorem hold_add (n s a b : Nat) (h1 : 1 ≤ n) (hs : s < 2 ^ n) (ha : (holdsN n s).testBit a = true) (hb : (holdsN n s).testBit b = true) : (holdsN n s).testBit ((a + b) % n) = true := by
  obtain ⟨ha1, ha2⟩ := (hold_bit n s a h1).1 ha
  obtain ⟨hb1, hb2⟩ := (hold_bit n s b h1).1 hb
  refine (hold_bit n s _ h1).2 ⟨Nat.mod_lt _ h1, ?_⟩
  rw [← rest_nat n a b h1, ← shift_norm n s _ h1 hs, ← shift_shift n s a b h1 hs, ha2, hb2]
theorem hold_self (n s : Nat) (h1 : 1 ≤ n) (hs : s < 2 ^ n) : sumN n (holdsN n s) (holdsN n s) = holdsN n s := by
  have hl := holdsN_lt n s
  refine Nat.eq_of_testBit_eq fun i => ?_
  rw [Bool.eq_iff_iff, sumN_bit n _ _ i h1 hl]
  constructor
  · rintro ⟨v, w, hv, hbv, hw, hbw, rfl⟩
    exact hold_add n s v w h1 hs hbv hbw
  · intro h
    have hi := lt_of_bits n _ hl i h
    exact ⟨0, i, h1, hold_zero n s h1 hs, hi, h, by rw [Nat.zero_add, Nat.mod_eq_of_lt hi]⟩
theorem hold_set (n s : Nat) (h1 : 1 ≤ n) (hs : s < 2 ^ n) : sumN n (holdsN n s) s = s := by
  have hl := holdsN_lt n s
  refine Nat.eq_of_testBit_eq fun i => ?_
  rw [Bool.eq_iff_iff, sumN_bit n _ _ i h1 hl]
  constructor
  · rintro ⟨v, w, hv, hbv, hw, hbw, rfl⟩
    obtain ⟨_, e⟩ := (hold_bit n s w h1).1 hbw
    rw [← e]
    refine (shiftN_bit n s w h1 hs _).2 ⟨v, hv, hbv, ?_⟩
    exact rest_nat n v w h1
  · intro h
    have hi := lt_of_bits n s hs i h
    exact ⟨i, 0, hi, h, h1, hold_zero n s h1 hs, by rw [Nat.add_zero, Nat.mod_eq_of_lt hi]⟩
theorem hold_part (n s : Nat) (h1 : 1 ≤ n) (hs : s < 2 ^ n) : holdsN n s = partN n (holdsN n s) := by
  have hl := holdsN_lt n s
  refine Nat.eq_of_testBit_eq fun i => ?_
  rw [Bool.eq_iff_iff, part_bit n _ i h1]
  constructor
  · intro h
    have hi := lt_of_bits n _ hl i h
    exact ⟨hi, parts_dvd_step n _ n i hi h⟩
  · rintro ⟨hi, m, hm⟩
    have hc := closed_parts n (holdsN n s) (holdsN n s) h1 (fun t ht hb v hv hv2 => hold_add n s v t h1 hs hv2 hb) n (Nat.le_refl n)
    have hg := closed_mul h1 hc m 0 (by omega) (hold_zero n s h1 hs)
    have e : m * overSet (holdsN n s) partsS n n = i := by rw [hm, Nat.mul_comm]; rfl
    rw [e, Nat.zero_add, Nat.mod_eq_of_lt hi] at hg
    exact hg
theorem cnt_period (s g : Nat) (n : Nat) (hper : ∀ v, v + g < n → s.testBit (v + g) = s.testBit v) (j : Nat) (hj : j * g ≤ n) : cntB s (j * g) = j * cntB s g := by
  have hbit : ∀ j r, r < g → j * g + r < n → s.testBit (j * g + r) = s.testBit r := by
    intro j
    induction j with
    | zero => intro r _ _; rw [Nat.zero_mul, Nat.zero_add]
    | succ j ih =>
      intro r hr hlt
      have e : (j + 1) * g + r = (j * g + r) + g := by rw [Nat.succ_mul]; omega
      rw [e] at hlt ⊢
      rw [hper _ hlt, ih r hr (by omega)]
  induction j with
  | zero => simp [cntB]
  | succ j ih =>
    rw [Nat.succ_mul] at hj
    have hrow : ∀ r, r ≤ g → cntB s (j * g + r) = cntB s (j * g) + cntB s r := by
      intro r
      induction r with
      | zero => intro _; rfl
      | succ r ihr =>
        intro hr
        show cntB s (j * g + r) + (if s.testBit (j * g + r) then 1 else 0) = cntB s (j * g) + (cntB s r + if s.testBit r then 1 else 0)
        rw [ihr (by omega), hbit j r (by omega) (by omega)]
        omega
    rw [Nat.succ_mul, hrow g (Nat.le_refl g), ih (by omega), Nat.succ_mul]
theorem hold_sizes (n s : Nat) (h1 : 1 ≤ n) (h2 : n ≤ 12) (hs : s < 2 ^ n) : 1 ≤ sizeN (holdsN n s) ∧ n % sizeN (holdsN n s) = 0 ∧ sizeN s % sizeN (holdsN n s) = 0 := by
  have hl := holdsN_lt n s
  obtain ⟨hf, _⟩ := part_facts n (holdsN n s) h1 h2
  have hbits := fun i => part_bit n (holdsN n s) i h1
  rw [← hold_part n s h1 hs] at hf
  obtain ⟨hg1, hg2⟩ := partsN_pos n (holdsN n s) h1
  have hdn : partsN n (holdsN n s) ∣ n := parts_dvd_n n _ n
  have hper : ∀ v, v + partsN n (holdsN n s) < n → s.testBit (v + partsN n (holdsN n s)) = s.testBit v := by
    intro v hv
    have hgb : (holdsN n s).testBit (partsN n (holdsN n s)) = true := by
      have h := (hbits (partsN n (holdsN n s))).2 ⟨by omega, Nat.dvd_refl _⟩
      rw [← hold_part n s h1 hs] at h
      exact h
    obtain ⟨_, e⟩ := (hold_bit n s _ h1).1 hgb
    have h := shift_mem n s ((partsN n (holdsN n s) : Nat) : Int) h1 hs (v + partsN n (holdsN n s)) hv
    rw [e] at h
    rw [h]
    have e2 : (((v + partsN n (holdsN n s) : Nat) : Int) - ((partsN n (holdsN n s) : Nat) : Int)) = (v : Int) := by omega
    rw [e2, rest_self n v (by omega)]
  generalize partsN n (holdsN n s) = g at *
  generalize sizeN (holdsN n s) = k at *
  have hk : 1 ≤ k := by
    rcases Nat.eq_zero_or_pos k with h | h
    · subst h; omega
    · exact h
  refine ⟨hk, ?_, ?_⟩
  · rw [← hf]; exact Nat.mul_mod_right k g
  · have hc := cnt_period s g n hper k (by omega)
    rw [hf] at hc
    rw [sizeN_of n s h2 hs, popF_cnt, hc]
    exact Nat.mul_mod_right k _
theorem law_Holds (W : World) (B len cap : Nat) (A : Option Addr) (f : Nat → Nat) (hC : Code W B A len f) (hB : B ≤ W.heap.size) (hlc : len ≤ cap) (hcap : cap ≤ 9223372036854775807) :
    Calls Try.prog 5 #[.slice A len cap] W fun e w' => e = .returned (.bool true) ∧ Below W.heap.size W w' := by
  have HC := Lib.hid (drawHolds_any W B len cap A f hC hB hlc hcap)
  clear hC
  by_cases hlen : (1048576 : Int) < (len : Int)
  · go_enter Try.func5, Try.ntmps5
    go_wp2
    go_ret
    exact ⟨rfl, Below.refl _ _⟩
  · go_enter Try.func5, Try.ntmps5
    go_wp2_with fail
    refine HC.out.mono ?_
    rintro e w1 ⟨n, s, rfl, hn1, hn2, hs, hb1⟩
    have HB := Lib.hid hb1
    clear hb1
    by_cases hno : NotIn (n : Int) (s : Int)
    · have HN := Lib.hid hno
      clear hno
      go_wp2_with fail
      refine (implHolds_no n s _ HN.out).mono ?_
      rintro e w2 ⟨rfl, hb2⟩
      have HB := Lib.hid (HB.out.trans (hb2.mono HB.out.size))
      clear hb2
      go_wp2_with fail
      refine (specHolds_no n s _ HN.out).mono ?_
      rintro e w3 ⟨rfl, rfl⟩
      go_wp2
      go_ret
      exact ⟨rfl, HB.out⟩
    · obtain ⟨m, s', hm, hs', h1, h2, h3⟩ := not_notIn hno
      obtain rfl : n = m := by omega
      obtain rfl : s = s' := by omega
      clear hno hm hs' hn2 hs
      have hpw := pow_le n h2
      have hol := holdsN_lt n s
      obtain ⟨hk1, hk2, hk3⟩ := hold_sizes n s h1 h2 h3
      have him := fun W => implHolds_yes n s W h1 h2 h3
      have hsp := fun W => specHolds_yes n s W h1 h2 h3
      have hx := fun W => implSum_yes n (holdsN n s) (holdsN n s) W h1 h2 hol hol
      rw [hold_self n s h1 h3] at hx
      have hy := fun W => implSum_yes n (holdsN n s) s W h1 h2 hol h3
      rw [hold_set n s h1 h3] at hy
      have hsa := fun W => size_any (holdsN n s) W (by omega)
      have hsb := fun W => size_any s W (by omega)
      have hb0 := low_nat (holdsN n s) (by omega)
      rw [hold_zero n s h1 h3] at hb0
      have hb1 : bits .and .i64 ((holdsN n s : Nat) : Int) 1 = 1 := by
        have h := and_nat (holdsN n s) 1 (by omega) (by omega)
        rw [show ((1 : Nat) : Int) = 1 from rfl, Nat.and_one_is_mod] at h
        have hz := hold_zero n s h1 h3
        rw [bit0, decide_eq_true_eq] at hz
        rw [h, hz]; rfl
      generalize holdsN n s = o at *
      generalize sizeN o = k at *
      generalize sizeN s = z at *
      have hkz : ((k : Int) = 0) = False := by simp; omega
      have hkz2 : ((k : Int) == 0) = false := by simp; omega
      have hnm : ((n : Int)).tmod (k : Int) = 0 := by rw [← Int.ofNat_tmod, hk2]; rfl
      have hnm2 : ((n : Int)) % (k : Int) = 0 := by rw [← Int.natCast_emod, hk2]; rfl
      have hzm : ((z : Int)).tmod (k : Int) = 0 := by rw [← Int.ofNat_tmod, hk3]; rfl
      have hzm2 : ((z : Int)) % (k : Int) = 0 := by rw [← Int.natCast_emod, hk3]; rfl
      have HIm := Lib.hid him
      have HSp := Lib.hid hsp
      have HX := Lib.hid hx
      have HY := Lib.hid hy
      have HSa := Lib.hid hsa
      have HSb := Lib.hid hsb
      clear him hsp hx hy hsa hsb hk2 hk3
      go_wp2_with fail
      refine (HIm.out _).mono ?_
      rintro e w2 ⟨rfl, hb2⟩
      have HB := Lib.hid (HB.out.trans (hb2.mono HB.out.size))
      clear hb2
      go_wp2_with fail
      refine (HSp.out _).mono ?_
      rintro e w3 ⟨rfl, rfl⟩
      go_wp2_with fail
      refine (HX.out _).mono ?_
      rintro e w4 ⟨rfl, hb4⟩
      have HB := Lib.hid (HB.out.trans (hb4.mono HB.out.size))
      clear hb4
      go_wp2_with fail
      refine (HY.out _).mono ?_
      rintro e w5 ⟨rfl, hb5⟩
      have HB := Lib.hid (HB.out.trans (hb5.mono HB.out.size))
      clear hb5
      go_wp2_with fail
      refine (HSa.out _).mono ?_
      rintro e w6 ⟨rfl, rfl⟩
      go_wp2_with fail
      refine (HSb.out _).mono ?_
      rintro e w7 ⟨rfl, rfl⟩
      go_wp2
      go_ret
      exact ⟨rfl, HB.out⟩
end Go.Proofs.Ythccchelemnnfaa
