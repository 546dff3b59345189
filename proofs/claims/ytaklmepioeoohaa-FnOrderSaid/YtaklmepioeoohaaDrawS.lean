/- Drawing a ring and steps. -/
import Derived.Test.YtaklmepioeoohaaGM
import Derived.Test.YtaklmepioeoohaaGC
import Derived.Test.YtaklmepioeoohaaGA
import Derived.Deep.RegionHeld
namespace Go.Proofs.Ytaklmepioeoohaa
open Go.RowKit Go.Shelf
set_option linter.unusedVariables false
theorem xor_one (a : Nat) (ha : a < 2 ^ 40) : bits .xor .i64 (a : Int) 1 = ((a ^^^ 1 : Nat) : Int) := by
  rw [show (1 : Int) = ((1 : Nat) : Int) from rfl]
  exact xor_nat a 1 (by omega) (by omega)
theorem wrap_powI (v : Nat) (hv : v < 40) : IntKind.i64.wrap ((2 : Int) ^ v) = ((2 ^ v : Nat) : Int) := by
  have h := two_pow_lt v hv
  rw [← cast_pow]
  generalize 2 ^ v = m at h ⊢
  exact IntWalk.i64_in _ (by omega)
theorem or_small (a b : Nat) (ha : a < 4096) (hb : b < 4096) : bits .or .i64 (a : Int) (b : Int) = ((a ||| b : Nat) : Int) := or_nat a b (by omega) (by omega)
theorem one_lt (n : Nat) (h1 : 1 ≤ n) : 1 < 2 ^ n := Nat.one_lt_two_pow (by omega)
theorem Reader.drew {W : World} {B R p : Nat} (h : Reader W B R p) : Reader W.drew B R p := by
  obtain ⟨⟨A, len, cap, f, h1, h2, h3⟩, hB⟩ := h
  exact ⟨⟨A, len, cap, f, h1, ⟨h2.byte, h2.cell⟩, h3⟩, hB⟩
def StepPost (W : World) (B R p : Nat) (e : Ending) (w' : World) : Prop :=
  ∃ n s q : Nat, e = .returned (.tuple #[.int .i64 (n : Int), .int .i64 (s : Int)]) ∧ 1 ≤ n ∧ n ≤ 12 ∧ s < 2 ^ n ∧ q ≤ p + 20 ∧ Reader w' B R q ∧ Aside R W w'
set_option maxRecDepth 100000 in
set_option maxHeartbeats 4000000 in
theorem step_any (W : World) (B R p : Nat) (h : Reader W B R p) (hp : p ≤ 900) :
    Calls Try.prog 71 #[.pointer (some ⟨R, 0, none⟩), .int .i64 12] W (StepPost W B R p) := by
  have HR := Lib.hid h
  clear h
  have hmx : Try.prog.follows .mixedOrders = true := by kernel_rfl
  go_enter Try.func71, Try.ntmps71
  go_wp2_with fail
  refine (draw_any W B R p 12 HR.out (by omega) (by omega) (by omega)).mono ?_
  rintro e w1 ⟨n0, rfl, hn0, hR1, hA1⟩
  have hn1 := hn0 (by omega)
  have HR1 := Lib.hid hR1
  have HA1 := Lib.hid hA1
  clear hR1 hA1 hn0
  obtain ⟨n, hn⟩ : ∃ n : Nat, n = 1 + n0 := ⟨_, rfl⟩
  have hnI : ((1 : Int) + (n0 : Int)) = (n : Int) := by omega
  have h2 : n ≤ 12 := by omega
  have h1 : 1 ≤ n := by omega
  have hpw := pow_le n h2
  have h1p := one_lt n h1
  clear hn hn1
  go_wp2_with fail
  refine (draw_any w1 B R (p + 1) 4 HR1.out (by omega) (by omega) (by omega)).mono ?_
  rintro e w2 ⟨kind, rfl, hk, hR2, hA2⟩
  have hk4 := hk (by omega)
  have HR2 := Lib.hid hR2
  have HA2 := Lib.hid (HA1.out.trans hA2)
  clear hR2 hA2 hk hnI
  by_cases hk0 : kind = 0
  · subst hk0
    go_wp2
    go_loopw [7, 9] (fun u v wr => ∃ k s q : Nat, 1 ≤ k ∧ k ≤ n ∧ s < 2 ^ n ∧ q ≤ p + 2 + k ∧ u = .int .i64 (s : Int) ∧ v = .int .i64 (k : Int) ∧ Reader wr B R q ∧ Aside R W wr) (fun _ v _ => n - (intOf v).toNat)
    case atStart => exact ⟨1, 0, p + 1 + 1, by omega, by omega, by omega, by omega, rfl, rfl, HR2.out, HA2.out⟩
    case round =>
      obtain ⟨k, s, q, hk1, hk, hs, hq, rfl, rfl, hR3, hA3⟩ := hrel
      have HR3 := Lib.hid hR3
      have HA3 := Lib.hid hA3
      clear hR3 hA3
      by_cases hlt : k < n
      · go_wp2_with fail
        refine (draw_any wr B R q 2 HR3.out (by omega) (by omega) (by omega)).mono ?_
        rintro e w3 ⟨d, rfl, hd, hR4, hA4⟩
        have HR4 := Lib.hid hR4
        have HA4 := Lib.hid (HA3.out.trans hA4)
        clear hR4 hA4 hd
        by_cases hd0 : d = 0
        · subst hd0
          have hw := with_nat s k (by omega) (by omega)
          have hl := or_pow_lt n s k hs (by omega)
          go_wp2
          go_roundw
          case rel => exact ⟨k + 1, s ||| 2 ^ k, q + 1, by omega, by omega, hl, by omega, rfl, by go_num, HR4.out, HA4.out⟩
          case measure => simp [intOf]; omega
        · have hdz : ((d : Int) == 0) = false := by simp; omega
          go_wp2
          go_roundw
          case rel => exact ⟨k + 1, s, q + 1, by omega, by omega, hs, by omega, rfl, by go_num, HR4.out, HA4.out⟩
          case measure => simp [intOf]; omega
      · have e : k = n := by omega
        subst e
        go_wp2_with fail
        refine (draw_any wr B R q 40 HR3.out (by omega) (by omega) (by omega)).mono ?_
        rintro e w9 ⟨d, rfl, hd, hR9, hA9⟩
        have HR9 := Lib.hid hR9
        have HA9 := Lib.hid (HA3.out.trans hA9)
        clear hR9 hA9 hd
        by_cases hd0 : d = 0
        · subst hd0
          have hxo := xor_one (s) (by omega)
          have hxl : s ^^^ 1 < 2 ^ k := Nat.xor_lt_two_pow hs h1p
          go_wp2
          go_ret2
          exact ⟨k, s ^^^ 1, _, rfl, h1, h2, hxl, by omega, HR9.out, HA9.out⟩
        · have hdz : ((d : Int) == 0) = false := by simp; omega
          go_wp2
          go_ret2
          exact ⟨k, s, _, rfl, h1, h2, hs, by omega, HR9.out, HA9.out⟩
  by_cases hk1 : kind = 1
  · subst hk1
    go_wp2
    go_loopw [7, 9] (fun u v wr => ∃ k s q : Nat, 1 ≤ k ∧ k ≤ n ∧ s < 2 ^ n ∧ q ≤ p + 2 + k ∧ u = .int .i64 (s : Int) ∧ v = .int .i64 (k : Int) ∧ Reader wr B R q ∧ Aside R W wr) (fun _ v _ => n - (intOf v).toNat)
    case atStart => exact ⟨1, 0, p + 1 + 1, by omega, by omega, by omega, by omega, rfl, rfl, HR2.out, HA2.out⟩
    case round =>
      obtain ⟨k, s, q, hk1, hk, hs, hq, rfl, rfl, hR3, hA3⟩ := hrel
      have HR3 := Lib.hid hR3
      have HA3 := Lib.hid hA3
      clear hR3 hA3
      by_cases hlt : k < n
      · go_wp2_with fail
        refine (draw_any wr B R q 4 HR3.out (by omega) (by omega) (by omega)).mono ?_
        rintro e w3 ⟨d, rfl, hd, hR4, hA4⟩
        have HR4 := Lib.hid hR4
        have HA4 := Lib.hid (HA3.out.trans hA4)
        clear hR4 hA4 hd
        by_cases hd0 : d = 0
        · subst hd0
          have hw := with_nat s k (by omega) (by omega)
          have hl := or_pow_lt n s k hs (by omega)
          go_wp2
          go_roundw
          case rel => exact ⟨k + 1, s ||| 2 ^ k, q + 1, by omega, by omega, hl, by omega, rfl, by go_num, HR4.out, HA4.out⟩
          case measure => simp [intOf]; omega
        · have hdz : ((d : Int) == 0) = false := by simp; omega
          go_wp2
          go_roundw
          case rel => exact ⟨k + 1, s, q + 1, by omega, by omega, hs, by omega, rfl, by go_num, HR4.out, HA4.out⟩
          case measure => simp [intOf]; omega
      · have e : k = n := by omega
        subst e
        go_wp2_with fail
        refine (draw_any wr B R q 40 HR3.out (by omega) (by omega) (by omega)).mono ?_
        rintro e w9 ⟨d, rfl, hd, hR9, hA9⟩
        have HR9 := Lib.hid hR9
        have HA9 := Lib.hid (HA3.out.trans hA9)
        clear hR9 hA9 hd
        by_cases hd0 : d = 0
        · subst hd0
          have hxo := xor_one (s) (by omega)
          have hxl : s ^^^ 1 < 2 ^ k := Nat.xor_lt_two_pow hs h1p
          go_wp2
          go_ret2
          exact ⟨k, s ^^^ 1, _, rfl, h1, h2, hxl, by omega, HR9.out, HA9.out⟩
        · have hdz : ((d : Int) == 0) = false := by simp; omega
          go_wp2
          go_ret2
          exact ⟨k, s, _, rfl, h1, h2, hs, by omega, HR9.out, HA9.out⟩
  have hkz : ((kind : Int) == 0) = false := by simp; omega
  have hkz1 : ((kind : Int) == 1) = false := by simp; omega
  have hkp : (1 : Int) < (kind : Int) := by omega
  go_wp2
  go_loop [7, 9] (fun u v => ∃ k : Nat, 1 ≤ k ∧ k ≤ n ∧ u = .int .i64 0 ∧ v = .int .i64 (k : Int)) (fun _ v => n - (intOf v).toNat)
  case atStart => exact ⟨1, by omega, by omega, rfl, rfl⟩
  case round =>
    obtain ⟨k, hk1', hk, rfl, rfl⟩ := hrel
    by_cases hlt : k < n
    · go_wp2
      go_round
      case rel => exact ⟨k + 1, by omega, by omega, rfl, by go_num⟩
      case measure => simp [intOf]; omega
    · have e : k = n := by omega
      subst e
      by_cases hn1 : k = 1
      · subst hn1
        by_cases hk3 : kind = 3
        · subst hk3
          have hbb := fun W => l2Both_any 1 0 W (by omega) (by omega) (by omega)
          rw [show bothN 1 0 = 0 from by decide +kernel] at hbb
          have HBo := Lib.hid hbb
          clear hbb
          go_wp2_with (go_at_call 92; refine (HBo.out _).mono ?_; rintro e w8 ⟨rfl, rfl⟩)
          refine (draw_any w2 B R (p + 1 + 1) 40 HR2.out (by omega) (by omega) (by omega)).mono ?_
          rintro e w9 ⟨d, rfl, hd, hR9, hA9⟩
          have HR9 := Lib.hid hR9
          have HA9 := Lib.hid (HA2.out.trans hA9)
          clear hR9 hA9 hd
          by_cases hd0 : d = 0
          · subst hd0
            have hxo := xor_one (0) (by omega)
            have hxl : 0 ^^^ 1 < 2 ^ 1 := Nat.xor_lt_two_pow (by omega) h1p
            go_wp2
            go_ret2
            exact ⟨1, 0 ^^^ 1, _, rfl, h1, h2, hxl, by omega, HR9.out, HA9.out⟩
          · have hdz : ((d : Int) == 0) = false := by simp; omega
            go_wp2
            go_ret2
            exact ⟨1, 0, _, rfl, h1, h2, (by omega), by omega, HR9.out, HA9.out⟩
        · have hk3z : ((kind : Int) == 3) = false := by simp; omega
          go_wp2_with fail
          refine (draw_any w2 B R (p + 1 + 1) 40 HR2.out (by omega) (by omega) (by omega)).mono ?_
          rintro e w9 ⟨d, rfl, hd, hR9, hA9⟩
          have HR9 := Lib.hid hR9
          have HA9 := Lib.hid (HA2.out.trans hA9)
          clear hR9 hA9 hd
          by_cases hd0 : d = 0
          · subst hd0
            have hxo := xor_one (0) (by omega)
            have hxl : 0 ^^^ 1 < 2 ^ 1 := Nat.xor_lt_two_pow (by omega) h1p
            go_wp2
            go_ret2
            exact ⟨1, 0 ^^^ 1, _, rfl, h1, h2, hxl, by omega, HR9.out, HA9.out⟩
          · have hdz : ((d : Int) == 0) = false := by simp; omega
            go_wp2
            go_ret2
            exact ⟨1, 0, _, rfl, h1, h2, (by omega), by omega, HR9.out, HA9.out⟩
      · have hn1' : (1 : Int) < (k : Int) := by omega
        have hsub := IntWalk.i64_in ((k : Int) - 1) ⟨by omega, by omega⟩
        have hA0 := Aside.start R w2
        go_wp2
        refine wp_region_held_drew (S := fun W2 => Aside R w2 W2) hmx hA0 (fun _ => ?_)
        refine take1 0 (v := ?_) rfl (by kernel_rfl) (by kernel_rfl) (by kernel_rfl) (fun _ _ _ h => h) (by rfl) ?_ hA0 ?_
        rotate_left
        · intro W2 hA
          clear hA
          go_simp
          try with_reducible rfl
        try simp only [Act.put, List.setIfInBounds_toArray, List.set_cons_zero, List.set_cons_succ]
        refine take1 1 (v := ?_) rfl (by kernel_rfl) (by kernel_rfl) (by kernel_rfl) (fun _ _ _ h => h) (by rfl) ?_ hA0 ?_
        rotate_left
        · intro W2 hA
          clear hA
          go_simp
          try with_reducible rfl
        try simp only [Act.put, List.setIfInBounds_toArray, List.set_cons_zero, List.set_cons_succ]
        refine take1 2 (v := ?_) rfl (by kernel_rfl) (by kernel_rfl) (by kernel_rfl) (fun _ _ _ h => h) (by rfl) ?_ hA0 ?_
        rotate_left
        · intro W2 hA
          clear hA
          go_simp
          try with_reducible rfl
        try simp only [Act.put, List.setIfInBounds_toArray, List.set_cons_zero, List.set_cons_succ]
        refine take1 6 (v := ?_) rfl (by kernel_rfl) (by kernel_rfl) (by kernel_rfl) (fun _ _ _ h => h) (by rfl) ?_ hA0 ?_
        rotate_left
        · intro W2 hA
          clear hA
          go_simp
          try with_reducible rfl
        try simp only [Act.put, List.setIfInBounds_toArray, List.set_cons_zero, List.set_cons_succ]
        refine take1 7 (v := ?_) rfl (by kernel_rfl) (by kernel_rfl) (by kernel_rfl) (fun _ _ _ h => h) (by rfl) ?_ hA0 ?_
        rotate_left
        · intro W2 hA
          clear hA
          go_simp
          try with_reducible rfl
        try simp only [Act.put, List.setIfInBounds_toArray, List.set_cons_zero, List.set_cons_succ]
        refine take1 8 (v := ?_) rfl (by kernel_rfl) (by kernel_rfl) (by kernel_rfl) (fun _ _ _ h => h) (by rfl) ?_ hA0 ?_
        rotate_left
        · intro W2 hA
          clear hA
          go_simp
          try with_reducible rfl
        try simp only [Act.put, List.setIfInBounds_toArray, List.set_cons_zero, List.set_cons_succ]
        refine step1 3 (by kernel_rfl) rfl (fun K hK => ?_)
        go_simp
        refine (draw_any w2.drew B R (p + 1 + 1) ((k : Int) - 1) HR2.out.drew (by omega) (by omega) (by omega)).mono ?_
        rintro e w3 ⟨a, rfl, ha, hR3, hA3'⟩
        have ha2 := ha (by omega)
        have hA3 := hA0.trans hA3'
        have HR3 := Lib.hid hR3
        clear hR3 ha hA3'
        go_wp2_with fail
        refine hK.out _ _ hA3 ?_
        clear hK K
        try simp only [Act.put, List.setIfInBounds_toArray, List.set_cons_zero, List.set_cons_succ]
        obtain ⟨u, hu⟩ : ∃ u : Nat, u = 1 + a := ⟨_, rfl⟩
        have eu : IntKind.i64.wrap ((1 : Int) + (a : Int)) = (u : Int) := by rw [IntWalk.i64_in _ (by omega)]; omega
        have lu : u < k := by omega
        have gu : 2 ^ u < 2 ^ k := Nat.pow_lt_pow_right (by omega) lu
        have ou : IntKind.i64.wrap ((2 : Int) ^ u) = ((2 ^ u : Nat) : Int) := wrap_powI u (by omega)
        have fu : wrap64 ((2 : Int) ^ u) = ((2 ^ u : Nat) : Int) := wrap_pow u (by omega)
        generalize 2 ^ u = U' at *
        clear hu ha2
        refine take1 4 (v := ?_) rfl (by kernel_rfl) (by kernel_rfl) (by kernel_rfl) (fun _ _ _ h => h) (by rfl) ?_ hA3 ?_
        rotate_left
        · intro W2 hA
          clear hA
          go_simp
          try with_reducible rfl
        try simp only [Act.put, List.setIfInBounds_toArray, List.set_cons_zero, List.set_cons_succ]
        refine take1 5 (v := ?_) rfl (by kernel_rfl) (by kernel_rfl) (by kernel_rfl) (fun _ _ _ h => h) (by rfl) ?_ hA3 ?_
        rotate_left
        · intro W2 hA
          clear hA
          go_simp
          try with_reducible rfl
        try simp only [Act.put, List.setIfInBounds_toArray, List.set_cons_zero, List.set_cons_succ]
        refine step1 9 (by kernel_rfl) rfl (fun K hK => ?_)
        go_simp
        refine (draw_any w3 B R (p + 1 + 1 + 1) ((k : Int) - 1) HR3.out (by omega) (by omega) (by omega)).mono ?_
        rintro e w4 ⟨b, rfl, hb, hR4, hA4'⟩
        have hb2 := hb (by omega)
        have hA4 := hA3.trans hA4'
        have HR4 := Lib.hid hR4
        clear hR4 hb hA4'
        go_wp2_with fail
        refine hK.out _ _ hA4 ?_
        clear hK K
        try simp only [Act.put, List.setIfInBounds_toArray, List.set_cons_zero, List.set_cons_succ]
        obtain ⟨t, ht⟩ : ∃ t : Nat, t = 1 + b := ⟨_, rfl⟩
        have et : IntKind.i64.wrap ((1 : Int) + (b : Int)) = (t : Int) := by rw [IntWalk.i64_in _ (by omega)]; omega
        have lt : t < k := by omega
        have gt : 2 ^ t < 2 ^ k := Nat.pow_lt_pow_right (by omega) lt
        have ot : IntKind.i64.wrap ((2 : Int) ^ t) = ((2 ^ t : Nat) : Int) := wrap_powI t (by omega)
        have ft : wrap64 ((2 : Int) ^ t) = ((2 ^ t : Nat) : Int) := wrap_pow t (by omega)
        generalize 2 ^ t = T' at *
        clear ht hb2
        refine take1 10 (v := ?_) rfl (by kernel_rfl) (by kernel_rfl) (by kernel_rfl) (fun _ _ _ h => h) (by rfl) ?_ hA4 ?_
        rotate_left
        · intro W2 hA
          clear hA
          go_simp
          try with_reducible rfl
        try simp only [Act.put, List.setIfInBounds_toArray, List.set_cons_zero, List.set_cons_succ]
        refine take1 11 (v := ?_) rfl (by kernel_rfl) (by kernel_rfl) (by kernel_rfl) (fun _ _ _ h => h) (by rfl) ?_ hA4 ?_
        rotate_left
        · intro W2 hA
          clear hA
          go_simp
          try with_reducible rfl
        try simp only [Act.put, List.setIfInBounds_toArray, List.set_cons_zero, List.set_cons_succ]
        have ho := or_small U' T' (Nat.lt_of_lt_of_le gu hpw) (Nat.lt_of_lt_of_le gt hpw)
        have hol : U' ||| T' < 2 ^ k := Nat.or_lt_two_pow gu gt
        generalize U' ||| T' = s at *
        have HA4 := Lib.hid (HA2.out.trans hA4)
        refine take1 12 (v := ?_) rfl (by kernel_rfl) (by kernel_rfl) (by kernel_rfl) (fun _ _ _ h => h) (by rfl) ?_ hA4 ?_
        rotate_left
        · intro W2 hA
          clear hA
          go_simp
          try with_reducible rfl
        try simp only [Act.put, List.setIfInBounds_toArray, List.set_cons_zero, List.set_cons_succ]
        refine take1 13 (v := ?_) rfl (by kernel_rfl) (by kernel_rfl) (by kernel_rfl) (fun _ _ _ h => h) (by rfl) ?_ hA4 ?_
        rotate_left
        · intro W2 hA
          clear hA
          go_simp
          try with_reducible rfl
        try simp only [Act.put, List.setIfInBounds_toArray, List.set_cons_zero, List.set_cons_succ]
        refine stop1 (by kernel_rfl) ?_
        by_cases hk3 : kind = 3
        · subst hk3
          have HBo := Lib.hid (fun W => l2Both_any k s W h1 h2 hol)
          have hbl := bothN_lt k s h1 hol
          generalize bothN k s = s' at *
          go_wp2_with (go_at_call 92; refine (HBo.out _).mono ?_; rintro e w8 ⟨rfl, rfl⟩)
          refine (draw_any w4 B R (p + 1 + 1 + 1 + 1) 40 HR4.out (by omega) (by omega) (by omega)).mono ?_
          rintro e w9 ⟨d, rfl, hd, hR9, hA9⟩
          have HR9 := Lib.hid hR9
          have HA9 := Lib.hid (HA4.out.trans hA9)
          clear hR9 hA9 hd
          by_cases hd0 : d = 0
          · subst hd0
            have hxo := xor_one (s') (by omega)
            have hxl : s' ^^^ 1 < 2 ^ k := Nat.xor_lt_two_pow hbl h1p
            go_wp2
            go_ret2
            exact ⟨k, s' ^^^ 1, _, rfl, h1, h2, hxl, by omega, HR9.out, HA9.out⟩
          · have hdz : ((d : Int) == 0) = false := by simp; omega
            go_wp2
            go_ret2
            exact ⟨k, s', _, rfl, h1, h2, hbl, by omega, HR9.out, HA9.out⟩
        · have hk3z : ((kind : Int) == 3) = false := by simp; omega
          go_wp2_with fail
          refine (draw_any w4 B R (p + 1 + 1 + 1 + 1) 40 HR4.out (by omega) (by omega) (by omega)).mono ?_
          rintro e w9 ⟨d, rfl, hd, hR9, hA9⟩
          have HR9 := Lib.hid hR9
          have HA9 := Lib.hid (HA4.out.trans hA9)
          clear hR9 hA9 hd
          by_cases hd0 : d = 0
          · subst hd0
            have hxo := xor_one (s) (by omega)
            have hxl : s ^^^ 1 < 2 ^ k := Nat.xor_lt_two_pow hol h1p
            go_wp2
            go_ret2
            exact ⟨k, s ^^^ 1, _, rfl, h1, h2, hxl, by omega, HR9.out, HA9.out⟩
          · have hdz : ((d : Int) == 0) = false := by simp; omega
            go_wp2
            go_ret2
            exact ⟨k, s, _, rfl, h1, h2, hol, by omega, HR9.out, HA9.out⟩
end Go.Proofs.Ytaklmepioeoohaa
