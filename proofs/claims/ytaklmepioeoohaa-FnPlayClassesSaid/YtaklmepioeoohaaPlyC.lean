/- Plays of a ring: the model's threes and equal plays. Written by gen63.py. -/
import Derived.Test.YtaklmepioeoohaaPlyB
namespace Go.Proofs.Ytaklmepioeoohaa
open Go.RowKit Go.Shelf
set_option linter.unusedVariables false
set_option maxHeartbeats 1000000 in
theorem specPlayEqual_yes (n s : Nat) (w : World) (h2 : n ≤ 12) (hs : s < 2 ^ n) (hp : playB n s = true) :
    Calls Try.prog 30 #[.int .i64 (n:Int), .int .i64 (s:Int)] w fun e w' => e = .returned (.tuple #[.int .i64 ((evZ n s : Nat) : Int), .bool (evenB n s)]) ∧ w = w' := by
  have h1 := ((play_iff n s).1 hp).1
  have hpw := pow_le n h2
  have HI := Lib.hid (fun W => specPlayIn_yes n s W h2 hs hp)
  have HMp : Hid (∀ v : Nat, v ≤ 12 → ∀ W, Calls Try.prog 44 #[.int .i64 (n:Int), .int .i64 (s:Int), .int .i64 1, .int .i64 (v:Int)] W fun e w' => e = .returned (.int .i64 ((shiftN n s (v : Int) : Nat) : Int)) ∧ W = w') := Lib.hid (fun v hv W => by
    rw [← map_shift n s (v : Int) (by omega) hs]
    exact l1Map_any n s 1 (v : Int) W (by omega) h2 (pow_mono h2 hs) (by omega) (by omega) (by omega) (by omega))
  have HM1 : Hid (∀ W, Calls Try.prog 44 #[.int .i64 (n:Int), .int .i64 (s:Int), .int .i64 1, .int .i64 1] W fun e w' => e = .returned (.int .i64 ((shiftN n s ((1 : Nat) : Int) : Nat) : Int)) ∧ W = w') := Lib.hid (fun W => HMp.out 1 (by omega) W)
  have HAn : Hid (∀ v : Nat, bits .and .i64 (s : Int) ((shiftN n s (v : Int) : Nat) : Int) = ((s &&& shiftN n s (v : Int) : Nat) : Int)) := Lib.hid (fun v => and_nat s _ (by omega) (by have := shiftN_lt n s (v : Int); omega))
  have HSz : Hid (∀ (v : Nat) W, Calls Try.prog 64 #[.int .i64 ((s &&& shiftN n s (v : Int) : Nat) : Int)] W fun e w' => e = .returned (.int .i64 ((difN n s v : Nat) : Int)) ∧ W = w') := Lib.hid (fun v W => l1Size_any _ W (Nat.lt_of_le_of_lt Nat.and_le_left (by omega)))
  have a1 := HAn.out 1
  have HZ1 := Lib.hid (HSz.out 1)
  have HYes : Hid ((∀ i, 2 ≤ i → i < n → difN n s i = difN n s 1) → (evZ n s = difN n s 1 ∧ evenB n s = true)) := Lib.hid (fun h => by
    have he : evenB n s = true := ev_of n s n h
    exact ⟨by unfold evZ; rw [if_pos he], he⟩)
  have HNo : Hid (∀ i, 2 ≤ i → i < n → difN n s i ≠ difN n s 1 → (evZ n s = 0 ∧ evenB n s = false)) := Lib.hid (fun i h1 h2 h3 => by
    have he : evenB n s = false := ev_not n s n i h1 h2 h3
    exact ⟨by unfold evZ; rw [he]; rfl, he⟩)
  generalize shiftN n s ((1 : Nat) : Int) = sh1 at *
  generalize s &&& sh1 = an1 at *
  clear hs hp hpw
  go_enter Try.func30, Try.ntmps30
  go_wp2_with (first
    | (go_at_call 13; refine (HI.out _).mono ?_; rintro e w' ⟨rfl, rfl⟩)
    | (go_at_call 44; refine (HM1.out _).mono ?_; rintro e w' ⟨rfl, rfl⟩)
    | (go_at_call 64; refine (HZ1.out _).mono ?_; rintro e w' ⟨rfl, rfl⟩))
  go_loopw [7] (fun u wr => ∃ v : Nat, 2 ≤ v ∧ v ≤ n ∧ u = .int .i64 (v : Int) ∧ Hid (∀ i, 2 ≤ i → i < v → difN n s i = difN n s 1) ∧ w = wr) (fun u _ => n - (intOf u).toNat)
  case atStart => exact ⟨2, Nat.le_refl _, by omega, rfl, Lib.hid (fun i a b => absurd b (by omega)), by first | rfl | trivial⟩
  case round =>
    obtain ⟨v, hv1, hv, rfl, HAll, rfl⟩ := hrel
    by_cases hlt : v < n
    · have HMv := Lib.hid (HMp.out v (by omega))
      have av := HAn.out v
      have HZv := Lib.hid (HSz.out v)
      by_cases he : difN n s v = difN n s 1
      · have HAll2 : Hid (∀ i, 2 ≤ i → i < v + 1 → difN n s i = difN n s 1) := Lib.hid (fun i a b => by
          by_cases c : i = v
          · subst c; exact he
          · exact HAll.out i a (by omega))
        have e1 := beq_same he
        have e2 := bne_same he
        generalize shiftN n s (v : Int) = sh at *
        generalize s &&& sh = an at *
        generalize difN n s v = x at *
        clear he HAll
        go_wp2_with (first
          | (go_at_call 44; refine (HMv.out _).mono ?_; rintro e w' ⟨rfl, rfl⟩)
          | (go_at_call 64; refine (HZv.out _).mono ?_; rintro e w' ⟨rfl, rfl⟩))
        go_roundw
        case rel => exact ⟨v + 1, by omega, by omega, by go_num, HAll2, by first | rfl | trivial⟩
        case measure => simp [intOf]; omega
      · have HF := Lib.hid (HNo.out v hv1 hlt he)
        have e1 := beq_other he
        have e2 := bne_cast he
        generalize shiftN n s (v : Int) = sh at *
        generalize s &&& sh = an at *
        generalize difN n s v = x at *
        clear he HAll
        go_wp2_with (first
          | (go_at_call 44; refine (HMv.out _).mono ?_; rintro e w' ⟨rfl, rfl⟩)
          | (go_at_call 64; refine (HZv.out _).mono ?_; rintro e w' ⟨rfl, rfl⟩))
        go_ret2
        exact ⟨by rw [HF.out.1, HF.out.2]; rfl, by first | rfl | trivial⟩
    · obtain rfl : v = n := by omega
      have HF := Lib.hid (HYes.out HAll.out)
      generalize difN v s 1 = x at *
      go_wp2
      go_ret2
      exact ⟨by rw [HF.out.1, HF.out.2]; rfl, by first | rfl | trivial⟩
theorem three_bounds (n s a b c : Nat) (h2 : n ≤ 12) (ha : a ≤ n) (hb : b ≤ n) (hc : c ≤ n) : thA n s a + thB n s a b + thC n s a b c ≤ 2000 := by
  have x := thA_le n s a h2 ha
  have y := thB_le n s a b h2 hb
  have z := thC_le n s a b c h2 hc
  omega
set_option maxHeartbeats 1000000 in
theorem specPlayThree_yes (n s : Nat) (w : World) (h2 : n ≤ 12) (hs : s < 2 ^ n) (hp : playB n s = true) :
    Calls Try.prog 23 #[.int .i64 (n:Int), .int .i64 (s:Int)] w fun e w' => e = .returned (.tuple #[.int .i64 ((threeN n s : Nat) : Int), .bool true]) ∧ w = w' := by
  have h1 := ((play_iff n s).1 hp).1
  have HI := Lib.hid (fun W => specPlayIn_yes n s W h2 hs hp)
  have HBt := Lib.hid (fun (v u : Nat) (hv : v ≤ 12) (hu : u ≤ 12) W => l8Beats_any n s v u W (by omega) h2 hs hv hu)
  have HLe := Lib.hid (fun a b c => three_bounds n s a b c h2)
  have HSB := Lib.hid (fun a => thB_start n s a)
  have HSC := Lib.hid (fun a b => thC_start n s a b)
  have HCy := Lib.hid (fun a b c => thC_yes n s a b c)
  have HCn := Lib.hid (fun a b c => thC_no n s a b c)
  have HBs := Lib.hid (fun a b => thB_step n s a b)
  have HAs := Lib.hid (fun a => thA_step n s a)
  have HE : Hid (thA n s n = threeN n s) := Lib.hid rfl
  have HCi : Hid (∀ a b c, circB n s a b c = (beatB n s a b == beatB n s b c && beatB n s a b == beatB n s c a)) := Lib.hid (fun _ _ _ => rfl)
  have HZ : Hid (thA n s 0 = 0) := Lib.hid rfl
  clear hs hp
  go_enter Try.func23, Try.ntmps23
  go_wp2_with (go_at_call 13; refine (HI.out _).mono ?_; rintro e w' ⟨rfl, rfl⟩)
  go_loopw [6, 7] (fun u v wr => ∃ k a : Nat, a ≤ n ∧ u = .int .i64 (k : Int) ∧ v = .int .i64 (a : Int) ∧ Hid (k = thA n s a) ∧ w = wr) (fun _ v _ => n - (intOf v).toNat)
  case atStart => exact ⟨0, 0, Nat.zero_le _, rfl, rfl, Lib.hid HZ.out.symm, by first | rfl | trivial⟩
  case round =>
    obtain ⟨k, a, ha, rfl, rfl, HK, rfl⟩ := hrel
    by_cases hlt : a < n
    · go_wp2
      go_loopw [6, 8] (fun u v wr => ∃ k b : Nat, a + 1 ≤ b ∧ b ≤ n ∧ u = .int .i64 (k : Int) ∧ v = .int .i64 (b : Int) ∧ Hid (k = thA n s a + thB n s a b) ∧ w = wr) (fun _ v _ => n - (intOf v).toNat)
      case atStart => exact ⟨k, a + 1, Nat.le_refl _, by omega, rfl, by go_num, Lib.hid (by rw [HSB.out, HK.out]; rfl), by first | rfl | trivial⟩
      case round =>
        obtain ⟨k, b, hb1, hb, rfl, rfl, HKb, rfl⟩ := hrel
        by_cases hlb : b < n
        · go_wp2
          go_loopw [6, 9] (fun u v wr => ∃ k c : Nat, b + 1 ≤ c ∧ c ≤ n ∧ u = .int .i64 (k : Int) ∧ v = .int .i64 (c : Int) ∧ Hid (k = thA n s a + thB n s a b + thC n s a b c) ∧ w = wr) (fun _ v _ => n - (intOf v).toNat)
          case atStart => exact ⟨k, b + 1, Nat.le_refl _, by omega, rfl, by go_num, Lib.hid (by rw [HSC.out, HKb.out]; rfl), by first | rfl | trivial⟩
          case round =>
            obtain ⟨k, c, hc1, hc, rfl, rfl, HKc, rfl⟩ := hrel
            by_cases hlc : c < n
            · have hk : k ≤ 2000 := by rw [HKc.out]; exact HLe.out a b c ha hb hc
              have HX := Lib.hid (HBt.out a b (by omega) (by omega))
              have HY := Lib.hid (HBt.out b c (by omega) (by omega))
              have HZz := Lib.hid (HBt.out c a (by omega) (by omega))
              have hci := HCi.out a b c
              have hy := HCy.out a b c (by omega)
              have hn := HCn.out a b c
              generalize beatB n s a b = x at *
              generalize beatB n s b c = y at *
              generalize beatB n s c a = z at *
              cases hcb : circB n s a b c
              · rw [hcb] at hci
                have HS := Lib.hid (hn hcb)
                have HCc := Lib.hid hci
                clear hci hy hn hcb
                cases x <;> cases y <;> cases z <;> first | exact absurd HCc.out (by decide) | skip
                all_goals
                  go_wp2_with fail
                  refine (HX.out _).mono ?_
                  rintro e w' ⟨rfl, rfl⟩
                  go_wp2_with fail
                  refine (HY.out _).mono ?_
                  rintro e w' ⟨rfl, rfl⟩
                  go_wp2_with (go_at_call 57; refine (HZz.out _).mono ?_; rintro e w' ⟨rfl, rfl⟩)
                  go_roundw
                  case rel => exact ⟨k, c + 1, by omega, by omega, rfl, by go_num, Lib.hid (by rw [HS.out, HKc.out]), by first | rfl | trivial⟩
                  case measure => simp [intOf]; omega
              · rw [hcb] at hci
                have HS := Lib.hid (hy hcb)
                have HCc := Lib.hid hci
                clear hci hy hn hcb
                cases x <;> cases y <;> cases z <;> first | exact absurd HCc.out (by decide) | skip
                all_goals
                  go_wp2_with fail
                  refine (HX.out _).mono ?_
                  rintro e w' ⟨rfl, rfl⟩
                  go_wp2_with fail
                  refine (HY.out _).mono ?_
                  rintro e w' ⟨rfl, rfl⟩
                  go_wp2_with (go_at_call 57; refine (HZz.out _).mono ?_; rintro e w' ⟨rfl, rfl⟩)
                  go_roundw
                  case rel => exact ⟨k + 1, c + 1, by omega, by omega, by go_num, by go_num, Lib.hid (by rw [HS.out, HKc.out]; rfl), by first | rfl | trivial⟩
                  case measure => simp [intOf]; omega
            · obtain rfl : c = n := by omega
              have HS := Lib.hid (HBs.out a b (by omega))
              go_wp2
              go_roundw
              case rel => exact ⟨k, b + 1, by omega, by omega, rfl, by go_num, Lib.hid (by rw [← HS.out, ← Nat.add_assoc]; exact HKc.out), by first | rfl | trivial⟩
              case measure => simp [intOf]; omega
        · obtain rfl : b = n := by omega
          have HS := Lib.hid (HAs.out a)
          go_wp2
          go_roundw
          case rel => exact ⟨k, a + 1, by omega, rfl, by go_num, Lib.hid (by rw [← HS.out]; exact HKb.out), by first | rfl | trivial⟩
          case measure => simp [intOf]; omega
    · obtain rfl : a = n := by omega
      go_wp2
      go_ret2
      exact ⟨by rw [← HE.out, ← HK.out]; rfl, by first | rfl | trivial⟩
end Go.Proofs.Ytaklmepioeoohaa
