/- StepHalves and StepCuts of the model. -/
import Derived.Test.YtjgpdmjfpcdklaaStepH
import Derived.Test.YtjgpdmjfpcdklaaStepC
import Derived.Test.YtjgpdmjfpcdklaaStepWA
namespace Go.Proofs.Ytjgpdmjfpcdklaa
open Go.RowKit
set_option linter.unusedVariables false
theorem specStepHalves_yes (n s : Nat) (w : World) (h1 : 1 ≤ n) (h2 : n ≤ 12) (hs : s < 2 ^ n) (h0 : s.testBit 0 = false) :
    Calls Try.prog 11 #[.int .i64 (n:Int), .int .i64 (s:Int)] w fun e w' => e = .returned (.bool (halvesN n s)) ∧ w = w' := by
  have hp := pow_le n h2
  have hno := halves_not n s
  have hal := halves_all n s
  obtain ⟨hg1, hg2⟩ := partsN_pos n s h1
  have HI := Lib.hid (specStep_yes n s w h1 h2 hs h0)
  have HP := Lib.hid (l2Parts_any n s w h1 h2 hs h0)
  have hnz := nonzero_bit n s hs
  have hz : (s = 0) → halvesN n s = true := fun e => hal (fun v hv hb => by subst e; simp at hb)
  generalize partsN n s = g at *
  have hgz : ((g : Int) = 0) = False := by simp; omega
  have hgz2 : ((g : Int) == 0) = false := by simp; omega
  have q2 := quo_nat n g (by omega)
  obtain ⟨b, hb⟩ : ∃ b, n / g = b := ⟨_, rfl⟩
  rw [hb] at q2 hno hal
  have r2 := rem2_nat b
  clear hb
  have hb2 := Nat.mod_two_eq_zero_or_one b
  have HNO := Lib.hid hno
  have HAL := Lib.hid hal
  clear hno hal
  by_cases hs0 : s = 0
  · have HV := Lib.hid (hz hs0)
    subst hs0
    clear hz hnz hb2 r2 q2
    go_enter Try.func11, Try.ntmps11
    go_wp2_with (first | (go_at_call 35; refine HI.out.mono ?_; rintro e w' ⟨rfl, rfl⟩) | (go_at_call 36; refine HP.out.mono ?_; rintro e w' ⟨rfl, rfl⟩))
    go_loop [6] (fun v => ∃ j : Nat, 1 ≤ j ∧ j ≤ n ∧ v = .int .i64 (j : Int)) (fun v => n - (intOf v).toNat)
    case atStart => exact ⟨1, by omega, h1, rfl⟩
    case round =>
      obtain ⟨j, hj1, hj, rfl⟩ := hrel
      by_cases hlt : j < n
      · have hbj := has_nat 0 j (by omega)
        rw [Nat.zero_testBit] at hbj
        go_wp2
        go_round
        case rel => exact ⟨j + 1, by omega, by omega, by go_num⟩
        case measure => simp [intOf]; omega
      · go_wp2
        go_ret
        exact ⟨by rw [HV.out]; rfl, rfl⟩
  · have hsz : ((s : Int) == 0) = false := by simp; omega
    have hsz2 : ((s : Int) != 0) = true := by simp; omega
    clear hz
    rcases hb2 with hb0 | hb1
    · rw [hb0] at r2
      have HB0 := Lib.hid hb0
      clear hb0 hnz
      go_enter Try.func11, Try.ntmps11
      go_wp2_with (first | (go_at_call 35; refine HI.out.mono ?_; rintro e w' ⟨rfl, rfl⟩) | (go_at_call 36; refine HP.out.mono ?_; rintro e w' ⟨rfl, rfl⟩))
      go_loop [6] (fun v => ∃ j : Nat, 1 ≤ j ∧ j ≤ n ∧ v = .int .i64 (j : Int) ∧ Hid (∀ v : Nat, v < j → s.testBit v = true → ¬ (v / g % 2 = 0 ∨ b % 2 = 1))) (fun v => n - (intOf v).toNat)
      case atStart => exact ⟨1, by omega, h1, rfl, Lib.hid (fun v hv hb => by
        obtain rfl : v = 0 := by omega
        rw [h0] at hb
        cases hb)⟩
      case round =>
        obtain ⟨j, hj1, hj, rfl, hok⟩ := hrel
        by_cases hlt : j < n
        · have hbj := has_nat s j (by omega)
          have q1 := quo_nat j g (by omega)
          obtain ⟨a, ha⟩ : ∃ a, j / g = a := ⟨_, rfl⟩
          rw [ha] at q1
          have HA := Lib.hid ha
          clear ha
          have r1 := rem2_nat a
          by_cases hbit : s.testBit j = true
          · rcases Nat.mod_two_eq_zero_or_one a with h3 | h3
            · rw [h3] at r1
              have HV := Lib.hid (HNO.out j hlt hbit (.inl (by rw [HA.out]; exact h3)))
              clear h3
              go_wp2
              go_ret
              exact ⟨by rw [HV.out]; rfl, rfl⟩
            · rw [h3] at r1
              have HK : Hid (∀ v : Nat, v < j + 1 → s.testBit v = true → ¬ (v / g % 2 = 0 ∨ b % 2 = 1)) := Lib.hid (fun v hv hb => by
                by_cases e : v = j
                · subst e
                  rw [HA.out, h3, HB0.out]
                  omega
                · exact hok.out v (by omega) hb)
              clear h3
              go_wp2
              go_round
              case rel => exact ⟨j + 1, by omega, by omega, by go_num, HK⟩
              case measure => simp [intOf]; omega
          · have hbit' : s.testBit j = false := by simpa using hbit
            have HK : Hid (∀ v : Nat, v < j + 1 → s.testBit v = true → ¬ (v / g % 2 = 0 ∨ b % 2 = 1)) := Lib.hid (fun v hv hb => by
              by_cases e : v = j
              · subst e
                exact absurd hb hbit
              · exact hok.out v (by omega) hb)
            go_wp2
            go_round
            case rel => exact ⟨j + 1, by omega, by omega, by go_num, HK⟩
            case measure => simp [intOf]; omega
        · have e : j = n := by omega
          subst e
          have HV := Lib.hid (HAL.out hok.out)
          go_wp2
          go_ret
          exact ⟨by rw [HV.out]; rfl, rfl⟩
    · rw [hb1] at r2
      obtain ⟨v, hv, hbv⟩ := hnz hs0
      have HV := Lib.hid (HNO.out v hv hbv (.inr hb1))
      clear hb1 hnz hbv
      go_enter Try.func11, Try.ntmps11
      go_wp2_with (first | (go_at_call 35; refine HI.out.mono ?_; rintro e w' ⟨rfl, rfl⟩) | (go_at_call 36; refine HP.out.mono ?_; rintro e w' ⟨rfl, rfl⟩))
      go_ret
      exact ⟨by rw [HV.out]; rfl, rfl⟩
end Go.Proofs.Ytjgpdmjfpcdklaa
