/- StepHalves and StepCuts of the model. -/
import Derived.Test.YtgadlhcgaeilcaaStepH
import Derived.Test.YtgadlhcgaeilcaaStepC
import Derived.Test.YtgadlhcgaeilcaaStepWA
namespace Go.Proofs.Ytgadlhcgaeilcaa
open Go.RowKit
set_option linter.unusedVariables false
theorem specStepCuts_yes (n s t : Nat) (w : World) (h1 : 1 ≤ n) (h2 : n ≤ 12) (hs : s < 2 ^ n) (h0 : s.testBit 0 = false) (ht : t < 2 ^ n) :
    Calls Try.prog 38 #[.int .i64 (n:Int), .int .i64 (s:Int), .int .i64 (t:Int)] w fun e w' => e = .returned (.tuple #[.int .i64 ((cutsN n s t : Nat) : Int), .bool true]) ∧ w = w' := by
  have hp := pow_le n h2
  have HI := Lib.hid (specStep_yes n s w h1 h2 hs h0)
  have HT := Lib.hid (specIn_yes n t w h1 h2 ht)
  go_enter Try.func38, Try.ntmps38
  go_wp2_with (first | (go_at_call 13; refine HI.out.mono ?_; rintro e w' ⟨rfl, rfl⟩) | (go_at_call 41; refine HT.out.mono ?_; rintro e w' ⟨rfl, rfl⟩))
  go_loop [8, 9] (fun u v => ∃ j : Nat, j ≤ n ∧ u = .int .i64 ((overSet t (cutS n s t) j 0 : Nat) : Int) ∧ v = .int .i64 (j : Int)) (fun _ v => n - (intOf v).toNat)
  case atStart => exact ⟨0, Nat.zero_le _, rfl, rfl⟩
  case round =>
    obtain ⟨j, hj, rfl, rfl⟩ := hrel
    by_cases hlt : j < n
    · have hbt := has_nat t j (by omega)
      have hle := cutO_le n s t j h2
      have hsh := shiftN_lt n s (j : Int)
      have hll := lessN_lt t hsh
      have hsz := sizeN_le n _ h2 hll
      have HS := Lib.hid (over_step t (cutS n s t) j 0)
      have HU := Lib.hid (show cutS n s t j (overSet t (cutS n s t) j 0) = overSet t (cutS n s t) j 0 + sizeN (lessN (shiftN n s (j : Int)) t) from rfl)
      have HC := Lib.hid (l1Shift_any n s j w h1 h2 hs hlt)
      have hless := less_nat (shiftN n s (j : Int)) t (by omega) (by omega)
      have HZ := Lib.hid (l1Size_any (lessN (shiftN n s (j : Int)) t) w (by omega))
      generalize overSet t (cutS n s t) j 0 = o at *
      generalize shiftN n s (j : Int) = q at *
      generalize lessN q t = r at *
      generalize sizeN r = z at *
      clear hsh hll
      by_cases hbit : t.testBit j = true
      · go_wp2_with (first | (go_at_call 47; refine HC.out.mono ?_; rintro e w' ⟨rfl, rfl⟩) | (go_at_call 65; refine HZ.out.mono ?_; rintro e w' ⟨rfl, rfl⟩))
        go_round
        case rel => exact ⟨j + 1, by omega, by rw [HS.out, if_pos hbit, HU.out]; go_num, by go_num⟩
        case measure => simp [intOf]; omega
      · have hbit' : t.testBit j = false := by simpa using hbit
        go_wp2
        go_round
        case rel => exact ⟨j + 1, by omega, by rw [HS.out, if_neg hbit], by go_num⟩
        case measure => simp [intOf]; omega
    · have e : j = n := by omega
      subst e
      go_wp2
      go_ret2
      exact ⟨rfl, rfl⟩
end Go.Proofs.Ytgadlhcgaeilcaa
