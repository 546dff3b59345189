/- The model's functions of chapter 1. -/
import Derived.Test.YtgadlhcgaeilcaaMath
import Derived.WalkLawsBesides
namespace Go.Proofs.Ytgadlhcgaeilcaa
open Go.RowKit
set_option linter.unusedVariables false
theorem over_step {α : Type} (s : Nat) (f : Nat → α → α) (k : Nat) (a : α) : overSet s f (k + 1) a = if s.testBit k then f k (overSet s f k a) else overSet s f k a := rfl
theorem l1Shift_any (n s k : Nat) (w : World) (h1 : 1 ≤ n) (h2 : n ≤ 12) (hs : s < 2 ^ n) (hk : k < n) :
    Calls Try.prog 47 #[.int .i64 (n:Int), .int .i64 (s:Int), .int .i64 1, .int .i64 (k:Int)] w fun e w' => e = .returned (.int .i64 ((shiftN n s k : Nat) : Int)) ∧ w = w' := by
  have h := l1Map_any n s 1 (k : Int) w h1 h2 (pow_mono h2 hs) (by omega) (by omega) (by omega) (by omega)
  rw [map_shift n s k h1 hs] at h
  exact h
theorem l1Turn_any (n s : Nat) (m : Int) (w : World) (h1 : 1 ≤ n) (h2 : n ≤ 12) (hs : s < 2 ^ n) (hm1 : -1000 ≤ m) (hm2 : m ≤ 1000) :
    Calls Try.prog 47 #[.int .i64 (n:Int), .int .i64 (s:Int), .int .i64 m, .int .i64 0] w fun e w' => e = .returned (.int .i64 ((turnN n s m : Nat) : Int)) ∧ w = w' := by
  have h := l1Map_any n s m 0 w h1 h2 (pow_mono h2 hs) hm1 hm2 (by omega) (by omega)
  rw [← turn_map n s m] at h
  exact h
theorem l1Sum_any (n a b : Nat) (w : World) (h1 : 1 ≤ n) (h2 : n ≤ 12) (ha : a < 2 ^ n) (hb : b < 2 ^ n) :
    Calls Try.prog 73 #[.int .i64 (n:Int), .int .i64 (a:Int), .int .i64 (b:Int)] w fun e w' => e = .returned (.int .i64 ((sumN n b a : Nat) : Int)) ∧ w = w' := by
  have hp := pow_le n h2
  go_enter Try.func73, Try.ntmps73
  go_wp2
  go_loop [7, 8] (fun u v => ∃ j : Nat, j ≤ n ∧ u = .int .i64 ((overSet a (sumS n b) j 0 : Nat) : Int) ∧ v = .int .i64 (j : Int)) (fun _ v => n - (intOf v).toNat)
  case atStart => exact ⟨0, Nat.zero_le _, rfl, rfl⟩
  case round =>
    obtain ⟨j, hj, rfl, rfl⟩ := hrel
    by_cases hlt : j < n
    · have hbt := has_nat a j (by omega)
      have ho := overSet_lt (sumS n b) n (2 ^ n) 0 a j (Nat.two_pow_pos n) hj (sumS_lt n b)
      have hsl := shiftN_lt n b (j : Int)
      have HO := or_nat (overSet a (sumS n b) j 0) (shiftN n b (j : Int)) (by omega) (by omega)
      have HS := Lib.hid (over_step a (sumS n b) j 0)
      have HC := Lib.hid (l1Shift_any n b j w h1 h2 hb hlt)
      by_cases hbit : a.testBit j = true
      · go_wp2_with (go_at_call 47; refine HC.out.mono ?_; rintro e w' ⟨rfl, rfl⟩)
        go_round
        case rel => exact ⟨j + 1, by omega, by rw [HS.out, if_pos hbit]; rfl, by go_num⟩
        case measure => simp [intOf]; omega
      · have hbit' : a.testBit j = false := by simpa using hbit
        go_wp2
        go_round
        case rel => exact ⟨j + 1, by omega, by rw [HS.out, if_neg hbit], by go_num⟩
        case measure => simp [intOf]; omega
    · have e : j = n := by omega
      subst e
      go_wp2
      go_ret
      exact ⟨rfl, rfl⟩
end Go.Proofs.Ytgadlhcgaeilcaa
