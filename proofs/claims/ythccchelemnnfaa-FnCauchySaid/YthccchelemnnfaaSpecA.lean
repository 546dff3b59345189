/- The model's functions of chapter 1. -/
import Derived.Test.YthccchelemnnfaaMath
import Derived.WalkLawsBesides
namespace Go.Proofs.Ythccchelemnnfaa
open Go.RowKit
set_option linter.unusedVariables false
theorem over_step {α : Type} (s : Nat) (f : Nat → α → α) (k : Nat) (a : α) : overSet s f (k + 1) a = if s.testBit k then f k (overSet s f k a) else overSet s f k a := rfl
theorem l1Shift_any (n s k : Nat) (w : World) (h1 : 1 ≤ n) (h2 : n ≤ 12) (hs : s < 2 ^ n) (hk : k < n) :
    Calls Try.prog 52 #[.int .i64 (n:Int), .int .i64 (s:Int), .int .i64 1, .int .i64 (k:Int)] w fun e w' => e = .returned (.int .i64 ((shiftN n s k : Nat) : Int)) ∧ w = w' := by
  have h := l1Map_any n s 1 (k : Int) w h1 h2 (pow_mono h2 hs) (by omega) (by omega) (by omega) (by omega)
  rw [map_shift n s k h1 hs] at h
  exact h
theorem l1Turn_any (n s : Nat) (m : Int) (w : World) (h1 : 1 ≤ n) (h2 : n ≤ 12) (hs : s < 2 ^ n) (hm1 : -1000 ≤ m) (hm2 : m ≤ 1000) :
    Calls Try.prog 52 #[.int .i64 (n:Int), .int .i64 (s:Int), .int .i64 m, .int .i64 0] w fun e w' => e = .returned (.int .i64 ((turnN n s m : Nat) : Int)) ∧ w = w' := by
  have h := l1Map_any n s m 0 w h1 h2 (pow_mono h2 hs) hm1 hm2 (by omega) (by omega)
  rw [← turn_map n s m] at h
  exact h
theorem l1Sum_any (n a b : Nat) (w : World) (h1 : 1 ≤ n) (h2 : n ≤ 12) (ha : a < 2 ^ n) (hb : b < 2 ^ n) :
    Calls Try.prog 45 #[.int .i64 (n:Int), .int .i64 (a:Int), .int .i64 (b:Int)] w fun e w' => e = .returned (.int .i64 ((sumN n b a : Nat) : Int)) ∧ w = w' := by
  have hp := pow_le n h2
  go_enter Try.func45, Try.ntmps45
  go_wp2
  go_loop [7, 8] (fun u v => ∃ j : Nat, j ≤ n ∧ u = .int .i64 ((overSet a (sumS n b) j 0 : Nat) : Int) ∧ v = .int .i64 (j : Int)) (fun _ v => n - (intOf v).toNat)
  case atStart => exact ⟨0, Nat.zero_le _, rfl, rfl⟩
  case round =>
    obtain ⟨j, hj, rfl, rfl⟩ := hrel
    by_cases hlt : j < n
    · have hbt := has_nat a j (by omega)
      have ho := overSet_lt (sumS n b) n (2 ^ n) 0 a j (Nat.two_pow_pos n) hj (sumS_lt n b)
      have hsl := shiftN_lt n b (j : Int)
      have HO := or_nat (overSet a (sumS n b) j 0) (shiftN n b (j : Int)) (by omega) (by omega)
      have HS := Lib.hid (over_step a (sumS n b) j 0)
      have HC := Lib.hid (l1Shift_any n b j w h1 h2 hb hlt)
      by_cases hbit : a.testBit j = true
      · go_wp2_with (go_at_call 52; refine HC.out.mono ?_; rintro e w' ⟨rfl, rfl⟩)
        go_round
        case rel => exact ⟨j + 1, by omega, by rw [HS.out, if_pos hbit]; rfl, by go_num⟩
        case measure => simp [intOf]; omega
      · have hbit' : a.testBit j = false := by simpa using hbit
        go_wp2
        go_round
        case rel => exact ⟨j + 1, by omega, by rw [HS.out, if_neg hbit], by go_num⟩
        case measure => simp [intOf]; omega
    · have e : j = n := by omega
      subst e
      go_wp2
      go_ret
      exact ⟨rfl, rfl⟩
theorem l1Units_any (n : Nat) (w : World) (h1 : 1 ≤ n) (h2 : n ≤ 12) :
    Calls Try.prog 54 #[.int .i64 (n:Int)] w fun e w' => e = .returned (.int .i64 ((unitsN n : Nat) : Int)) ∧ w = w' := by
  have hp := pow_le n h2
  have HE := Lib.hid (overAll (unitS n) n n 0 (Nat.le_refl n))
  go_enter Try.func54, Try.ntmps54
  go_wp2
  go_loop [3, 4] (fun u v => ∃ j : Nat, j ≤ n ∧ u = .int .i64 ((upto (unitS n) j 0 : Nat) : Int) ∧ v = .int .i64 (j : Int)) (fun _ v => n - (intOf v).toNat)
  case atStart => exact ⟨0, Nat.zero_le _, rfl, rfl⟩
  case round =>
    obtain ⟨j, hj, rfl, rfl⟩ := hrel
    by_cases hlt : j < n
    · have ho : upto (unitS n) j 0 < 2 ^ n := by rw [← overAll (unitS n) n j 0 hj]; exact overSet_lt _ n _ _ _ _ (Nat.two_pow_pos n) hj (unitS_lt n)
      have hw := with_nat (upto (unitS n) j 0) j (by omega) (by omega)
      have HS := Lib.hid (show upto (unitS n) (j + 1) 0 = unitS n j (upto (unitS n) j 0) from rfl)
      have hgcd := l1Gcd_any j n w (by omega) (by omega)
      generalize upto (unitS n) j 0 = g at *
      by_cases hg : Nat.gcd j n = 1
      · rw [hg] at hgcd
        have HU := Lib.hid (show unitS n j g = g ||| 2 ^ j from by simp [unitS, hg])
        have HC := Lib.hid hgcd
        clear hgcd hg
        go_wp2_with (go_at_call 71; refine HC.out.mono ?_; rintro e w' ⟨rfl, rfl⟩)
        go_round
        case rel => exact ⟨j + 1, by omega, by rw [HS.out, HU.out], by go_num⟩
        case measure => simp [intOf]; omega
      · have HU := Lib.hid (show unitS n j g = g from by simp [unitS, hg])
        generalize Nat.gcd j n = q at hgcd hg
        have hq : (((q : Int)) == 1) = false := by simp; omega
        have HC := Lib.hid hgcd
        clear hgcd
        go_wp2_with (go_at_call 71; refine HC.out.mono ?_; rintro e w' ⟨rfl, rfl⟩)
        go_round
        case rel => exact ⟨j + 1, by omega, by rw [HS.out, HU.out], by go_num⟩
        case measure => simp [intOf]; omega
    · have e : j = n := by omega
      subst e
      go_wp2
      go_ret
      exact ⟨ret_int (by rw [show unitsN j = _ from HE.out]), rfl⟩
theorem l1Least_any (n s : Nat) (w : World) (h1 : 1 ≤ n) (h2 : n ≤ 12) (hs : s < 2 ^ n) :
    Calls Try.prog 59 #[.int .i64 (n:Int), .int .i64 (s:Int)] w fun e w' => e = .returned (.int .i64 ((leastN n s : Nat) : Int)) ∧ w = w' := by
  have hp := pow_le n h2
  have HE := Lib.hid (overAll (leastS n s) n n s (Nat.le_refl n))
  have H1 : Hid (s = upto (leastS n s) 1 s) := Lib.hid (by
    show s = min s (shiftN n s ((0 : Nat) : Int))
    rw [show ((0 : Nat) : Int) = 0 from rfl, shift_zero n s h1 hs, Nat.min_self])
  go_enter Try.func59, Try.ntmps59
  go_wp2
  go_loop [5, 6] (fun u v => ∃ j : Nat, 1 ≤ j ∧ j ≤ n ∧ u = .int .i64 ((upto (leastS n s) j s : Nat) : Int) ∧ v = .int .i64 (j : Int)) (fun _ v => n - (intOf v).toNat)
  case atStart => exact ⟨1, Nat.le_refl _, h1, by rw [← H1.out], rfl⟩
  case round =>
    obtain ⟨j, hj1, hj, rfl, rfl⟩ := hrel
    by_cases hlt : j < n
    · have HS := Lib.hid (show upto (leastS n s) (j + 1) s = min (upto (leastS n s) j s) (shiftN n s (j : Int)) from rfl)
      have hc := l1Shift_any n s j w h1 h2 hs hlt
      generalize upto (leastS n s) j s = g at *
      generalize shiftN n s (j : Int) = q at *
      have HC := Lib.hid hc
      clear hc
      by_cases hle : g ≤ q
      · have HU := Lib.hid (show min g q = g from by omega)
        have hq2 : min (g : Int) (q : Int) = (g : Int) := by omega
        go_wp2_with (go_at_call 52; refine HC.out.mono ?_; rintro e w' ⟨rfl, rfl⟩)
        go_round
        case rel => exact ⟨j + 1, by omega, by omega, by rw [HS.out, HU.out], by go_num⟩
        case measure => simp [intOf]; omega
      · have HU := Lib.hid (show min g q = q from by omega)
        have hq2 : min (g : Int) (q : Int) = (q : Int) := by omega
        go_wp2_with (go_at_call 52; refine HC.out.mono ?_; rintro e w' ⟨rfl, rfl⟩)
        go_round
        case rel => exact ⟨j + 1, by omega, by omega, by rw [HS.out, HU.out], by go_num⟩
        case measure => simp [intOf]; omega
    · have e : j = n := by omega
      subst e
      go_wp2
      go_ret
      exact ⟨ret_int (by rw [show leastN j s = _ from HE.out]), rfl⟩
theorem l1First_any (n s : Nat) (w : World) (h1 : 1 ≤ n) (h2 : n ≤ 12) (hs : s < 2 ^ n) :
    Calls Try.prog 63 #[.int .i64 (n:Int), .int .i64 (s:Int)] w fun e w' => e = .returned (.int .i64 ((firstN n s : Nat) : Int)) ∧ w = w' := by
  have hp := pow_le n h2
  have hul := unitsN_lt n
  have HUn := Lib.hid (l1Units_any n w h1 h2)
  go_enter Try.func63, Try.ntmps63
  go_wp2
  go_loop [5, 6] (fun u v => ∃ j : Nat, j ≤ n ∧ u = .int .i64 ((overSet (unitsN n) (firstS n s) j s : Nat) : Int) ∧ v = .int .i64 (j : Int)) (fun _ v => n - (intOf v).toNat)
  case atStart => exact ⟨0, Nat.zero_le _, rfl, rfl⟩
  case round =>
    obtain ⟨j, hj, rfl, rfl⟩ := hrel
    by_cases hlt : j < n
    · have HS := Lib.hid (over_step (unitsN n) (firstS n s) j s)
      have HF := Lib.hid (show firstS n s j (overSet (unitsN n) (firstS n s) j s) = min (overSet (unitsN n) (firstS n s) j s) (leastN n (turnN n s (j : Int))) from rfl)
      have hb := has_nat (unitsN n) j (by omega)
      by_cases hbit : (unitsN n).testBit j = true
      · have htl := turnN_lt n s (j : Int) h1
        have HT := Lib.hid (l1Turn_any n s (j : Int) w h1 h2 hs (by omega) (by omega))
        have hc := l1Least_any n (turnN n s (j : Int)) w h1 h2 htl
        generalize overSet (unitsN n) (firstS n s) j s = g at *
        generalize leastN n (turnN n s (j : Int)) = q at *
        have HC := Lib.hid hc
        clear hc
        by_cases hle : g ≤ q
        · have HU := Lib.hid (show min g q = g from by omega)
          have hq2 : min (g : Int) (q : Int) = (g : Int) := by omega
          go_wp2_with (first | (go_at_call 54; refine HUn.out.mono ?_; rintro e w' ⟨rfl, rfl⟩) | (go_at_call 52; refine HT.out.mono ?_; rintro e w' ⟨rfl, rfl⟩) | (go_at_call 59; refine HC.out.mono ?_; rintro e w' ⟨rfl, rfl⟩))
          go_round
          case rel => exact ⟨j + 1, by omega, by rw [HS.out, if_pos hbit, HF.out, HU.out], by go_num⟩
          case measure => simp [intOf]; omega
        · have HU := Lib.hid (show min g q = q from by omega)
          have hq2 : min (g : Int) (q : Int) = (q : Int) := by omega
          go_wp2_with (first | (go_at_call 54; refine HUn.out.mono ?_; rintro e w' ⟨rfl, rfl⟩) | (go_at_call 52; refine HT.out.mono ?_; rintro e w' ⟨rfl, rfl⟩) | (go_at_call 59; refine HC.out.mono ?_; rintro e w' ⟨rfl, rfl⟩))
          go_round
          case rel => exact ⟨j + 1, by omega, by rw [HS.out, if_pos hbit, HF.out, HU.out], by go_num⟩
          case measure => simp [intOf]; omega
      · have hbit' : (unitsN n).testBit j = false := by simpa using hbit
        clear hbit
        go_wp2_with (go_at_call 54; refine HUn.out.mono ?_; rintro e w' ⟨rfl, rfl⟩)
        go_round
        case rel => exact ⟨j + 1, by omega, by rw [HS.out, if_neg (by rw [hbit']; decide)], by go_num⟩
        case measure => simp [intOf]; omega
    · have e : j = n := by omega
      subst e
      go_wp2
      go_ret
      exact ⟨rfl, rfl⟩
end Go.Proofs.Ythccchelemnnfaa
