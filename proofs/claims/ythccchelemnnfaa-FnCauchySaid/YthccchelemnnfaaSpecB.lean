/- The model's functions of chapter 1 as the laws call them. -/
import Derived.Test.YthccchelemnnfaaSpecA
namespace Go.Proofs.Ythccchelemnnfaa
open Go.RowKit
set_option linter.unusedVariables false
theorem l6In_yes (n a b : Int) (w : World) (h1 : a ≤ n) (h2 : n ≤ b) : Calls Try.prog 66 #[.int .i64 n, .int .i64 a, .int .i64 b] w fun e w' => e = .returned (.bool true) ∧ w = w' := by
  have h := l6In_any n a b w
  rw [show decide (a ≤ n ∧ n ≤ b) = true from by simp; omega] at h
  exact h
theorem l6In_no (n a b : Int) (w : World) (hk : ¬ (a ≤ n ∧ n ≤ b)) : Calls Try.prog 66 #[.int .i64 n, .int .i64 a, .int .i64 b] w fun e w' => e = .returned (.bool false) ∧ w = w' := by
  have h := l6In_any n a b w
  rw [show decide (a ≤ n ∧ n ≤ b) = false from by simpa using hk] at h
  exact h
theorem l1ShiftK_any (n s : Nat) (k : Int) (w : World) (h1 : 1 ≤ n) (h2 : n ≤ 12) (hs : s < 2 ^ n) (hk1 : -1000 ≤ k) (hk2 : k ≤ 1000) :
    Calls Try.prog 52 #[.int .i64 (n:Int), .int .i64 (s:Int), .int .i64 1, .int .i64 k] w fun e w' => e = .returned (.int .i64 ((shiftN n s k : Nat) : Int)) ∧ w = w' := by
  have h := l1Map_any n s 1 k w h1 h2 (pow_mono h2 hs) (by omega) (by omega) hk1 hk2
  rw [map_shift n s k h1 hs] at h
  exact h
theorem specHolds_yes (n s : Nat) (w : World) (h1 : 1 ≤ n) (h2 : n ≤ 12) (hs : s < 2 ^ n) :
    Calls Try.prog 22 #[.int .i64 (n:Int), .int .i64 (s:Int)] w fun e w' => e = .returned (.tuple #[.int .i64 ((holdsN n s : Nat) : Int), .bool true]) ∧ w = w' := by
  have hp := pow_le n h2
  have HI := Lib.hid (specIn_yes n s w h1 h2 hs)
  have HE := Lib.hid (show holdsN n s = upto (holdS n s) n 0 from overAll (holdS n s) n n 0 (Nat.le_refl n))
  go_enter Try.func22, Try.ntmps22
  go_wp2_with (go_at_call 44; refine HI.out.mono ?_; rintro e w' ⟨rfl, rfl⟩)
  go_loop [6, 7] (fun u v => ∃ j : Nat, j ≤ n ∧ u = .int .i64 ((upto (holdS n s) j 0 : Nat) : Int) ∧ v = .int .i64 (j : Int)) (fun _ v => n - (intOf v).toNat)
  case atStart => exact ⟨0, Nat.zero_le _, rfl, rfl⟩
  case round =>
    obtain ⟨j, hj, rfl, rfl⟩ := hrel
    by_cases hlt : j < n
    · have ho : upto (holdS n s) j 0 < 2 ^ n := by rw [← overAll (holdS n s) n j 0 hj]; exact overSet_lt _ n _ _ _ _ (Nat.two_pow_pos n) hj (holdS_lt n s)
      have hw := with_nat (upto (holdS n s) j 0) j (by omega) (by omega)
      have HS := Lib.hid (show upto (holdS n s) (j + 1) 0 = holdS n s j (upto (holdS n s) j 0) from rfl)
      have hc := l1Shift_any n s j w h1 h2 hs hlt
      generalize upto (holdS n s) j 0 = g at *
      by_cases hg : shiftN n s (j : Int) = s
      · rw [hg] at hc
        have HU := Lib.hid (show holdS n s j g = g ||| 2 ^ j from by simp [holdS, hg])
        have HC := Lib.hid hc
        clear hc hg
        go_wp2_with (go_at_call 52; refine HC.out.mono ?_; rintro e w' ⟨rfl, rfl⟩)
        go_round
        case rel => exact ⟨j + 1, by omega, by rw [HS.out, HU.out], by go_num⟩
        case measure => simp [intOf]; omega
      · have HU := Lib.hid (show holdS n s j g = g from by simp [holdS, hg])
        generalize shiftN n s (j : Int) = q at hc hg
        have hq : (((q : Int)) == (s : Int)) = false := by simp; omega
        have hq2 : decide (q = s) = false := by simpa using hg
        have hq3 : (q == s) = false := by simpa using hg
        have HC := Lib.hid hc
        clear hc
        go_wp2_with (go_at_call 52; refine HC.out.mono ?_; rintro e w' ⟨rfl, rfl⟩)
        go_round
        case rel => exact ⟨j + 1, by omega, by rw [HS.out, HU.out], by go_num⟩
        case measure => simp [intOf]; omega
    · have e : j = n := by omega
      subst e
      go_wp2
      go_ret2
      exact ⟨by rw [HE.out]; rfl, rfl⟩
theorem specSum_yes (n a b : Nat) (w : World) (h1 : 1 ≤ n) (h2 : n ≤ 12) (ha : a < 2 ^ n) (hb : b < 2 ^ n) :
    Calls Try.prog 13 #[.int .i64 (n:Int), .int .i64 (a:Int), .int .i64 (b:Int)] w fun e w' => e = .returned (.tuple #[.int .i64 ((sumN n b a : Nat) : Int), .bool true]) ∧ w = w' := by
  have HI := Lib.hid (specIn_yes n a w h1 h2 ha)
  have HJ := Lib.hid (specIn_yes n b w h1 h2 hb)
  have HC := Lib.hid (l1Sum_any n a b w h1 h2 ha hb)
  go_enter Try.func13, Try.ntmps13
  go_wp2_with fail
  refine HI.out.mono ?_
  rintro e w' ⟨rfl, rfl⟩
  go_wp2_with fail
  refine HJ.out.mono ?_
  rintro e w' ⟨rfl, rfl⟩
  go_wp2_with (go_at_call 45; refine HC.out.mono ?_; rintro e w' ⟨rfl, rfl⟩)
  go_ret2
  exact ⟨rfl, rfl⟩
theorem specSum_no (n a b : Int) (w : World) (h : NotIn n a ∨ NotIn n b) :
    Calls Try.prog 13 #[.int .i64 n, .int .i64 a, .int .i64 b] w fun e w' => e = .returned (.tuple #[.int .i64 0, .bool false]) ∧ w = w' := by
  by_cases ha : NotIn n a
  · have HI := Lib.hid (specIn_no n a w ha)
    clear h ha
    go_enter Try.func13, Try.ntmps13
    go_wp2_with (go_at_call 44; refine HI.out.mono ?_; rintro e w' ⟨rfl, rfl⟩)
    go_ret2
    exact ⟨rfl, rfl⟩
  · have hb : NotIn n b := by
      rcases h with h | h
      · exact absurd h ha
      · exact h
    have HJ := Lib.hid (specIn_no n b w hb)
    obtain ⟨m, t, rfl, rfl, h1, h2, h3⟩ := not_notIn ha
    have HI := Lib.hid (specIn_yes m t w h1 h2 h3)
    clear h ha hb
    go_enter Try.func13, Try.ntmps13
    go_wp2_with fail
    refine HI.out.mono ?_
    rintro e w' ⟨rfl, rfl⟩
    go_wp2_with fail
    refine HJ.out.mono ?_
    rintro e w' ⟨rfl, rfl⟩
    go_wp2
    go_ret2
    exact ⟨rfl, rfl⟩
theorem specHolds_no (n s : Int) (w : World) (h : NotIn n s) :
    Calls Try.prog 22 #[.int .i64 n, .int .i64 s] w fun e w' => e = .returned (.tuple #[.int .i64 0, .bool false]) ∧ w = w' := by
  have HI := Lib.hid (specIn_no n s w h)
  clear h
  go_enter Try.func22, Try.ntmps22
  go_wp2_with ((go_at_call 44; refine HI.out.mono ?_; rintro e w' ⟨rfl, rfl⟩))
  go_ret2
  exact ⟨rfl, rfl⟩
theorem specLeast_yes (n s : Nat) (w : World) (h1 : 1 ≤ n) (h2 : n ≤ 12) (hs : s < 2 ^ n) :
    Calls Try.prog 30 #[.int .i64 (n:Int), .int .i64 (s:Int)] w fun e w' => e = .returned (.tuple #[.int .i64 ((leastN n s : Nat) : Int), .bool true]) ∧ w = w' := by
  have HI := Lib.hid (specIn_yes n s w h1 h2 hs)
  have HC := Lib.hid (l1Least_any n s w h1 h2 hs)
  go_enter Try.func30, Try.ntmps30
  go_wp2_with (first | (go_at_call 44; refine HI.out.mono ?_; rintro e w' ⟨rfl, rfl⟩) | (go_at_call 59; refine HC.out.mono ?_; rintro e w' ⟨rfl, rfl⟩))
  go_ret2
  exact ⟨rfl, rfl⟩
theorem specLeast_no (n s : Int) (w : World) (h : NotIn n s) :
    Calls Try.prog 30 #[.int .i64 n, .int .i64 s] w fun e w' => e = .returned (.tuple #[.int .i64 0, .bool false]) ∧ w = w' := by
  have HI := Lib.hid (specIn_no n s w h)
  clear h
  go_enter Try.func30, Try.ntmps30
  go_wp2_with ((go_at_call 44; refine HI.out.mono ?_; rintro e w' ⟨rfl, rfl⟩))
  go_ret2
  exact ⟨rfl, rfl⟩
theorem specFirst_yes (n s : Nat) (w : World) (h1 : 1 ≤ n) (h2 : n ≤ 12) (hs : s < 2 ^ n) :
    Calls Try.prog 37 #[.int .i64 (n:Int), .int .i64 (s:Int)] w fun e w' => e = .returned (.tuple #[.int .i64 ((firstN n s : Nat) : Int), .bool true]) ∧ w = w' := by
  have HI := Lib.hid (specIn_yes n s w h1 h2 hs)
  have HC := Lib.hid (l1First_any n s w h1 h2 hs)
  go_enter Try.func37, Try.ntmps37
  go_wp2_with (first | (go_at_call 44; refine HI.out.mono ?_; rintro e w' ⟨rfl, rfl⟩) | (go_at_call 63; refine HC.out.mono ?_; rintro e w' ⟨rfl, rfl⟩))
  go_ret2
  exact ⟨rfl, rfl⟩
theorem specFirst_no (n s : Int) (w : World) (h : NotIn n s) :
    Calls Try.prog 37 #[.int .i64 n, .int .i64 s] w fun e w' => e = .returned (.tuple #[.int .i64 0, .bool false]) ∧ w = w' := by
  have HI := Lib.hid (specIn_no n s w h)
  clear h
  go_enter Try.func37, Try.ntmps37
  go_wp2_with ((go_at_call 44; refine HI.out.mono ?_; rintro e w' ⟨rfl, rfl⟩))
  go_ret2
  exact ⟨rfl, rfl⟩
theorem specUnits_yes (n : Nat) (w : World) (h1 : 1 ≤ n) (h2 : n ≤ 12) :
    Calls Try.prog 25 #[.int .i64 (n:Int)] w fun e w' => e = .returned (.tuple #[.int .i64 ((unitsN n : Nat) : Int), .bool true]) ∧ w = w' := by
  have HI := Lib.hid (specIn_yes n 0 w h1 h2 (Nat.two_pow_pos n))
  have HC := Lib.hid (l1Units_any n w h1 h2)
  go_enter Try.func25, Try.ntmps25
  go_wp2_with (first | (go_at_call 44; refine HI.out.mono ?_; rintro e w' ⟨rfl, rfl⟩) | (go_at_call 54; refine HC.out.mono ?_; rintro e w' ⟨rfl, rfl⟩))
  go_ret2
  exact ⟨rfl, rfl⟩
theorem specUnits_no (n : Int) (w : World) (h : ¬ (1 ≤ n ∧ n ≤ 12)) :
    Calls Try.prog 25 #[.int .i64 n] w fun e w' => e = .returned (.tuple #[.int .i64 0, .bool false]) ∧ w = w' := by
  have HI := Lib.hid (specIn_no n 0 w (fun hh => h ⟨hh.1, hh.2.1⟩))
  clear h
  go_enter Try.func25, Try.ntmps25
  go_wp2_with ((go_at_call 44; refine HI.out.mono ?_; rintro e w' ⟨rfl, rfl⟩))
  go_ret2
  exact ⟨rfl, rfl⟩
end Go.Proofs.Ythccchelemnnfaa
