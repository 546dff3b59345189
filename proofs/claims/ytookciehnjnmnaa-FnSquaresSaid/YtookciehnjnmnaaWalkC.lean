/- The model's walks: numbers, sets, full ones, lengths of rounds, squares. -/
import Derived.Test.YtookciehnjnmnaaWalkB
namespace Go.Proofs.Ytookciehnjnmnaa
open Go.RowKit
set_option linter.unusedVariables false
theorem specWalkSquares_no (n s k : Int) (w : World) (h : NoStep n s) :
    Calls Try.prog 22 #[.int .i64 n, .int .i64 s, .int .i64 k] w fun e w' => e = .returned (.tuple #[.int .i64 0, .bool false]) ∧ w = w' := by
  have HI := Lib.hid (specStep_no n s w h)
  clear h
  go_enter Try.func22, Try.ntmps22
  go_wp2_with (go_at_call 34; refine HI.out.mono ?_; rintro e w' ⟨rfl, rfl⟩)
  go_ret2
  exact ⟨rfl, rfl⟩
theorem specWalkSquares_out (n s : Nat) (k : Int) (w : World) (h1 : 1 ≤ n) (h2 : n ≤ 12) (hs : s < 2 ^ n) (h0 : s.testBit 0 = false) (hk : ¬ (0 ≤ k ∧ k ≤ 5)) :
    Calls Try.prog 22 #[.int .i64 (n:Int), .int .i64 (s:Int), .int .i64 k] w fun e w' => e = .returned (.tuple #[.int .i64 0, .bool false]) ∧ w = w' := by
  have HI := Lib.hid (specStep_yes n s w h1 h2 hs h0)
  have HK := Lib.hid (l6In_no k 0 5 w hk)
  clear hk
  go_enter Try.func22, Try.ntmps22
  go_wp2_with fail
  refine HI.out.mono ?_
  rintro e w' ⟨rfl, rfl⟩
  go_wp2_with fail
  refine HK.out.mono ?_
  rintro e w' ⟨rfl, rfl⟩
  go_wp2
  go_ret2
  exact ⟨rfl, rfl⟩
theorem specWalkFull_no (n s : Int) (w : World) (h : NoStep n s) :
    Calls Try.prog 28 #[.int .i64 n, .int .i64 s] w fun e w' => e = .returned (.tuple #[.int .i64 0, .bool false]) ∧ w = w' := by
  have HI := Lib.hid (specStep_no n s w h)
  clear h
  go_enter Try.func28, Try.ntmps28
  go_wp2_with (go_at_call 34; refine HI.out.mono ?_; rintro e w' ⟨rfl, rfl⟩)
  go_ret2
  exact ⟨rfl, rfl⟩
theorem sq_le (f : Nat → Nat) (n j T : Nat) (hT : sumTo f n ≤ T) (hj : j ≤ n) : sumTo (fun v => f v * f v) j ≤ T * sumTo f j := by
  induction j with
  | zero => exact Nat.le_refl _
  | succ j ih =>
    have a := ih (by omega)
    have b := Nat.mul_le_mul (Nat.le_trans (sumTo_at f n j (by omega)) hT) (Nat.le_refl (f j))
    show sumTo (fun v => f v * f v) j + f j * f j ≤ T * (sumTo f j + f j)
    rw [Nat.mul_add]
    omega
/-- The sum of the squares of the numbers of walks. -/
def sqN (n s k : Nat) (j : Nat) : Nat := sumTo (fun v => wlkN n s k v * wlkN n s k v) j
theorem sqN_le (n s k j : Nat) (h1 : 1 ≤ n) (h2 : n ≤ 12) (h0 : s.testBit 0 = false) (hk : k ≤ 5) (hj : j ≤ n) : sqN n s k j ≤ 25937424601 := by
  have t : sumTo (wlkN n s k) n ≤ 161051 := by
    rw [wlk_total n s k h1]
    have b : degN n s ≤ 11 := by
      obtain ⟨m, rfl⟩ : ∃ m, n = m + 1 := ⟨n - 1, by omega⟩
      have := deg_le m s h0
      omega
    exact Nat.le_trans (Nat.pow_le_pow_left b k) (Nat.pow_le_pow_right (n := 11) (by omega) hk)
  have a := sq_le (wlkN n s k) n j 161051 t hj
  have b := Nat.mul_le_mul (Nat.le_refl 161051) (Nat.le_trans (sumTo_mono (wlkN n s k) j n hj) t)
  exact Nat.le_trans a b
theorem mul_walks (a : Nat) (ha : a ≤ 161051) : IntKind.i64.wrap ((a : Int) * (a : Int)) = ((a * a : Nat) : Int) ∧ wrap64 ((a : Int) * (a : Int)) = ((a * a : Nat) : Int) ∧ a * a ≤ 25937424601 := by
  have h := Nat.mul_le_mul ha ha
  rw [← Int.natCast_mul]
  generalize a * a = p at *
  exact ⟨IntWalk.i64_in _ ⟨by omega, by omega⟩, IntWalk.wrap64_in _ ⟨by omega, by omega⟩, h⟩
set_option maxHeartbeats 1000000 in
theorem specWalkSquares_yes (n s k : Nat) (w : World) (h1 : 1 ≤ n) (h2 : n ≤ 12) (hs : s < 2 ^ n) (h0 : s.testBit 0 = false) (hk : k ≤ 5) :
    Calls Try.prog 22 #[.int .i64 (n:Int), .int .i64 (s:Int), .int .i64 (k:Int)] w fun e w' => e = .returned (.tuple #[.int .i64 ((sqN n s k n : Nat) : Int), .bool true]) ∧ Below w.heap.size w w' := by
  have HI := Lib.hid (specStep_yes n s w h1 h2 hs h0)
  have HK := Lib.hid (l6In_yes (k : Int) 0 5 w (by omega) (by omega))
  have HC := Lib.hid (l4Counts_any n s k w h1 h2 hs h0 (by omega))
  have HSq := Lib.hid (fun j hj => sqN_le n s k j h1 h2 h0 hk hj)
  have HMu := Lib.hid (fun v (hv : v < n) => mul_walks (wlkN n s k v) (by
    have a := wlk_le n s k v h1 h2 h0 hv
    have b : 11 ^ k ≤ 11 ^ 5 := Nat.pow_le_pow_right (by omega) hk
    omega))
  have HSt : Hid (∀ j, sqN n s k (j + 1) = sqN n s k j + wlkN n s k j * wlkN n s k j) := Lib.hid (fun j => rfl)
  go_enter Try.func22, Try.ntmps22
  go_wp2_with fail
  refine HI.out.mono ?_
  rintro e w' ⟨rfl, rfl⟩
  go_wp2_with fail
  refine HK.out.mono ?_
  rintro e w' ⟨rfl, rfl⟩
  go_wp2_with fail
  refine HC.out.mono ?_
  rintro e w1 ⟨g, rfl, hb1, hI1⟩
  have HB := Lib.hid hb1
  have HI1 := Lib.hid hI1
  have hlen := tabW_len n (wlkN n s k)
  clear hb1 hI1
  go_wp2
  go_loopw [8, 10] (fun a u wr => ∃ j : Nat, j ≤ n ∧ a = .int .i64 ((sqN n s k j : Nat) : Int) ∧ u = .int .i64 (j : Int) ∧ Below w1.heap.size w1 wr) (fun _ u _ => n - (intOf u).toNat)
  case atStart => exact ⟨0, Nat.zero_le _, rfl, rfl, Below.refl _ _⟩
  case round =>
    obtain ⟨j, hj, rfl, rfl, hB⟩ := hrel
    have HBj := Lib.hid hB
    have HIj := Lib.hid (HI1.out.belowAll hB)
    clear hB
    by_cases hlt : j < n
    · have c1 := HIj.out.cell (i := j) (by rw [hlen]; exact hlt)
      rw [tabW_get n _ j hlt] at c1
      obtain ⟨m1, m2, m3⟩ := HMu.out j hlt
      have l1 := HSq.out j hj
      have HU := Lib.hid (HSt.out j)
      have i1 : (0 : Int) ≤ (j : Int) := by omega
      have i2 : (j : Int) < (n : Int) := by omega
      generalize wlkN n s k j = a at *
      generalize sqN n s k j = t at *
      obtain ⟨p, hp⟩ : ∃ p, a * a = p := ⟨_, rfl⟩
      rw [hp] at m1 m2 m3 HU
      clear hp
      go_wp2
      go_quiet (fail)
      go_wp2
      go_roundw
      case rel => exact ⟨j + 1, by omega, by rw [HU.out]; go_num, by go_num, below_drewN HBj.out _⟩
      case measure => simp [intOf]; omega
    · obtain rfl : j = n := by omega
      have HB9 := Lib.hid (HB.out.trans (HBj.out.mono HB.out.size))
      go_wp2
      go_ret2
      exact ⟨rfl, HB9.out⟩
/-- The set of the places to which a walk of k arcs leads. -/
def wsetN (n s : Nat) : Nat → Nat
  | 0 => 1
  | k + 1 => sumN n s (wsetN n s k)
theorem wset_lt (n s k : Nat) (h1 : 1 ≤ n) : wsetN n s k < 2 ^ n := by
  cases k with
  | zero => exact Nat.one_lt_two_pow (by omega)
  | succ k => exact sumN_lt n s _
set_option maxHeartbeats 1000000 in
theorem specWalkFull_yes (n s k : Nat) (w : World) (h1 : 1 ≤ n) (h2 : n ≤ 12) (hs : s < 2 ^ n) (h0 : s.testBit 0 = false) (hk : k ≤ 2 * n) (hf : wsetN n s k = 2 ^ n - 1) (hno : ∀ j, j < k → wsetN n s j ≠ 2 ^ n - 1) :
    Calls Try.prog 28 #[.int .i64 (n:Int), .int .i64 (s:Int)] w fun e w' => e = .returned (.tuple #[.int .i64 (k : Int), .bool true]) ∧ w = w' := by
  have HI := Lib.hid (specStep_yes n s w h1 h2 hs h0)
  have HS := Lib.hid (fun j W => l1Sum_any n (wsetN n s j) s W h1 h2 (wset_lt n s j h1) hs)
  have HU : Hid (∀ j, sumN n s (wsetN n s j) = wsetN n s (j + 1)) := Lib.hid (fun j => rfl)
  have HLt := Lib.hid (fun j => wset_lt n s j h1)
  have HNo := Lib.hid hno
  have hpw := pow_le n h2
  have hp1 := Nat.two_pow_pos n
  have hwp := wrap_pow n (by omega)
  obtain ⟨N, hN⟩ : ∃ N, 2 ^ n = N := ⟨_, rfl⟩
  rw [hN] at HLt HNo hpw hp1 hwp hf
  have hw1 := IntWalk.i64_in ((N : Int) - 1) ⟨by omega, by omega⟩
  have hw2 := IntWalk.i64_in (2 * (n : Int)) ⟨by omega, by omega⟩
  clear hN hno
  go_enter Try.func28, Try.ntmps28
  go_wp2_with fail
  refine HI.out.mono ?_
  rintro e w' ⟨rfl, rfl⟩
  go_wp2
  go_loop [6, 7] (fun a u => ∃ j : Nat, j ≤ k ∧ a = .int .i64 ((wsetN n s j : Nat) : Int) ∧ u = .int .i64 (j : Int)) (fun _ u => k + 1 - (intOf u).toNat)
  case atStart => exact ⟨0, Nat.zero_le _, rfl, rfl⟩
  case round =>
    obtain ⟨j, hj, rfl, rfl⟩ := hrel
    by_cases hlt : j < k
    · have HC := Lib.hid (HS.out j)
      rw [HU.out] at HC
      obtain ⟨b, hb⟩ : ∃ b, wsetN n s (j + 1) = b := ⟨_, rfl⟩
      rw [hb] at HC
      have HB := Lib.hid hb
      clear hb
      have hne := HNo.out j (by omega)
      have hal := HLt.out j
      generalize wsetN n s j = a at *
      have hq : ((a : Int) == (N : Int) - 1) = false := by simp; omega
      have i1 : (j : Int) ≤ 2 * (n : Int) := by omega
      go_wp2_with (go_at_call 35; refine (HC.out _).mono ?_; rintro e w' ⟨rfl, rfl⟩)
      go_round
      case rel => exact ⟨j + 1, by omega, by rw [HB.out], by go_num⟩
      case measure => simp [intOf]; omega
    · obtain rfl : j = k := by omega
      rw [hf]
      have hq : (((N - 1 : Nat) : Int) == (N : Int) - 1) = true := by simp; omega
      have i1 : (j : Int) ≤ 2 * (n : Int) := by omega
      go_wp2
      go_ret2
      exact ⟨rfl, rfl⟩
set_option maxHeartbeats 1000000 in
theorem specWalkFull_none (n s : Nat) (w : World) (h1 : 1 ≤ n) (h2 : n ≤ 12) (hs : s < 2 ^ n) (h0 : s.testBit 0 = false) (hno : ∀ j, j ≤ 2 * n → wsetN n s j ≠ 2 ^ n - 1) :
    Calls Try.prog 28 #[.int .i64 (n:Int), .int .i64 (s:Int)] w fun e w' => e = .returned (.tuple #[.int .i64 0, .bool false]) ∧ w = w' := by
  have HI := Lib.hid (specStep_yes n s w h1 h2 hs h0)
  have HS := Lib.hid (fun j W => l1Sum_any n (wsetN n s j) s W h1 h2 (wset_lt n s j h1) hs)
  have HU : Hid (∀ j, sumN n s (wsetN n s j) = wsetN n s (j + 1)) := Lib.hid (fun j => rfl)
  have HLt := Lib.hid (fun j => wset_lt n s j h1)
  have HNo := Lib.hid hno
  have hpw := pow_le n h2
  have hp1 := Nat.two_pow_pos n
  have hwp := wrap_pow n (by omega)
  obtain ⟨N, hN⟩ : ∃ N, 2 ^ n = N := ⟨_, rfl⟩
  rw [hN] at HLt HNo hpw hp1 hwp
  have hw1 := IntWalk.i64_in ((N : Int) - 1) ⟨by omega, by omega⟩
  have hw2 := IntWalk.i64_in (2 * (n : Int)) ⟨by omega, by omega⟩
  clear hN hno
  go_enter Try.func28, Try.ntmps28
  go_wp2_with fail
  refine HI.out.mono ?_
  rintro e w' ⟨rfl, rfl⟩
  go_wp2
  go_loop [6, 7] (fun a u => ∃ j : Nat, j ≤ (2 * n + 1) ∧ a = .int .i64 ((wsetN n s j : Nat) : Int) ∧ u = .int .i64 (j : Int)) (fun _ u => (2 * n + 1) + 1 - (intOf u).toNat)
  case atStart => exact ⟨0, Nat.zero_le _, rfl, rfl⟩
  case round =>
    obtain ⟨j, hj, rfl, rfl⟩ := hrel
    by_cases hlt : j < (2 * n + 1)
    · have HC := Lib.hid (HS.out j)
      rw [HU.out] at HC
      obtain ⟨b, hb⟩ : ∃ b, wsetN n s (j + 1) = b := ⟨_, rfl⟩
      rw [hb] at HC
      have HB := Lib.hid hb
      clear hb
      have hne := HNo.out j (by omega)
      have hal := HLt.out j
      generalize wsetN n s j = a at *
      have hq : ((a : Int) == (N : Int) - 1) = false := by simp; omega
      have i1 : (j : Int) ≤ 2 * (n : Int) := by omega
      go_wp2_with (go_at_call 35; refine (HC.out _).mono ?_; rintro e w' ⟨rfl, rfl⟩)
      go_round
      case rel => exact ⟨j + 1, by omega, by rw [HB.out], by go_num⟩
      case measure => simp [intOf]; omega
    · have hj2 : j = 2 * n + 1 := by omega
      have i1 : ¬ (j : Int) ≤ 2 * (n : Int) := by omega
      go_wp2
      go_ret2
      exact ⟨rfl, rfl⟩
theorem specWalkTurns_no (n s : Int) (w : World) (h : NoStep n s) :
    Calls Try.prog 11 #[.int .i64 n, .int .i64 s] w fun e w' => e = .returned (.tuple #[.int .i64 0, .bool false]) ∧ w = w' := by
  have HI := Lib.hid (specStep_no n s w h)
  clear h
  go_enter Try.func11, Try.ntmps11
  go_wp2_with (go_at_call 34; refine HI.out.mono ?_; rintro e w' ⟨rfl, rfl⟩)
  go_ret2
  exact ⟨rfl, rfl⟩
theorem specWalkTurns_none (n : Nat) (w : World) (h1 : 1 ≤ n) (h2 : n ≤ 12) :
    Calls Try.prog 11 #[.int .i64 (n:Int), .int .i64 0] w fun e w' => e = .returned (.tuple #[.int .i64 0, .bool false]) ∧ w = w' := by
  have HI := Lib.hid (specStep_yes n 0 w h1 h2 (Nat.two_pow_pos n) (Nat.zero_testBit 0))
  go_enter Try.func11, Try.ntmps11
  go_wp2_with (go_at_call 34; refine HI.out.mono ?_; rintro e w' ⟨rfl, rfl⟩)
  go_ret2
  exact ⟨rfl, rfl⟩
/-- The greatest common divisor of the lengths of rounds of at most k arcs. -/
def wturnN (n s : Nat) : Nat → Nat
  | 0 => 0
  | k + 1 => if (wsetN n s (k + 1)).testBit 0 then Nat.gcd (wturnN n s k) (k + 1) else wturnN n s k
theorem wturn_le (n s k : Nat) : wturnN n s k ≤ k := by
  induction k with
  | zero => exact Nat.le_refl _
  | succ k ih =>
    show (if (wsetN n s (k + 1)).testBit 0 then Nat.gcd (wturnN n s k) (k + 1) else wturnN n s k) ≤ k + 1
    split
    · exact Nat.le_of_dvd (by omega) (Nat.gcd_dvd_right _ _)
    · omega
set_option maxHeartbeats 1000000 in
theorem specWalkTurns_yes (n s : Nat) (w : World) (h1 : 1 ≤ n) (h2 : n ≤ 12) (hs : s < 2 ^ n) (h0 : s.testBit 0 = false) (hs0 : s ≠ 0) :
    Calls Try.prog 11 #[.int .i64 (n:Int), .int .i64 (s:Int)] w fun e w' => e = .returned (.tuple #[.int .i64 ((wturnN n s (2 * n) : Nat) : Int), .bool true]) ∧ w = w' := by
  have HI := Lib.hid (specStep_yes n s w h1 h2 hs h0)
  have t0 : ((s : Int) == 0) = false := by simp; omega
  have HS := Lib.hid (fun j W => l1Sum_any n (wsetN n s j) s W h1 h2 (wset_lt n s j h1) hs)
  have HU : Hid (∀ j, sumN n s (wsetN n s j) = wsetN n s (j + 1)) := Lib.hid (fun j => rfl)
  have HT : Hid (∀ j, wturnN n s (j + 1) = if (wsetN n s (j + 1)).testBit 0 then Nat.gcd (wturnN n s j) (j + 1) else wturnN n s j) := Lib.hid (fun j => rfl)
  have HLe := Lib.hid (fun j => wturn_le n s j)
  have HLow := Lib.hid (fun j => has_nat (wsetN n s j) 0 (Nat.lt_of_lt_of_le (wset_lt n s j h1) (Nat.pow_le_pow_right (by omega) (by omega))))
  have HG := Lib.hid (fun a b ha hb W => l1Gcd_any a b W ha hb)
  have hw2 := IntWalk.i64_in (2 * (n : Int)) ⟨by omega, by omega⟩
  clear hs0
  go_enter Try.func11, Try.ntmps11
  go_wp2_with fail
  refine HI.out.mono ?_
  rintro e w' ⟨rfl, rfl⟩
  go_wp2
  go_loop [6, 7, 8] (fun a x u => ∃ j : Nat, j ≤ 2 * n ∧ a = .int .i64 ((wturnN n s j : Nat) : Int) ∧ x = .int .i64 ((wsetN n s j : Nat) : Int) ∧ u = .int .i64 ((j : Int) + 1)) (fun _ _ u => 2 * n + 2 - (intOf u).toNat)
  case atStart => exact ⟨0, Nat.zero_le _, rfl, rfl, rfl⟩
  case round =>
    obtain ⟨j, hj, rfl, rfl, rfl⟩ := hrel
    by_cases hlt : j < 2 * n
    · have HC := Lib.hid (HS.out j)
      rw [HU.out] at HC
      have HT1 := Lib.hid (HT.out j)
      have hlo := HLow.out (j + 1)
      have hle := HLe.out j
      obtain ⟨J, hJ⟩ : ∃ J, j + 1 = J := ⟨_, rfl⟩
      rw [hJ] at HC HT1 hlo
      have hJI : (j : Int) + 1 = (J : Int) := by omega
      have hJ1 : J ≤ 2 * n := by omega
      rw [hJI]
      generalize wsetN n s j = a at *
      have HJ := Lib.hid hJ
      obtain ⟨b, hb⟩ : ∃ b, wsetN n s J = b := ⟨_, rfl⟩
      rw [hb] at HC HT1 hlo
      have HBb := Lib.hid hb
      have i1 : (J : Int) ≤ 2 * (n : Int) := by omega
      have HG1 := Lib.hid (fun W => HG.out (wturnN n s j) J (by omega) (by omega) W)
      clear hb hJ hJI
      obtain ⟨t, ht⟩ : ∃ t, wturnN n s j = t := ⟨_, rfl⟩
      rw [ht] at HT1 HG1 hle ⊢
      clear ht
      cases hbit : b.testBit 0
      · rw [hbit] at hlo HT1
        simp only [Int.pow_zero, Int.ediv_one] at hlo
        have HT2 : Hid (wturnN n s J = t) := Lib.hid HT1.out
        clear HT1
        go_wp2_with (first | (go_at_call 35; refine (HC.out _).mono ?_; rintro e w' ⟨rfl, rfl⟩) | (go_at_call 36; refine (HG1.out _).mono ?_; rintro e w' ⟨rfl, rfl⟩))
        go_round
        case rel => exact ⟨J, hJ1, by rw [HT2.out], by rw [HBb.out], by go_num⟩
        case measure => have := HJ.out; simp [intOf]; omega
      · rw [hbit] at hlo HT1
        simp only [Int.pow_zero, Int.ediv_one] at hlo
        have HT2 : Hid (wturnN n s J = Nat.gcd t J) := Lib.hid HT1.out
        clear HT1
        generalize Nat.gcd t J = q at *
        go_wp2_with (first | (go_at_call 35; refine (HC.out _).mono ?_; rintro e w' ⟨rfl, rfl⟩) | (go_at_call 36; refine (HG1.out _).mono ?_; rintro e w' ⟨rfl, rfl⟩))
        go_round
        case rel => exact ⟨J, hJ1, by rw [HT2.out], by rw [HBb.out], by go_num⟩
        case measure => have := HJ.out; simp [intOf]; omega
    · obtain rfl : j = 2 * n := by omega
      have i1 : ¬ (((2 * n : Nat) : Int) + 1) ≤ 2 * (n : Int) := by omega
      obtain ⟨J, hJ⟩ : ∃ J : Int, ((2 * n : Nat) : Int) + 1 = J := ⟨_, rfl⟩
      rw [hJ] at i1 ⊢
      clear hJ
      go_wp2
      go_ret2
      exact ⟨rfl, rfl⟩
end Go.Proofs.Ytookciehnjnmnaa
