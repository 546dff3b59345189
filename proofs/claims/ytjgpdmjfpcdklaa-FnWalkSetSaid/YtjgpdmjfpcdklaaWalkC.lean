/- The model's walks: numbers, sets, full ones, lengths of rounds, squares. -/
import Derived.Test.YtjgpdmjfpcdklaaWalkB
namespace Go.Proofs.Ytjgpdmjfpcdklaa
open Go.RowKit
set_option linter.unusedVariables false
theorem specWalkCounts_no (n s k : Int) (w : World) (h : NoStep n s) :
    Calls Try.prog 21 #[.int .i64 n, .int .i64 s, .int .i64 k] w (NonePost w) := by
  have HI := Lib.hid (specStep_no n s w h)
  clear h
  go_enter Try.func21, Try.ntmps21
  go_wp2_with (go_at_call 35; refine HI.out.mono ?_; rintro e w' ⟨rfl, rfl⟩)
  go_ret2
  exact ⟨_, rfl, (Below.refl _ _).alloc (Nat.le_refl _) _, World.ownsRow_lit w #[] 0 (Nat.le_refl _) (by simp [maxLen]) rfl⟩
theorem specWalkCounts_out (n s : Nat) (k : Int) (w : World) (h1 : 1 ≤ n) (h2 : n ≤ 12) (hs : s < 2 ^ n) (h0 : s.testBit 0 = false) (hk : ¬ (0 ≤ k ∧ k ≤ 10)) :
    Calls Try.prog 21 #[.int .i64 (n:Int), .int .i64 (s:Int), .int .i64 k] w (NonePost w) := by
  have HI := Lib.hid (specStep_yes n s w h1 h2 hs h0)
  have HK := Lib.hid (l6In_no k 0 10 w hk)
  clear hk
  go_enter Try.func21, Try.ntmps21
  go_wp2_with fail
  refine HI.out.mono ?_
  rintro e w' ⟨rfl, rfl⟩
  go_wp2_with fail
  refine HK.out.mono ?_
  rintro e w' ⟨rfl, rfl⟩
  go_wp2
  go_ret2
  exact ⟨_, rfl, (Below.refl _ _).alloc (Nat.le_refl _) _, World.ownsRow_lit w #[] 0 (Nat.le_refl _) (by simp [maxLen]) rfl⟩
theorem specWalkClosed_no (n s k : Int) (w : World) (h : NoStep n s) :
    Calls Try.prog 25 #[.int .i64 n, .int .i64 s, .int .i64 k] w fun e w' => e = .returned (.tuple #[.int .i64 0, .bool false]) ∧ w = w' := by
  have HI := Lib.hid (specStep_no n s w h)
  clear h
  go_enter Try.func25, Try.ntmps25
  go_wp2_with (go_at_call 35; refine HI.out.mono ?_; rintro e w' ⟨rfl, rfl⟩)
  go_ret2
  exact ⟨rfl, rfl⟩
theorem specWalkClosed_out (n s : Nat) (k : Int) (w : World) (h1 : 1 ≤ n) (h2 : n ≤ 12) (hs : s < 2 ^ n) (h0 : s.testBit 0 = false) (hk : ¬ (0 ≤ k ∧ k ≤ 10)) :
    Calls Try.prog 25 #[.int .i64 (n:Int), .int .i64 (s:Int), .int .i64 k] w fun e w' => e = .returned (.tuple #[.int .i64 0, .bool false]) ∧ w = w' := by
  have HI := Lib.hid (specStep_yes n s w h1 h2 hs h0)
  have HK := Lib.hid (l6In_no k 0 10 w hk)
  clear hk
  go_enter Try.func25, Try.ntmps25
  go_wp2_with fail
  refine HI.out.mono ?_
  rintro e w' ⟨rfl, rfl⟩
  go_wp2_with fail
  refine HK.out.mono ?_
  rintro e w' ⟨rfl, rfl⟩
  go_wp2
  go_ret2
  exact ⟨rfl, rfl⟩
theorem specWalkSet_no (n s k : Int) (w : World) (h : NoStep n s) :
    Calls Try.prog 30 #[.int .i64 n, .int .i64 s, .int .i64 k] w fun e w' => e = .returned (.tuple #[.int .i64 0, .bool false]) ∧ w = w' := by
  have HI := Lib.hid (specStep_no n s w h)
  clear h
  go_enter Try.func30, Try.ntmps30
  go_wp2_with (go_at_call 35; refine HI.out.mono ?_; rintro e w' ⟨rfl, rfl⟩)
  go_ret2
  exact ⟨rfl, rfl⟩
theorem specWalkSet_out (n s : Nat) (k : Int) (w : World) (h1 : 1 ≤ n) (h2 : n ≤ 12) (hs : s < 2 ^ n) (h0 : s.testBit 0 = false) (hk : ¬ (0 ≤ k ∧ k ≤ 100)) :
    Calls Try.prog 30 #[.int .i64 (n:Int), .int .i64 (s:Int), .int .i64 k] w fun e w' => e = .returned (.tuple #[.int .i64 0, .bool false]) ∧ w = w' := by
  have HI := Lib.hid (specStep_yes n s w h1 h2 hs h0)
  have HK := Lib.hid (l6In_no k 0 100 w hk)
  clear hk
  go_enter Try.func30, Try.ntmps30
  go_wp2_with fail
  refine HI.out.mono ?_
  rintro e w' ⟨rfl, rfl⟩
  go_wp2_with fail
  refine HK.out.mono ?_
  rintro e w' ⟨rfl, rfl⟩
  go_wp2
  go_ret2
  exact ⟨rfl, rfl⟩
theorem specWalkCounts_yes (n s k : Nat) (w : World) (h1 : 1 ≤ n) (h2 : n ≤ 12) (hs : s < 2 ^ n) (h0 : s.testBit 0 = false) (hk : k ≤ 10) :
    Calls Try.prog 21 #[.int .i64 (n:Int), .int .i64 (s:Int), .int .i64 (k:Int)] w (ListsPost w n (tabW n (wlkN n s k))) := by
  have HI := Lib.hid (specStep_yes n s w h1 h2 hs h0)
  have HK := Lib.hid (l6In_yes (k : Int) 0 10 w (by omega) (by omega))
  have HC := Lib.hid (l4Counts_any n s k w h1 h2 hs h0 hk)
  go_enter Try.func21, Try.ntmps21
  go_wp2_with fail
  refine HI.out.mono ?_
  rintro e w' ⟨rfl, rfl⟩
  go_wp2_with fail
  refine HK.out.mono ?_
  rintro e w' ⟨rfl, rfl⟩
  go_wp2_with fail
  refine HC.out.mono ?_
  rintro e w1 ⟨g, rfl, hb1, hI1⟩
  have HB := Lib.hid hb1
  have HI1 := Lib.hid hI1
  clear hb1 hI1
  go_wp2
  go_ret2
  exact ⟨g, n, rfl, HB.out, HI1.out⟩
theorem specWalkClosed_yes (n s k : Nat) (w : World) (h1 : 1 ≤ n) (h2 : n ≤ 12) (hs : s < 2 ^ n) (h0 : s.testBit 0 = false) (hk : k ≤ 10) :
    Calls Try.prog 25 #[.int .i64 (n:Int), .int .i64 (s:Int), .int .i64 (k:Int)] w fun e w' => e = .returned (.tuple #[.int .i64 ((wlkN n s k 0 : Nat) : Int), .bool true]) ∧ Below w.heap.size w w' := by
  have HI := Lib.hid (specStep_yes n s w h1 h2 hs h0)
  have HK := Lib.hid (l6In_yes (k : Int) 0 10 w (by omega) (by omega))
  have HC := Lib.hid (l4Counts_any n s k w h1 h2 hs h0 hk)
  go_enter Try.func25, Try.ntmps25
  go_wp2_with fail
  refine HI.out.mono ?_
  rintro e w' ⟨rfl, rfl⟩
  go_wp2_with fail
  refine HK.out.mono ?_
  rintro e w' ⟨rfl, rfl⟩
  go_wp2_with fail
  refine HC.out.mono ?_
  rintro e w1 ⟨g, rfl, hb1, hI1⟩
  have HB := Lib.hid hb1
  have c0 := hI1.cell (i := 0) (by rw [tabW_len]; exact h1)
  rw [tabW_get n _ 0 h1] at c0
  have t0 : (0 : Int) < (n : Int) := by omega
  clear hb1 hI1
  go_wp2
  go_ret2
  exact ⟨rfl, HB.out⟩
theorem sq_le (f : Nat → Nat) (n j T : Nat) (hT : sumTo f n ≤ T) (hj : j ≤ n) : sumTo (fun v => f v * f v) j ≤ T * sumTo f j := by
  induction j with
  | zero => exact Nat.le_refl _
  | succ j ih =>
    have a := ih (by omega)
    have b := Nat.mul_le_mul (Nat.le_trans (sumTo_at f n j (by omega)) hT) (Nat.le_refl (f j))
    show sumTo (fun v => f v * f v) j + f j * f j ≤ T * (sumTo f j + f j)
    rw [Nat.mul_add]
    omega
/-- The sum of the squares of the numbers of walks. -/
def sqN (n s k : Nat) (j : Nat) : Nat := sumTo (fun v => wlkN n s k v * wlkN n s k v) j
theorem sqN_le (n s k j : Nat) (h1 : 1 ≤ n) (h2 : n ≤ 12) (h0 : s.testBit 0 = false) (hk : k ≤ 5) (hj : j ≤ n) : sqN n s k j ≤ 25937424601 := by
  have t : sumTo (wlkN n s k) n ≤ 161051 := by
    rw [wlk_total n s k h1]
    have b : degN n s ≤ 11 := by
      obtain ⟨m, rfl⟩ : ∃ m, n = m + 1 := ⟨n - 1, by omega⟩
      have := deg_le m s h0
      omega
    exact Nat.le_trans (Nat.pow_le_pow_left b k) (Nat.pow_le_pow_right (n := 11) (by omega) hk)
  have a := sq_le (wlkN n s k) n j 161051 t hj
  have b := Nat.mul_le_mul (Nat.le_refl 161051) (Nat.le_trans (sumTo_mono (wlkN n s k) j n hj) t)
  exact Nat.le_trans a b
theorem mul_walks (a : Nat) (ha : a ≤ 161051) : IntKind.i64.wrap ((a : Int) * (a : Int)) = ((a * a : Nat) : Int) ∧ wrap64 ((a : Int) * (a : Int)) = ((a * a : Nat) : Int) ∧ a * a ≤ 25937424601 := by
  have h := Nat.mul_le_mul ha ha
  rw [← Int.natCast_mul]
  generalize a * a = p at *
  exact ⟨IntWalk.i64_in _ ⟨by omega, by omega⟩, IntWalk.wrap64_in _ ⟨by omega, by omega⟩, h⟩
/-- The set of the places to which a walk of k arcs leads. -/
def wsetN (n s : Nat) : Nat → Nat
  | 0 => 1
  | k + 1 => sumN n s (wsetN n s k)
theorem wset_lt (n s k : Nat) (h1 : 1 ≤ n) : wsetN n s k < 2 ^ n := by
  cases k with
  | zero => exact Nat.one_lt_two_pow (by omega)
  | succ k => exact sumN_lt n s _
set_option maxHeartbeats 1000000 in
theorem specWalkSet_yes (n s k : Nat) (w : World) (h1 : 1 ≤ n) (h2 : n ≤ 12) (hs : s < 2 ^ n) (h0 : s.testBit 0 = false) (hk : k ≤ 100) :
    Calls Try.prog 30 #[.int .i64 (n:Int), .int .i64 (s:Int), .int .i64 (k:Int)] w fun e w' => e = .returned (.tuple #[.int .i64 ((wsetN n s k : Nat) : Int), .bool true]) ∧ w = w' := by
  have HI := Lib.hid (specStep_yes n s w h1 h2 hs h0)
  have HK := Lib.hid (l6In_yes (k : Int) 0 100 w (by omega) (by omega))
  have HS := Lib.hid (fun j W => l1Sum_any n (wsetN n s j) s W h1 h2 (wset_lt n s j h1) hs)
  have HU : Hid (∀ j, sumN n s (wsetN n s j) = wsetN n s (j + 1)) := Lib.hid (fun j => rfl)
  go_enter Try.func30, Try.ntmps30
  go_wp2_with fail
  refine HI.out.mono ?_
  rintro e w' ⟨rfl, rfl⟩
  go_wp2_with fail
  refine HK.out.mono ?_
  rintro e w' ⟨rfl, rfl⟩
  go_wp2
  go_loop [8, 9] (fun a u => ∃ j : Nat, j ≤ k ∧ a = .int .i64 ((wsetN n s j : Nat) : Int) ∧ u = .int .i64 (j : Int)) (fun _ u => k - (intOf u).toNat)
  case atStart => exact ⟨0, Nat.zero_le _, rfl, rfl⟩
  case round =>
    obtain ⟨j, hj, rfl, rfl⟩ := hrel
    by_cases hlt : j < k
    · have HC := Lib.hid (HS.out j)
      rw [HU.out] at HC
      obtain ⟨b, hb⟩ : ∃ b, wsetN n s (j + 1) = b := ⟨_, rfl⟩
      rw [hb] at HC
      have HB := Lib.hid hb
      clear hb
      generalize wsetN n s j = a at *
      go_wp2_with (go_at_call 53; refine (HC.out _).mono ?_; rintro e w' ⟨rfl, rfl⟩)
      go_round
      case rel => exact ⟨j + 1, by omega, by rw [HB.out], by go_num⟩
      case measure => simp [intOf]; omega
    · obtain rfl : j = k := by omega
      go_wp2
      go_ret2
      exact ⟨rfl, rfl⟩
/-- The greatest common divisor of the lengths of rounds of at most k arcs. -/
def wturnN (n s : Nat) : Nat → Nat
  | 0 => 0
  | k + 1 => if (wsetN n s (k + 1)).testBit 0 then Nat.gcd (wturnN n s k) (k + 1) else wturnN n s k
theorem wturn_le (n s k : Nat) : wturnN n s k ≤ k := by
  induction k with
  | zero => exact Nat.le_refl _
  | succ k ih =>
    show (if (wsetN n s (k + 1)).testBit 0 then Nat.gcd (wturnN n s k) (k + 1) else wturnN n s k) ≤ k + 1
    split
    · exact Nat.le_of_dvd (by omega) (Nat.gcd_dvd_right _ _)
    · omega
end Go.Proofs.Ytjgpdmjfpcdklaa
