import Derived.Test.YthccchelemnnfaaLeaf
import Derived.Deep.RegionHeld3
import Derived.StillTailTactics
namespace Go.Proofs.Ythccchelemnnfaa
open Go.RowKit
set_option linter.unusedVariables false
theorem l1Map_any (n s : Nat) (m k : Int) (w : World) (h1 : 1 ≤ n) (h2 : n ≤ 12) (hs : s < 2 ^ 12) (hm1 : -1000 ≤ m) (hm2 : m ≤ 1000) (hk1 : -1000 ≤ k) (hk2 : k ≤ 1000) :
    Calls Try.prog 52 #[.int .i64 (n:Int), .int .i64 (s:Int), .int .i64 m, .int .i64 k] w fun e w' => e = .returned (.int .i64 ((mapN n s m k n : Nat) : Int)) ∧ w = w' := by
  go_enter Try.func52, Try.ntmps52
  go_wp2
  go_loop [9, 10] (fun u v => ∃ j : Nat, j ≤ n ∧ u = .int .i64 ((mapN n s m k j : Nat) : Int) ∧ v = .int .i64 (j : Int)) (fun _ v => n - (intOf v).toNat)
  case atStart => exact ⟨0, Nat.zero_le _, rfl, rfl⟩
  case round =>
    obtain ⟨j, hj, rfl, rfl⟩ := hrel
    by_cases hlt : j < n
    · have hb := has_nat s j (by omega)
      have hmj : -12000 ≤ m * (j : Int) ∧ m * (j : Int) ≤ 12000 := by
        have h0 : (j : Int) ≤ 12 := by omega
        have h3 : (0 : Int) ≤ (j : Int) := by omega
        constructor
        · have := Int.mul_le_mul_of_nonneg_right hm1 h3; omega
        · have := Int.mul_le_mul_of_nonneg_right hm2 h3; omega
      obtain ⟨ha, hc⟩ := hmj
      have hml := mapN_lt n s m k j h1
      have hp := pow_le n h2
      have hr := rest_lt n (m * (j : Int) + k) h1
      have hw := with_nat (mapN n s m k j) (rest n (m * (j : Int) + k)) (by omega) (by omega)
      have HS := Lib.hid (mapN_succ n s m k j)
      by_cases hbit : s.testBit j = true
      · go_wp2_with (go_at_call 69; refine (l1Rest_any n _ _ h1 h2 ⟨by omega, by omega⟩).mono ?_; rintro e w' ⟨rfl, rfl⟩)
        go_round
        case rel => exact ⟨j + 1, by omega, by rw [HS.out, if_pos hbit], by go_num⟩
        case measure => simp [intOf]; omega
      · have hbit' : s.testBit j = false := by simpa using hbit
        go_wp2
        go_round
        case rel => exact ⟨j + 1, by omega, by rw [HS.out, if_neg hbit], by go_num⟩
        case measure => simp [intOf]; omega
    · have e : j = n := by omega
      subst e
      go_wp2
      go_ret
      exact ⟨rfl, rfl⟩
theorem specIn_yes (n s : Nat) (w : World) (h1 : 1 ≤ n) (h2 : n ≤ 12) (hs : s < 2 ^ n) :
    Calls Try.prog 44 #[.int .i64 (n:Int), .int .i64 (s:Int)] w fun e w' => e = .returned (.bool true) ∧ w = w' := by
  have ha := all_nat n h2
  have hp := pow_le n h2
  have d1 : decide (1 ≤ (n : Int) ∧ (n : Int) ≤ 12) = true := by simp; omega
  have d2 : decide (0 ≤ (s : Int) ∧ (s : Int) ≤ ((2 ^ n - 1 : Nat) : Int)) = true := by
    rw [decide_eq_true_eq]; omega
  have D1 := Lib.hid d1
  have D2 := Lib.hid d2
  clear d1 d2
  go_enter Try.func44, Try.ntmps44
  go_wp2_with fail
  refine (l6In_any _ _ _ _).mono ?_
  rintro e w' ⟨rfl, rfl⟩
  rw [D1.out]
  go_wp2_with fail
  refine (l6In_any _ _ _ _).mono ?_
  rintro e w' ⟨rfl, rfl⟩
  rw [D2.out]
  go_wp2
  go_ret
  exact ⟨rfl, rfl⟩
/-- Not a ring and a set of it. -/
def NotIn (n s : Int) : Prop := ¬ (1 ≤ n ∧ n ≤ 12 ∧ 0 ≤ s ∧ s < 2 ^ n.toNat)
theorem specIn_no (n s : Int) (w : World) (h : NotIn n s) :
    Calls Try.prog 44 #[.int .i64 n, .int .i64 s] w fun e w' => e = .returned (.bool false) ∧ w = w' := by
  by_cases hn : 1 ≤ n ∧ n ≤ 12
  · obtain ⟨m, rfl⟩ : ∃ m : Nat, n = (m : Int) := ⟨n.toNat, by omega⟩
    have h2 : m ≤ 12 := by omega
    have hm : 1 ≤ m := by omega
    have ha := all_nat m h2
    have hp := pow_le m h2
    have d1 : decide (1 ≤ (m : Int) ∧ (m : Int) ≤ 12) = true := by simp; omega
    have d2 : decide (0 ≤ s ∧ s ≤ ((2 ^ m - 1 : Nat) : Int)) = false := by
      rw [decide_eq_false_iff_not]
      unfold NotIn at h
      have e : (2 : Int) ^ (m : Int).toNat = ((2 ^ m : Nat) : Int) := by simp
      rw [e] at h
      have := Nat.two_pow_pos m
      omega
    have D1 := Lib.hid d1
    have D2 := Lib.hid d2
    clear d1 d2 h hn
    go_enter Try.func44, Try.ntmps44
    go_wp2_with fail
    refine (l6In_any _ _ _ _).mono ?_
    rintro e w' ⟨rfl, rfl⟩
    rw [D1.out]
    go_wp2_with fail
    refine (l6In_any _ _ _ _).mono ?_
    rintro e w' ⟨rfl, rfl⟩
    rw [D2.out]
    go_wp2
    go_ret
    exact ⟨rfl, rfl⟩
  · have D1 := Lib.hid (show decide (1 ≤ n ∧ n ≤ 12) = false from by simpa using hn)
    clear hn h
    go_enter Try.func44, Try.ntmps44
    go_wp2_with fail
    refine (l6In_any _ _ _ _).mono ?_
    rintro e w' ⟨rfl, rfl⟩
    rw [D1.out]
    go_wp2
    go_ret
    exact ⟨rfl, rfl⟩
def shl (s r : Nat) : Nat := s <<< r
theorem shl_lt (s r : Nat) (hs : s < 2 ^ 12) (hr : r < 12) : shl s r < 2 ^ 24 := by
  unfold shl
  rw [Nat.shiftLeft_eq]
  have h : 2 ^ r ≤ 2 ^ 12 := Nat.pow_le_pow_right (by omega) (by omega)
  calc s * 2 ^ r ≤ s * 2 ^ 12 := Nat.mul_le_mul_left _ h
    _ < 2 ^ 24 := by omega
theorem shl_nat (s r : Nat) (hs : s < 2 ^ 12) (hr : r < 12) : IntKind.i64.wrap ((s : Int) * 2 ^ r) = ((shl s r : Nat) : Int) := by
  have h := shl_lt s r hs hr
  have e : ((s : Int) * 2 ^ r) = ((shl s r : Nat) : Int) := by unfold shl; rw [Nat.shiftLeft_eq]; simp
  rw [e]
  generalize shl s r = m at h
  exact IntWalk.i64_in _ (by omega)
/-- A set of a ring moved by k. -/
def shiftN (n s : Nat) (k : Int) : Nat := (shl s (rest n k) ||| s >>> (n - rest n k)) &&& (2 ^ n - 1)
theorem shift_nat (n s : Nat) (k : Int) (h2 : n ≤ 12) (hs : s < 2 ^ 12) (hr : rest n k < n) :
    bits .and .i64 (bits .or .i64 ((shl s (rest n k) : Nat) : Int) ((s : Int) / 2 ^ (n - rest n k))) ((2 ^ n - 1 : Nat) : Int) = ((shiftN n s k : Nat) : Int) := by
  have h := shl_lt s (rest n k) hs (by omega)
  have hd : s / 2 ^ (n - rest n k) ≤ s := Nat.div_le_self _ _
  have hp := pow_le n h2
  rw [shr_cast, or_nat _ _ (by omega) (by omega)]
  have ho : shl s (rest n k) ||| s / 2 ^ (n - rest n k) < 2 ^ 24 := Nat.or_lt_two_pow h (by omega)
  rw [and_nat _ _ (by omega) (by omega), shiftN, Nat.shiftRight_eq_div_pow]
theorem shift_any (n s : Nat) (k : Int) (w : World) (h1 : 1 ≤ n) (h2 : n ≤ 12) (hs : s < 2 ^ 12) (hk1 : -1000 ≤ k) (hk2 : k ≤ 1000) :
    Calls Try.prog 60 #[.agg #[.int .i64 (n:Int)], .int .i64 (s:Int), .int .i64 k] w fun e w' => e = .returned (.int .i64 ((shiftN n s k : Nat) : Int)) ∧ Below w.heap.size w w' := by
  have hr := rest_lt n k h1
  go_enter Try.func60, Try.ntmps60
  go_wp2_with fail
  refine (rest_any n k _ h1 h2 ⟨by omega, by omega⟩).mono ?_
  rintro e w1 ⟨rfl, hb⟩
  have hc1 : w1.cell? ⟨w.heap.size, 0, none⟩ = some (.int .i64 (n:Int)) := (hb.cell (p := ⟨w.heap.size, 0, none⟩) (by simp)).trans (by simp)
  have hB1 : Below w.heap.size w w1 := ((Below.refl _ _).alloc (Nat.le_refl _) _).trans (hb.mono (by simp))
  have hz : w.heap.size + 1 ≤ w1.heap.size := by have := hb.size; simpa using this
  clear hb
  go_wp2_with fail
  have T2 : Below w.heap.size w w1.drew := hB1.drew
  have E1 : IntKind.i64.wrap ((n : Int) - (rest n k : Int)) = ((n - rest n k : Nat) : Int) := by rw [IntWalk.i64_in _ (by omega)]; omega
  have E2 : IntKind.i64.wrap ((s : Int) * 2 ^ rest n k) = ((shl s (rest n k) : Nat) : Int) := shl_nat s _ hs (by omega)
  have HF := Lib.hid (shift_nat n s k h2 hs hr)
  have T4 : (fun W : World => W.cell? ⟨w.heap.size, 0, none⟩ = some (.int .i64 (n:Int)) ∧ Below w.heap.size w W ∧ w.heap.size + 1 ≤ W.heap.size) w1.drew := ⟨hc1, T2, hz⟩
  go_region_held3 (fun W => W.cell? ⟨w.heap.size, 0, none⟩ = some (.int .i64 (n:Int)) ∧ Below w.heap.size w W ∧ w.heap.size + 1 ≤ W.heap.size)
    (first | exact T4 | ((try dsimp only); (try go_split_ands); refine ⟨?_, ?_, ?_⟩ <;> first | assumption | (exact (hb2.cell (by simp; omega)).trans (by assumption)) | (exact Below.trans (by assumption) (hb2.mono (by omega))) | (have := hb2.size; omega)))
    (first | (go_at_call 64; refine (all_any n _ h2).mono ?_; rintro e w2 ⟨rfl, hb2⟩))
  go_split_ands
  go_wp2
  go_ret
  exact ⟨ret_int HF.out, by assumption⟩
end Go.Proofs.Ythccchelemnnfaa
