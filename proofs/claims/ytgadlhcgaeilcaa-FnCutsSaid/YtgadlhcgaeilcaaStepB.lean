/- The program's plain functions of chapter 2: both, even, other, next, isPlace, size. -/
import Derived.Test.YtgadlhcgaeilcaaStepS
namespace Go.Proofs.Ytgadlhcgaeilcaa
open Go.RowKit
set_option linter.unusedVariables false
theorem with_int (s v : Nat) (x : Int) (w : World) (hx : x = (v : Int)) (hs : s < 2 ^ 40) (hv : v < 40) :
    Calls Try.prog 69 #[.int .i64 (s:Int), .int .i64 x] w fun e w' => e = .returned (.int .i64 ((s ||| 2 ^ v : Nat) : Int)) ∧ w = w' := by
  subst hx
  exact with_any s v w hs hv
theorem isPlace_any (n : Nat) (v : Int) (w : World) :
    Calls Try.prog 52 #[.agg #[.int .i64 (n:Int)], .int .i64 v] w fun e w' => e = .returned (.bool (decide (0 ≤ v ∧ v < (n:Int)))) ∧ Below w.heap.size w w' := by
  by_cases h1 : 0 ≤ v <;> by_cases h2 : v < (n:Int) <;>
  · go_enter Try.func52, Try.ntmps52
    go_wp2
    go_ret
    exact ⟨ret_bool (by simp [h1, h2]), (Below.refl _ _).alloc (Nat.le_refl _) _⟩
theorem next_any (n s : Nat) (v : Int) (w : World) (h1 : 1 ≤ n) (h2 : n ≤ 12) (hs : s < 2 ^ n) (hv1 : -1000 ≤ v) (hv2 : v ≤ 1000) :
    Calls Try.prog 53 #[.agg #[.int .i64 (n:Int), .int .i64 (s:Int)], .int .i64 v] w fun e w' => e = .returned (.int .i64 ((shiftN n s v : Nat) : Int)) ∧ Below w.heap.size w w' := by
  have HS := Lib.hid (fun W => shift_any n s v W h1 h2 (pow_mono h2 hs) hv1 hv2)
  go_enter Try.func53, Try.ntmps53
  go_wp2_with fail
  refine (HS.out _).mono ?_
  rintro e w1 ⟨rfl, hb⟩
  go_wp2
  go_ret
  exact ⟨rfl, ((Below.refl _ _).alloc (Nat.le_refl _) _).trans (hb.mono (by simp))⟩
theorem both_any (n s : Nat) (w : World) (h1 : 1 ≤ n) (h2 : n ≤ 12) (hs : s < 2 ^ n) :
    Calls Try.prog 48 #[.agg #[.int .i64 (n:Int), .int .i64 (s:Int)]] w fun e w' => e = .returned (.int .i64 ((bothN n s : Nat) : Int)) ∧ Below w.heap.size w w' := by
  have hp := pow_le n h2
  have ht := turnN_lt n s (-1) h1
  have HT := Lib.hid (fun W => turn_any n s (-1) W h1 h2 hs (by omega) (by omega))
  have HO := Lib.hid (or_nat s (turnN n s (-1)) (by omega) (by omega))
  go_enter Try.func48, Try.ntmps48
  go_wp2_with fail
  have c0 : (w.alloc (.cells #[.int .i64 (n:Int), .int .i64 (s:Int)] 37)).cell? ⟨w.heap.size, 0, none⟩ = some (.int .i64 (n:Int)) := by simp
  have c1 : (w.alloc (.cells #[.int .i64 (n:Int), .int .i64 (s:Int)] 37)).cell? ⟨w.heap.size, 1, none⟩ = some (.int .i64 (s:Int)) := by simp
  have B0 : Below w.heap.size w (w.alloc (.cells #[.int .i64 (n:Int), .int .i64 (s:Int)] 37)) := (Below.refl _ _).alloc (Nat.le_refl _) _
  have z0 : w.heap.size + 1 ≤ (w.alloc (.cells #[.int .i64 (n:Int), .int .i64 (s:Int)] 37)).heap.size := by simp
  obtain ⟨W0, hW0⟩ : ∃ W0, w.alloc (.cells #[.int .i64 (n:Int), .int .i64 (s:Int)] 37) = W0 := ⟨_, rfl⟩
  rw [hW0] at c0 c1 B0 z0 ⊢
  clear hW0
  have Bd : Below w.heap.size w W0.drew := B0.drew
  have T4 : (fun W : World => W.cell? ⟨w.heap.size, 0, none⟩ = some (.int .i64 (n:Int)) ∧ W.cell? ⟨w.heap.size, 1, none⟩ = some (.int .i64 (s:Int)) ∧ Below w.heap.size w W ∧ w.heap.size + 1 ≤ W.heap.size) W0.drew := ⟨c0, c1, Bd, z0⟩
  go_region_held3 (fun W => W.cell? ⟨w.heap.size, 0, none⟩ = some (.int .i64 (n:Int)) ∧ W.cell? ⟨w.heap.size, 1, none⟩ = some (.int .i64 (s:Int)) ∧ Below w.heap.size w W ∧ w.heap.size + 1 ≤ W.heap.size)
    (first | exact T4 | ((try dsimp only); (try go_split_ands); refine ⟨?_, ?_, ?_, ?_⟩ <;> first | assumption | (exact (hb2.cell (by simp; omega)).trans (by assumption)) | (exact Below.trans (by assumption) (hb2.mono (by omega))) | (have := hb2.size; omega)))
    (first | (go_at_call 44; refine (HT.out _).mono ?_; rintro e w2 ⟨rfl, hb2⟩))
  go_split_ands
  go_wp2
  go_ret
  exact ⟨ret_int HO.out, by assumption⟩
theorem even_any (n s : Nat) (w : World) (h1 : 1 ≤ n) (h2 : n ≤ 12) (hs : s < 2 ^ n) :
    Calls Try.prog 46 #[.agg #[.int .i64 (n:Int), .int .i64 (s:Int)]] w fun e w' => e = .returned (.bool (decide (bothN n s = s))) ∧ Below w.heap.size w w' := by
  have HT := Lib.hid (fun W => both_any n s W h1 h2 hs)
  have HE : Hid ((((bothN n s : Nat) : Int) == (s : Int)) = decide (bothN n s = s)) := Lib.hid (by
    by_cases h : bothN n s = s
    · simp [h]
    · simp [h]; omega)
  generalize bothN n s = q at *
  go_enter Try.func46, Try.ntmps46
  go_wp2_with fail
  have c0 : (w.alloc (.cells #[.int .i64 (n:Int), .int .i64 (s:Int)] 37)).cell? ⟨w.heap.size, 0, none⟩ = some (.int .i64 (n:Int)) := by simp
  have c1 : (w.alloc (.cells #[.int .i64 (n:Int), .int .i64 (s:Int)] 37)).cell? ⟨w.heap.size, 1, none⟩ = some (.int .i64 (s:Int)) := by simp
  have B0 : Below w.heap.size w (w.alloc (.cells #[.int .i64 (n:Int), .int .i64 (s:Int)] 37)) := (Below.refl _ _).alloc (Nat.le_refl _) _
  have z0 : w.heap.size + 1 ≤ (w.alloc (.cells #[.int .i64 (n:Int), .int .i64 (s:Int)] 37)).heap.size := by simp
  obtain ⟨W0, hW0⟩ : ∃ W0, w.alloc (.cells #[.int .i64 (n:Int), .int .i64 (s:Int)] 37) = W0 := ⟨_, rfl⟩
  rw [hW0] at c0 c1 B0 z0 ⊢
  clear hW0
  have Bd : Below w.heap.size w W0.drew := B0.drew
  have T4 : (fun W : World => W.cell? ⟨w.heap.size, 0, none⟩ = some (.int .i64 (n:Int)) ∧ W.cell? ⟨w.heap.size, 1, none⟩ = some (.int .i64 (s:Int)) ∧ Below w.heap.size w W ∧ w.heap.size + 1 ≤ W.heap.size) W0.drew := ⟨c0, c1, Bd, z0⟩
  go_region_held3 (fun W => W.cell? ⟨w.heap.size, 0, none⟩ = some (.int .i64 (n:Int)) ∧ W.cell? ⟨w.heap.size, 1, none⟩ = some (.int .i64 (s:Int)) ∧ Below w.heap.size w W ∧ w.heap.size + 1 ≤ W.heap.size)
    (first | exact T4 | ((try dsimp only); (try go_split_ands); refine ⟨?_, ?_, ?_, ?_⟩ <;> first | assumption | (exact (hb2.cell (by simp; omega)).trans (by assumption)) | (exact Below.trans (by assumption) (hb2.mono (by omega))) | (have := hb2.size; omega)))
    (first | (go_at_call 48; refine (HT.out _).mono ?_; rintro e w2 ⟨rfl, hb2⟩))
  go_split_ands
  go_wp2
  go_ret
  exact ⟨ret_bool (by first | exact HE.out | simpa using HE.out), by assumption⟩
theorem other_any (n s : Nat) (w : World) (h1 : 1 ≤ n) (h2 : n ≤ 12) (hs : s < 2 ^ n) :
    Calls Try.prog 45 #[.agg #[.int .i64 (n:Int), .int .i64 (s:Int)]] w fun e w' => e = .returned (.int .i64 ((otherN n s : Nat) : Int)) ∧ Below w.heap.size w w' := by
  have hp := pow_le n h2
  have ho : s ||| 1 < 2 ^ 12 := Nat.or_lt_two_pow (pow_mono h2 hs) (by omega)
  have HA := Lib.hid (fun W => all_any n W h2)
  have hw := fun W => with_int s 0 0 W rfl (by omega) (by omega)
  simp only [Nat.pow_zero] at hw
  have HW := Lib.hid hw
  clear hw
  have HO := Lib.hid (less_nat (2 ^ n - 1) (s ||| 1) (by omega) (by omega))
  go_enter Try.func45, Try.ntmps45
  go_wp2_with fail
  have c0 : (w.alloc (.cells #[.int .i64 (n:Int), .int .i64 (s:Int)] 37)).cell? ⟨w.heap.size, 0, none⟩ = some (.int .i64 (n:Int)) := by simp
  have c1 : (w.alloc (.cells #[.int .i64 (n:Int), .int .i64 (s:Int)] 37)).cell? ⟨w.heap.size, 1, none⟩ = some (.int .i64 (s:Int)) := by simp
  have B0 : Below w.heap.size w (w.alloc (.cells #[.int .i64 (n:Int), .int .i64 (s:Int)] 37)) := (Below.refl _ _).alloc (Nat.le_refl _) _
  have z0 : w.heap.size + 1 ≤ (w.alloc (.cells #[.int .i64 (n:Int), .int .i64 (s:Int)] 37)).heap.size := by simp
  obtain ⟨W0, hW0⟩ : ∃ W0, w.alloc (.cells #[.int .i64 (n:Int), .int .i64 (s:Int)] 37) = W0 := ⟨_, rfl⟩
  rw [hW0] at c0 c1 B0 z0 ⊢
  clear hW0
  have Bd : Below w.heap.size w W0.drew := B0.drew
  have T4 : (fun W : World => W.cell? ⟨w.heap.size, 0, none⟩ = some (.int .i64 (n:Int)) ∧ W.cell? ⟨w.heap.size, 1, none⟩ = some (.int .i64 (s:Int)) ∧ Below w.heap.size w W ∧ w.heap.size + 1 ≤ W.heap.size) W0.drew := ⟨c0, c1, Bd, z0⟩
  go_region_held3 (fun W => W.cell? ⟨w.heap.size, 0, none⟩ = some (.int .i64 (n:Int)) ∧ W.cell? ⟨w.heap.size, 1, none⟩ = some (.int .i64 (s:Int)) ∧ Below w.heap.size w W ∧ w.heap.size + 1 ≤ W.heap.size)
    (first | exact T4 | ((try dsimp only); (try go_split_ands); refine ⟨?_, ?_, ?_, ?_⟩ <;> first | assumption | (exact (hb2.cell (by simp; omega)).trans (by assumption)) | (exact Below.trans (by assumption) (hb2.mono (by omega))) | (have := hb2.size; omega)))
    (first | (go_at_call 67; refine (HA.out _).mono ?_; rintro e w2 ⟨rfl, hb2⟩) | (go_at_call 69; refine (HW.out _).mono ?_; rintro e w2 ⟨rfl, rfl⟩))
  all_goals go_split_ands
  all_goals go_wp2
  all_goals go_ret
  all_goals exact ⟨ret_int HO.out, by assumption⟩
end Go.Proofs.Ytgadlhcgaeilcaa
