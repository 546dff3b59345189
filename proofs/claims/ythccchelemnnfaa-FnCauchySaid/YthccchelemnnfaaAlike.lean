/- RingAlike: the program and the model. -/
import Derived.Test.YthccchelemnnfaaWrapB
import Derived.Test.YthccchelemnnfaaSpecB
import Derived.Test.YthccchelemnnfaaLaw1
namespace Go.Proofs.Ythccchelemnnfaa
open Go.RowKit
set_option linter.unusedVariables false
theorem implAlike_yes (n a b : Nat) (w : World) (h1 : 1 ≤ n) (h2 : n ≤ 12) (ha : a < 2 ^ n) (hb : b < 2 ^ n) :
    Calls Try.prog 32 #[.int .i64 (n:Int), .int .i64 (a:Int), .int .i64 (b:Int)] w fun e w' => e = .returned (.bool (decide (firstN n a = firstN n b))) ∧ Below w.heap.size w w' := by
  have HO := Lib.hid (of2_yes n a b w h1 h2 ha hb)
  have HA := Lib.hid (fun W => first_any n a W h1 h2 ha)
  have HB := Lib.hid (fun W => first_any n b W h1 h2 hb)
  go_enter Try.func32, Try.ntmps32
  go_wp2_with fail
  refine HO.out.mono ?_
  rintro e w1 ⟨rfl, hb1⟩
  go_wp2_with fail
  have hz := hb1.size
  have hB0 : Below w.heap.size w (w1.alloc (.cells #[.int .i64 (n:Int)] 42)) := hb1.alloc (by omega) _
  have hc0 : (w1.alloc (.cells #[.int .i64 (n:Int)] 42)).cell? ⟨w1.heap.size, 0, none⟩ = some (.int .i64 (n:Int)) := by simp
  have hz0 : w1.heap.size + 1 ≤ (w1.alloc (.cells #[.int .i64 (n:Int)] 42)).heap.size := by simp
  obtain ⟨W0, hW0⟩ : ∃ W0, w1.alloc (.cells #[.int .i64 (n:Int)] 42) = W0 := ⟨_, rfl⟩
  rw [hW0] at hB0 hc0 hz0 ⊢
  clear hW0
  have hBd : Below w.heap.size w W0.drew := hB0.drew
  have T4 : (fun W : World => W.cell? ⟨w1.heap.size, 0, none⟩ = some (.int .i64 (n:Int)) ∧ Below w.heap.size w W ∧ w1.heap.size + 1 ≤ W.heap.size) W0.drew := ⟨hc0, hBd, hz0⟩
  go_region_held3 (fun W => W.cell? ⟨w1.heap.size, 0, none⟩ = some (.int .i64 (n:Int)) ∧ Below w.heap.size w W ∧ w1.heap.size + 1 ≤ W.heap.size)
    (first | exact T4 | ((try dsimp only); (try go_split_ands); refine ⟨?_, ?_, ?_⟩ <;> first | assumption | (exact (hb2.cell (by simp; omega)).trans (by assumption)) | (exact Below.trans (by assumption) (hb2.mono (by omega))) | (have := hb2.size; omega)))
    (first | (go_at_call 61; (first | (with_reducible refine (HA.out _).mono ?_) | (with_reducible refine (HB.out _).mono ?_)); rintro e w2 ⟨rfl, hb2⟩))
  all_goals go_split_ands
  all_goals go_wp2
  all_goals go_ret
  all_goals exact ⟨ret_bool (by rw [Bool.eq_iff_iff]; simp; omega), by assumption⟩
theorem implAlike_no (n a b : Int) (w : World) (h : NotIn n a ∨ NotIn n b) :
    Calls Try.prog 32 #[.int .i64 n, .int .i64 a, .int .i64 b] w fun e w' => e = .returned (.bool false) ∧ Below w.heap.size w w' := by
  have HO := Lib.hid (of2_no n a b w h)
  clear h
  go_enter Try.func32, Try.ntmps32
  go_wp2_with fail
  refine HO.out.mono ?_
  rintro e w1 ⟨rfl, hb1⟩
  go_wp2_with fail
  have hz := hb1.size
  have hB0 : Below w.heap.size w (w1.alloc (.cells #[.int .i64 0] 42)) := hb1.alloc (by omega) _
  obtain ⟨W0, hW0⟩ : ∃ W0, w1.alloc (.cells #[.int .i64 0] 42) = W0 := ⟨_, rfl⟩
  rw [hW0] at hB0 ⊢
  clear hW0
  go_quiet (fail)
  go_wp2
  go_ret
  exact ⟨rfl, below_drewN hB0 _⟩
theorem specAlike_yes (n a b : Nat) (w : World) (h1 : 1 ≤ n) (h2 : n ≤ 12) (ha : a < 2 ^ n) (hb : b < 2 ^ n) :
    Calls Try.prog 34 #[.int .i64 (n:Int), .int .i64 (a:Int), .int .i64 (b:Int)] w fun e w' => e = .returned (.bool (decide (firstN n a = firstN n b))) ∧ w = w' := by
  have HI := Lib.hid (specIn_yes n a w h1 h2 ha)
  have HJ := Lib.hid (specIn_yes n b w h1 h2 hb)
  have HA := Lib.hid (l1First_any n a w h1 h2 ha)
  have HB := Lib.hid (l1First_any n b w h1 h2 hb)
  go_enter Try.func34, Try.ntmps34
  go_wp2_with fail
  refine HI.out.mono ?_
  rintro e w' ⟨rfl, rfl⟩
  go_wp2_with fail
  refine HJ.out.mono ?_
  rintro e w' ⟨rfl, rfl⟩
  go_wp2_with fail
  refine HA.out.mono ?_
  rintro e w' ⟨rfl, rfl⟩
  go_wp2_with fail
  refine HB.out.mono ?_
  rintro e w' ⟨rfl, rfl⟩
  go_wp2
  go_ret
  exact ⟨ret_bool (by rw [Bool.eq_iff_iff]; simp; omega), rfl⟩
theorem specAlike_no (n a b : Int) (w : World) (h : NotIn n a ∨ NotIn n b) :
    Calls Try.prog 34 #[.int .i64 n, .int .i64 a, .int .i64 b] w fun e w' => e = .returned (.bool false) ∧ w = w' := by
  by_cases ha : NotIn n a
  · have HI := Lib.hid (specIn_no n a w ha)
    clear h ha
    go_enter Try.func34, Try.ntmps34
    go_wp2_with (go_at_call 44; refine HI.out.mono ?_; rintro e w' ⟨rfl, rfl⟩)
    go_ret
    exact ⟨rfl, rfl⟩
  · have hb : NotIn n b := by
      rcases h with h | h
      · exact absurd h ha
      · exact h
    have HJ := Lib.hid (specIn_no n b w hb)
    obtain ⟨m, t, rfl, rfl, h1, h2, h3⟩ := not_notIn ha
    have HI := Lib.hid (specIn_yes m t w h1 h2 h3)
    clear h ha hb
    go_enter Try.func34, Try.ntmps34
    go_wp2_with fail
    refine HI.out.mono ?_
    rintro e w' ⟨rfl, rfl⟩
    go_wp2_with fail
    refine HJ.out.mono ?_
    rintro e w' ⟨rfl, rfl⟩
    go_wp2
    go_ret
    exact ⟨rfl, rfl⟩
end Go.Proofs.Ythccchelemnnfaa
