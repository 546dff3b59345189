/- Exact laws of chapter 4: counts, closed, set, squares. -/
import Derived.Test.YtgljkmjpmniifaaArrG
import Derived.Test.YtgljkmjpmniifaaWalkC
namespace Go.Proofs.Ytgljkmjpmniifaa
open Go.RowKit
set_option linter.unusedVariables false
theorem lawL_WalkCounts (nI sI vI : Int) (xs : List Int) (b : Bool) (w : World) (hl : xs.length ≤ 1000) (hS : ∀ W, Calls Try.prog 10 #[.int .i64 nI, .int .i64 sI, .int .i64 vI] W (ListRes W xs b)) (hI : ∀ W, Calls Try.prog 11 #[.int .i64 nI, .int .i64 sI, .int .i64 vI] W (ListRes W xs b)) :
    Calls Try.prog 3 #[.int .i64 nI, .int .i64 sI, .int .i64 vI] w fun e w' => e = .returned (.bool true) ∧ Below w.heap.size w w' := by
  have HS := Lib.hid hS
  have HI := Lib.hid hI
  clear hS hI
  cases b
  all_goals
    go_enter Try.func3, Try.ntmps3
    go_wp2_with fail
    refine (HS.out _).mono ?_
    rintro e w1 ⟨sv, rfl, hb1, hI1⟩
    have z1 := hb1.size
    have HI1 := Lib.hid hI1
    clear hI1
    go_wp2_with fail
    refine (HI.out _).mono ?_
    rintro e w2 ⟨sa, rfl, hb2, hI2⟩
    have z2 := hb2.size
    have HI2 := Lib.hid hI2
    clear hI2
    go_wp2_with fail
    refine (eqInts_any _ _ xs _ _ _ HI2.out (HI1.out.belowAll hb2)).mono ?_
    rintro e w3 ⟨rfl, hb3⟩
    have z3 := hb3.size
    go_wp2_with fail
    refine (markInts_any _ xs _ w1.heap.size _ (HI2.out.belowAll hb3) (by omega) (by omega) (by omega)).mono ?_
    rintro e w4 ⟨rfl, hI4, hg4⟩
    have hb4 : Below w1.heap.size w3 w4 := Below.grown (Below.refl _ w3) hg4 (by omega) (fun k e => (World.ownsRow.lt HI2.out k e).1)
    have HI4 := Lib.hid hI4
    have HO4 : Hid (IsInts w4 w.heap.size sv xs) :=
      Lib.hid (((HI1.out.belowAll hb2).belowAll hb3).below (N := w1.heap.size) (fun q hq => (World.ownsRow.lt HI1.out q hq).2) hb4)
    have z4 := hb4.size
    clear hI4 hg4
    go_wp2_with fail
    refine (heldInts_any _ xs.length _ w1.heap.size _ HI4.out (by omega) (by omega) (by omega)).mono ?_
    rintro e w5 ⟨rfl, rfl⟩
    go_wp2_with fail
    refine (HI.out _).mono ?_
    rintro e w6 ⟨sb, rfl, hb6, hI6⟩
    have z6 := hb6.size
    have HI6 := Lib.hid hI6
    clear hI6
    go_wp2_with fail
    refine (eqInts_any _ _ xs _ _ _ HI6.out (HO4.out.belowAll hb6)).mono ?_
    rintro e w7 ⟨rfl, hb7⟩
    have z7 := hb7.size
    go_wp2_with fail
    refine (heldInts_any _ xs.length _ w1.heap.size _ ((HI4.out.belowAll hb6).belowAll hb7) (by omega) (by omega) (by omega)).mono ?_
    rintro e w8 ⟨rfl, rfl⟩
    go_wp2
    go_ret
    exact ⟨rfl, ((((hb1.trans (hb2.mono z1)).trans (hb3.mono (by omega))).trans (hb4.mono z1)).trans (hb6.mono (by omega))).trans (hb7.mono (by omega))⟩
theorem law_WalkCounts (n s k : Int) (w : World) :
    Calls Try.prog 3 #[.int .i64 n, .int .i64 s, .int .i64 k] w fun e w' => e = .returned (.bool true) ∧ Below w.heap.size w w' := by
  by_cases h : NoStep n s ∨ ¬ (0 ≤ k ∧ k ≤ 10)
  · refine lawL_WalkCounts n s k [] false w (by simp) (fun W => ?_) (fun W => implWalkCounts_bad n s k W h)
    by_cases hn : NoStep n s
    · exact (specWalkCounts_no n s k W hn).mono fun e w' h => none_res h
    · obtain ⟨m, t, rfl, rfl, h1, h2, h3, h4⟩ := not_noStep hn
      exact (specWalkCounts_out m t k W h1 h2 h3 h4 (h.resolve_left hn)).mono fun e w' h => none_res h
  · have hn : ¬ NoStep n s := fun hh => h (.inl hh)
    obtain ⟨m, t, rfl, rfl, h1, h2, h3, h4⟩ := not_noStep hn
    have hk : 0 ≤ k ∧ k ≤ 10 := Decidable.byContradiction fun hh => h (.inr hh)
    obtain ⟨j, rfl⟩ : ∃ j : Nat, k = (j : Int) := ⟨k.toNat, by omega⟩
    exact lawL_WalkCounts m t j _ true w (by rw [tabW_len]; omega) (fun W => (specWalkCounts_yes m t j W h1 h2 h3 h4 (by omega)).mono fun e w' h => lists_res h) (fun W => (implWalkCounts_yes m t j W h1 h2 h3 h4 (by omega)).mono fun e w' h => lists_res h)
theorem law_WalkClosed (n s k : Int) (w : World) :
    Calls Try.prog 4 #[.int .i64 n, .int .i64 s, .int .i64 k] w fun e w' => e = .returned (.bool true) ∧ Below w.heap.size w w' := by
  by_cases h : NoStep n s ∨ ¬ (0 ≤ k ∧ k ≤ 10)
  · have HI := Lib.hid (fun W => implWalkClosed_bad' n s k W h)
    have hS : ∀ W, Calls Try.prog 15 #[.int .i64 n, .int .i64 s, .int .i64 k] W fun e w' => e = .returned (.tuple #[.int .i64 0, .bool false]) ∧ W = w' := fun W => by
      by_cases hn : NoStep n s
      · exact specWalkClosed_no n s k W hn
      · obtain ⟨m, t, rfl, rfl, h1, h2, h3, h4⟩ := not_noStep hn
        exact specWalkClosed_out m t k W h1 h2 h3 h4 (h.resolve_left hn)
    have HS := Lib.hid hS
    clear hS h
    go_enter Try.func4, Try.ntmps4
    go_wp2_with fail
    refine (HS.out _).mono ?_
    rintro e w1 ⟨rfl, rfl⟩
    go_wp2_with fail
    refine (HI.out _).mono ?_
    rintro e w1 ⟨rfl, hb⟩
    go_wp2
    go_ret
    exact ⟨rfl, hb⟩
  · have hn : ¬ NoStep n s := fun hh => h (.inl hh)
    obtain ⟨m, t, rfl, rfl, h1, h2, h3, h4⟩ := not_noStep hn
    have hk : 0 ≤ k ∧ k ≤ 10 := Decidable.byContradiction fun hh => h (.inr hh)
    obtain ⟨j, rfl⟩ : ∃ j : Nat, k = (j : Int) := ⟨k.toNat, by omega⟩
    have HS := Lib.hid (fun W => specWalkClosed_yes m t j W h1 h2 h3 h4 (by omega))
    have HI := Lib.hid (fun W => implWalkClosed_yes m t j W h1 h2 h3 h4 (by omega))
    generalize wlkN m t j 0 = q at *
    clear h hk hn
    go_enter Try.func4, Try.ntmps4
    go_wp2_with fail
    refine (HS.out _).mono ?_
    rintro e w1 ⟨rfl, hb1⟩
    go_wp2_with fail
    refine (HI.out _).mono ?_
    rintro e w2 ⟨rfl, hb⟩
    go_wp2
    go_ret
    exact ⟨rfl, hb1.trans (hb.mono hb1.size)⟩
theorem law_WalkSet (n s k : Int) (w : World) :
    Calls Try.prog 5 #[.int .i64 n, .int .i64 s, .int .i64 k] w fun e w' => e = .returned (.bool true) ∧ Below w.heap.size w w' := by
  by_cases h : NoStep n s ∨ ¬ (0 ≤ k ∧ k ≤ 100)
  · have HI := Lib.hid (fun W => implWalkSet_bad' n s k W h)
    have hS : ∀ W, Calls Try.prog 17 #[.int .i64 n, .int .i64 s, .int .i64 k] W fun e w' => e = .returned (.tuple #[.int .i64 0, .bool false]) ∧ W = w' := fun W => by
      by_cases hn : NoStep n s
      · exact specWalkSet_no n s k W hn
      · obtain ⟨m, t, rfl, rfl, h1, h2, h3, h4⟩ := not_noStep hn
        exact specWalkSet_out m t k W h1 h2 h3 h4 (h.resolve_left hn)
    have HS := Lib.hid hS
    clear hS h
    go_enter Try.func5, Try.ntmps5
    go_wp2_with fail
    refine (HS.out _).mono ?_
    rintro e w1 ⟨rfl, rfl⟩
    go_wp2_with fail
    refine (HI.out _).mono ?_
    rintro e w1 ⟨rfl, hb⟩
    go_wp2
    go_ret
    exact ⟨rfl, hb⟩
  · have hn : ¬ NoStep n s := fun hh => h (.inl hh)
    obtain ⟨m, t, rfl, rfl, h1, h2, h3, h4⟩ := not_noStep hn
    have hk : 0 ≤ k ∧ k ≤ 100 := Decidable.byContradiction fun hh => h (.inr hh)
    obtain ⟨j, rfl⟩ : ∃ j : Nat, k = (j : Int) := ⟨k.toNat, by omega⟩
    have HS := Lib.hid (fun W => specWalkSet_yes m t j W h1 h2 h3 h4 (by omega))
    have HI := Lib.hid (fun W => implWalkSet_yes m t j W h1 h2 h3 h4 (by omega))
    generalize wsetN m t j = q at *
    clear h hk hn
    go_enter Try.func5, Try.ntmps5
    go_wp2_with fail
    refine (HS.out _).mono ?_
    rintro e w1 ⟨rfl, rfl⟩
    go_wp2_with fail
    refine (HI.out _).mono ?_
    rintro e w2 ⟨rfl, hb⟩
    go_wp2
    go_ret
    exact ⟨rfl, hb⟩
theorem law_WalkSquares (n s k : Int) (w : World) :
    Calls Try.prog 9 #[.int .i64 n, .int .i64 s, .int .i64 k] w fun e w' => e = .returned (.bool true) ∧ Below w.heap.size w w' := by
  by_cases h : NoStep n s ∨ ¬ (0 ≤ k ∧ k ≤ 5)
  · have HI := Lib.hid (fun W => implWalkSquares_bad' n s k W h)
    have hS : ∀ W, Calls Try.prog 25 #[.int .i64 n, .int .i64 s, .int .i64 k] W fun e w' => e = .returned (.tuple #[.int .i64 0, .bool false]) ∧ W = w' := fun W => by
      by_cases hn : NoStep n s
      · exact specWalkSquares_no n s k W hn
      · obtain ⟨m, t, rfl, rfl, h1, h2, h3, h4⟩ := not_noStep hn
        exact specWalkSquares_out m t k W h1 h2 h3 h4 (h.resolve_left hn)
    have HS := Lib.hid hS
    clear hS h
    go_enter Try.func9, Try.ntmps9
    go_wp2_with fail
    refine (HS.out _).mono ?_
    rintro e w1 ⟨rfl, rfl⟩
    go_wp2_with fail
    refine (HI.out _).mono ?_
    rintro e w1 ⟨rfl, hb⟩
    go_wp2
    go_ret
    exact ⟨rfl, hb⟩
  · have hn : ¬ NoStep n s := fun hh => h (.inl hh)
    obtain ⟨m, t, rfl, rfl, h1, h2, h3, h4⟩ := not_noStep hn
    have hk : 0 ≤ k ∧ k ≤ 5 := Decidable.byContradiction fun hh => h (.inr hh)
    obtain ⟨j, rfl⟩ : ∃ j : Nat, k = (j : Int) := ⟨k.toNat, by omega⟩
    have HS := Lib.hid (fun W => specWalkSquares_yes m t j W h1 h2 h3 h4 (by omega))
    have HI := Lib.hid (fun W => implWalkSquares_yes m t j W h1 h2 h3 h4 (by omega))
    generalize sqN m t j m = q at *
    clear h hk hn
    go_enter Try.func9, Try.ntmps9
    go_wp2_with fail
    refine (HS.out _).mono ?_
    rintro e w1 ⟨rfl, hb1⟩
    go_wp2_with fail
    refine (HI.out _).mono ?_
    rintro e w2 ⟨rfl, hb⟩
    go_wp2
    go_ret
    exact ⟨rfl, hb1.trans (hb.mono hb1.size)⟩
end Go.Proofs.Ytgljkmjpmniifaa
