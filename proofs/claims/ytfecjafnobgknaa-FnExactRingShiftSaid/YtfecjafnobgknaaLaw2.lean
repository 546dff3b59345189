/- The exact laws of chapter 1: the program and the model answer alike. -/
import Derived.Test.YtfecjafnobgknaaSpecB
import Derived.Test.YtfecjafnobgknaaWrapA
import Derived.Test.YtfecjafnobgknaaLaw1
namespace Go.Proofs.Ytfecjafnobgknaa
open Go.RowKit
set_option linter.unusedVariables false
theorem law_RingShift (n s k : Int) (w : World) :
    Calls Try.prog 4 #[.int .i64 n, .int .i64 s, .int .i64 k] w fun e w' => e = .returned (.bool true) ∧ Below w.heap.size w w' := by
  by_cases h : NotIn n s
  · have H := Lib.hid h
    clear h
    go_enter Try.func4, Try.ntmps4
    go_wp2_with fail
    refine (specShift_no n s k w H.out).mono ?_
    rintro e w1 ⟨rfl, rfl⟩
    go_wp2_with fail
    refine (implShift_no n s k _ H.out).mono ?_
    rintro e w1 ⟨rfl, hb⟩
    go_wp2
    go_ret
    exact ⟨rfl, hb⟩
  · obtain ⟨m, t, rfl, rfl, h1, h2, h3⟩ := not_notIn h
    clear h
    by_cases hk : -100 ≤ k ∧ k ≤ 100
    · obtain ⟨hk1, hk2⟩ := hk
      go_enter Try.func4, Try.ntmps4
      go_wp2_with fail
      refine (specShift_yes m t k w h1 h2 h3 hk1 hk2).mono ?_
      rintro e w1 ⟨rfl, rfl⟩
      go_wp2_with fail
      refine (implShift_yes m t k _ h1 h2 h3 hk1 hk2).mono ?_
      rintro e w1 ⟨rfl, hb⟩
      go_wp2
      go_ret
      exact ⟨rfl, hb⟩
    · have H := Lib.hid hk
      clear hk
      go_enter Try.func4, Try.ntmps4
      go_wp2_with fail
      refine (specShift_move m t k w h1 h2 h3 H.out).mono ?_
      rintro e w1 ⟨rfl, rfl⟩
      go_wp2_with fail
      refine (implShift_move m t k _ h1 h2 h3 H.out).mono ?_
      rintro e w1 ⟨rfl, hb⟩
      go_wp2
      go_ret
      exact ⟨rfl, hb⟩
theorem law_RingTurn (n s k : Int) (w : World) :
    Calls Try.prog 5 #[.int .i64 n, .int .i64 s, .int .i64 k] w fun e w' => e = .returned (.bool true) ∧ Below w.heap.size w w' := by
  by_cases h : NotIn n s
  · have H := Lib.hid h
    clear h
    go_enter Try.func5, Try.ntmps5
    go_wp2_with fail
    refine (specTurn_no n s k w H.out).mono ?_
    rintro e w1 ⟨rfl, rfl⟩
    go_wp2_with fail
    refine (implTurn_no n s k _ H.out).mono ?_
    rintro e w1 ⟨rfl, hb⟩
    go_wp2
    go_ret
    exact ⟨rfl, hb⟩
  · obtain ⟨m, t, rfl, rfl, h1, h2, h3⟩ := not_notIn h
    clear h
    by_cases hk : -100 ≤ k ∧ k ≤ 100
    · obtain ⟨hk1, hk2⟩ := hk
      go_enter Try.func5, Try.ntmps5
      go_wp2_with fail
      refine (specTurn_yes m t k w h1 h2 h3 hk1 hk2).mono ?_
      rintro e w1 ⟨rfl, rfl⟩
      go_wp2_with fail
      refine (implTurn_yes m t k _ h1 h2 h3 hk1 hk2).mono ?_
      rintro e w1 ⟨rfl, hb⟩
      go_wp2
      go_ret
      exact ⟨rfl, hb⟩
    · have H := Lib.hid hk
      clear hk
      go_enter Try.func5, Try.ntmps5
      go_wp2_with fail
      refine (specTurn_move m t k w h1 h2 h3 H.out).mono ?_
      rintro e w1 ⟨rfl, rfl⟩
      go_wp2_with fail
      refine (implTurn_move m t k _ h1 h2 h3 H.out).mono ?_
      rintro e w1 ⟨rfl, hb⟩
      go_wp2
      go_ret
      exact ⟨rfl, hb⟩
theorem law_RingSum (n a b : Int) (w : World) :
    Calls Try.prog 6 #[.int .i64 n, .int .i64 a, .int .i64 b] w fun e w' => e = .returned (.bool true) ∧ Below w.heap.size w w' := by
  by_cases h : NotIn n a ∨ NotIn n b
  · have H := Lib.hid h
    clear h
    go_enter Try.func6, Try.ntmps6
    go_wp2_with fail
    refine (specSum_no n a b w H.out).mono ?_
    rintro e w1 ⟨rfl, rfl⟩
    go_wp2_with fail
    refine (implSum_no n a b _ H.out).mono ?_
    rintro e w1 ⟨rfl, hb⟩
    go_wp2
    go_ret
    exact ⟨rfl, hb⟩
  · obtain ⟨m, t, rfl, rfl, h1, h2, h3⟩ := not_notIn (fun hh => h (.inl hh))
    obtain ⟨m', u, hm, rfl, h1', h2', h4⟩ := not_notIn (fun hh => h (.inr hh))
    obtain rfl : m = m' := by omega
    clear h hm h1' h2'
    have hs := specSum_yes m t u w h1 h2 h3 h4
    rw [sum_comm m u t h1 h4 h3] at hs
    have HS := Lib.hid hs
    clear hs
    go_enter Try.func6, Try.ntmps6
    go_wp2_with fail
    refine (HS.out).mono ?_
    rintro e w1 ⟨rfl, rfl⟩
    go_wp2_with fail
    refine (implSum_yes m t u _ h1 h2 h3 h4).mono ?_
    rintro e w1 ⟨rfl, hb⟩
    go_wp2
    go_ret
    exact ⟨rfl, hb⟩
theorem law_RingMinus (n a b : Int) (w : World) :
    Calls Try.prog 8 #[.int .i64 n, .int .i64 a, .int .i64 b] w fun e w' => e = .returned (.bool true) ∧ Below w.heap.size w w' := by
  by_cases h : NotIn n a ∨ NotIn n b
  · have H := Lib.hid h
    clear h
    go_enter Try.func8, Try.ntmps8
    go_wp2_with fail
    refine (specMinus_no n a b w H.out).mono ?_
    rintro e w1 ⟨rfl, rfl⟩
    go_wp2_with fail
    refine (implMinus_no n a b _ H.out).mono ?_
    rintro e w1 ⟨rfl, hb⟩
    go_wp2
    go_ret
    exact ⟨rfl, hb⟩
  · obtain ⟨m, t, rfl, rfl, h1, h2, h3⟩ := not_notIn (fun hh => h (.inl hh))
    obtain ⟨m', u, hm, rfl, h1', h2', h4⟩ := not_notIn (fun hh => h (.inr hh))
    obtain rfl : m = m' := by omega
    clear h hm h1' h2'
    have hs := specMinus_yes m t u w h1 h2 h3 h4
    rw [sum_comm m (turnN m u (-1)) t h1 (turnN_lt m u (-1) h1) h3] at hs
    have HS := Lib.hid hs
    clear hs
    go_enter Try.func8, Try.ntmps8
    go_wp2_with fail
    refine (HS.out).mono ?_
    rintro e w1 ⟨rfl, rfl⟩
    go_wp2_with fail
    refine (implMinus_yes m t u _ h1 h2 h3 h4).mono ?_
    rintro e w1 ⟨rfl, hb⟩
    go_wp2
    go_ret
    exact ⟨rfl, hb⟩
theorem law_RingHolds (n s : Int) (w : World) :
    Calls Try.prog 9 #[.int .i64 n, .int .i64 s] w fun e w' => e = .returned (.bool true) ∧ Below w.heap.size w w' := by
  by_cases h : NotIn n s
  · have H := Lib.hid h
    clear h
    go_enter Try.func9, Try.ntmps9
    go_wp2_with fail
    refine (specHolds_no n s w H.out).mono ?_
    rintro e w1 ⟨rfl, rfl⟩
    go_wp2_with fail
    refine (implHolds_no n s _ H.out).mono ?_
    rintro e w1 ⟨rfl, hb⟩
    go_wp2
    go_ret
    exact ⟨rfl, hb⟩
  · obtain ⟨m, t, rfl, rfl, h1, h2, h3⟩ := not_notIn h
    clear h
    go_enter Try.func9, Try.ntmps9
    go_wp2_with fail
    refine (specHolds_yes m t w h1 h2 h3).mono ?_
    rintro e w1 ⟨rfl, rfl⟩
    go_wp2_with fail
    refine (implHolds_yes m t _ h1 h2 h3).mono ?_
    rintro e w1 ⟨rfl, hb⟩
    go_wp2
    go_ret
    exact ⟨rfl, hb⟩
theorem law_RingLeast (n s : Int) (w : World) :
    Calls Try.prog 11 #[.int .i64 n, .int .i64 s] w fun e w' => e = .returned (.bool true) ∧ Below w.heap.size w w' := by
  by_cases h : NotIn n s
  · have H := Lib.hid h
    clear h
    go_enter Try.func11, Try.ntmps11
    go_wp2_with fail
    refine (specLeast_no n s w H.out).mono ?_
    rintro e w1 ⟨rfl, rfl⟩
    go_wp2_with fail
    refine (implLeast_no n s _ H.out).mono ?_
    rintro e w1 ⟨rfl, hb⟩
    go_wp2
    go_ret
    exact ⟨rfl, hb⟩
  · obtain ⟨m, t, rfl, rfl, h1, h2, h3⟩ := not_notIn h
    clear h
    go_enter Try.func11, Try.ntmps11
    go_wp2_with fail
    refine (specLeast_yes m t w h1 h2 h3).mono ?_
    rintro e w1 ⟨rfl, rfl⟩
    go_wp2_with fail
    refine (implLeast_yes m t _ h1 h2 h3).mono ?_
    rintro e w1 ⟨rfl, hb⟩
    go_wp2
    go_ret
    exact ⟨rfl, hb⟩
theorem law_RingUnits (n : Int) (w : World) :
    Calls Try.prog 10 #[.int .i64 n] w fun e w' => e = .returned (.bool true) ∧ Below w.heap.size w w' := by
  by_cases h : 1 ≤ n ∧ n ≤ 12
  · obtain ⟨m, rfl⟩ : ∃ m : Nat, n = (m : Int) := ⟨n.toNat, by omega⟩
    have h1 : 1 ≤ m := by omega
    have h2 : m ≤ 12 := by omega
    clear h
    go_enter Try.func10, Try.ntmps10
    go_wp2_with fail
    refine (specUnits_yes m w h1 h2).mono ?_
    rintro e w1 ⟨rfl, rfl⟩
    go_wp2_with fail
    refine (implUnits_yes m _ h1 h2).mono ?_
    rintro e w1 ⟨rfl, hb⟩
    go_wp2
    go_ret
    exact ⟨rfl, hb⟩
  · have H := Lib.hid h
    clear h
    go_enter Try.func10, Try.ntmps10
    go_wp2_with fail
    refine (specUnits_no n w H.out).mono ?_
    rintro e w1 ⟨rfl, rfl⟩
    go_wp2_with fail
    refine (implUnits_no n _ H.out).mono ?_
    rintro e w1 ⟨rfl, hb⟩
    go_wp2
    go_ret
    exact ⟨rfl, hb⟩
end Go.Proofs.Ytfecjafnobgknaa
