/- The exact laws of chapter 6 over given contracts of the program. -/
import Derived.Test.YtcmobeeneleidaaFreC
import Derived.Test.YtcmobeeneleidaaFreF
import Derived.Test.YtcmobeeneleidaaGB
namespace Go.Proofs.Ytcmobeeneleidaa
open Go.RowKit Go.Shelf
set_option linter.unusedVariables false
def NoFreeMost : Prop := ∀ (n s : Int) (W : World), NoStep n s → Calls Try.prog 12 #[.int .i64 n, .int .i64 s] W fun e w' => e = .returned (.tuple #[.int .i64 0, .bool false]) ∧ Below W.heap.size W w'
def YesFreeMost : Prop := ∀ (n s : Nat) (W : World), 1 ≤ n → n ≤ 12 → s < 2 ^ n → s.testBit 0 = false → Calls Try.prog 12 #[.int .i64 (n:Int), .int .i64 (s:Int)] W fun e w' => e = .returned (.tuple #[.int .i64 ((mostF n s : Nat) : Int), .bool true]) ∧ Below W.heap.size W w'
theorem lawE_FreeMost (n s : Int) (w : World) (hN : NoFreeMost) (hY : YesFreeMost) :
    Calls Try.prog 3 #[.int .i64 n, .int .i64 s] w fun e w' => e = .returned (.bool true) ∧ Below w.heap.size w w' := by
  by_cases h : NoStep n s
  · have HI := Lib.hid (fun W => hN n s W h)
    have HS := Lib.hid (fun W => specFreeMost_no n s W h)
    clear h hN hY
    go_enter Try.func3, Try.ntmps3
    go_wp2_with fail
    refine (HS.out _).mono ?_
    rintro e w1 ⟨rfl, rfl⟩
    go_wp2_with fail
    refine (HI.out _).mono ?_
    rintro e w1 ⟨rfl, hb⟩
    go_wp2
    go_ret
    exact ⟨rfl, hb⟩
  · obtain ⟨m, t, rfl, rfl, h1, h2, h3, h4⟩ := not_noStep h
    have HS := Lib.hid (fun W => specFreeMost_yes m t W h1 h2 h3 h4)
    have HI := Lib.hid (fun W => hY m t W h1 h2 h3 h4)
    generalize mostF m t = q at *
    clear h hN hY
    go_enter Try.func3, Try.ntmps3
    go_wp2_with fail
    refine (HS.out _).mono ?_
    rintro e w1 ⟨rfl, hb1⟩
    go_wp2_with fail
    refine (HI.out _).mono ?_
    rintro e w2 ⟨rfl, hb⟩
    go_wp2
    go_ret
    exact ⟨rfl, hb1 ▸ hb⟩
def NoFreeMany : Prop := ∀ (n s : Int) (W : World), NoStep n s → Calls Try.prog 14 #[.int .i64 n, .int .i64 s] W fun e w' => e = .returned (.tuple #[.int .i64 0, .bool false]) ∧ Below W.heap.size W w'
def YesFreeMany : Prop := ∀ (n s : Nat) (W : World), 1 ≤ n → n ≤ 12 → s < 2 ^ n → s.testBit 0 = false → Calls Try.prog 14 #[.int .i64 (n:Int), .int .i64 (s:Int)] W fun e w' => e = .returned (.tuple #[.int .i64 ((manyF n s : Nat) : Int), .bool true]) ∧ Below W.heap.size W w'
theorem lawE_FreeMany (n s : Int) (w : World) (hN : NoFreeMany) (hY : YesFreeMany) :
    Calls Try.prog 4 #[.int .i64 n, .int .i64 s] w fun e w' => e = .returned (.bool true) ∧ Below w.heap.size w w' := by
  by_cases h : NoStep n s
  · have HI := Lib.hid (fun W => hN n s W h)
    have HS := Lib.hid (fun W => specFreeMany_no n s W h)
    clear h hN hY
    go_enter Try.func4, Try.ntmps4
    go_wp2_with fail
    refine (HS.out _).mono ?_
    rintro e w1 ⟨rfl, rfl⟩
    go_wp2_with fail
    refine (HI.out _).mono ?_
    rintro e w1 ⟨rfl, hb⟩
    go_wp2
    go_ret
    exact ⟨rfl, hb⟩
  · obtain ⟨m, t, rfl, rfl, h1, h2, h3, h4⟩ := not_noStep h
    have HS := Lib.hid (fun W => specFreeMany_yes m t W h1 h2 h3 h4)
    have HI := Lib.hid (fun W => hY m t W h1 h2 h3 h4)
    generalize manyF m t = q at *
    clear h hN hY
    go_enter Try.func4, Try.ntmps4
    go_wp2_with fail
    refine (HS.out _).mono ?_
    rintro e w1 ⟨rfl, hb1⟩
    go_wp2_with fail
    refine (HI.out _).mono ?_
    rintro e w2 ⟨rfl, hb⟩
    go_wp2
    go_ret
    exact ⟨rfl, hb1 ▸ hb⟩
def NoFreeFull : Prop := ∀ (n s : Int) (W : World), NoStep n s → Calls Try.prog 16 #[.int .i64 n, .int .i64 s] W fun e w' => e = .returned (.tuple #[.int .i64 0, .bool false]) ∧ Below W.heap.size W w'
def YesFreeFull : Prop := ∀ (n s : Nat) (W : World), 1 ≤ n → n ≤ 12 → s < 2 ^ n → s.testBit 0 = false → Calls Try.prog 16 #[.int .i64 (n:Int), .int .i64 (s:Int)] W fun e w' => e = .returned (.tuple #[.int .i64 ((fullF n s : Nat) : Int), .bool true]) ∧ Below W.heap.size W w'
theorem lawE_FreeFull (n s : Int) (w : World) (hN : NoFreeFull) (hY : YesFreeFull) :
    Calls Try.prog 5 #[.int .i64 n, .int .i64 s] w fun e w' => e = .returned (.bool true) ∧ Below w.heap.size w w' := by
  by_cases h : NoStep n s
  · have HI := Lib.hid (fun W => hN n s W h)
    have HS := Lib.hid (fun W => specFreeFull_no n s W h)
    clear h hN hY
    go_enter Try.func5, Try.ntmps5
    go_wp2_with fail
    refine (HS.out _).mono ?_
    rintro e w1 ⟨rfl, rfl⟩
    go_wp2_with fail
    refine (HI.out _).mono ?_
    rintro e w1 ⟨rfl, hb⟩
    go_wp2
    go_ret
    exact ⟨rfl, hb⟩
  · obtain ⟨m, t, rfl, rfl, h1, h2, h3, h4⟩ := not_noStep h
    have HS := Lib.hid (fun W => specFreeFull_yes m t W h1 h2 h3 h4)
    have HI := Lib.hid (fun W => hY m t W h1 h2 h3 h4)
    generalize fullF m t = q at *
    clear h hN hY
    go_enter Try.func5, Try.ntmps5
    go_wp2_with fail
    refine (HS.out _).mono ?_
    rintro e w1 ⟨rfl, hb1⟩
    go_wp2_with fail
    refine (HI.out _).mono ?_
    rintro e w2 ⟨rfl, hb⟩
    go_wp2
    go_ret
    exact ⟨rfl, hb1.trans (hb.mono hb1.size)⟩
def NoFreeWatch : Prop := ∀ (n s : Int) (W : World), NoStep n s → Calls Try.prog 22 #[.int .i64 n, .int .i64 s] W fun e w' => e = .returned (.tuple #[.int .i64 0, .bool false]) ∧ Below W.heap.size W w'
def YesFreeWatch : Prop := ∀ (n s : Nat) (W : World), 1 ≤ n → n ≤ 12 → s < 2 ^ n → s.testBit 0 = false → Calls Try.prog 22 #[.int .i64 (n:Int), .int .i64 (s:Int)] W fun e w' => e = .returned (.tuple #[.int .i64 ((watchF n s : Nat) : Int), .bool true]) ∧ Below W.heap.size W w'
theorem lawE_FreeWatch (n s : Int) (w : World) (hN : NoFreeWatch) (hY : YesFreeWatch) :
    Calls Try.prog 8 #[.int .i64 n, .int .i64 s] w fun e w' => e = .returned (.bool true) ∧ Below w.heap.size w w' := by
  by_cases h : NoStep n s
  · have HI := Lib.hid (fun W => hN n s W h)
    have HS := Lib.hid (fun W => specFreeWatch_no n s W h)
    clear h hN hY
    go_enter Try.func8, Try.ntmps8
    go_wp2_with fail
    refine (HS.out _).mono ?_
    rintro e w1 ⟨rfl, rfl⟩
    go_wp2_with fail
    refine (HI.out _).mono ?_
    rintro e w1 ⟨rfl, hb⟩
    go_wp2
    go_ret
    exact ⟨rfl, hb⟩
  · obtain ⟨m, t, rfl, rfl, h1, h2, h3, h4⟩ := not_noStep h
    have HS := Lib.hid (fun W => specFreeWatch_yes m t W h1 h2 h3 h4)
    have HI := Lib.hid (fun W => hY m t W h1 h2 h3 h4)
    generalize watchF m t = q at *
    clear h hN hY
    go_enter Try.func8, Try.ntmps8
    go_wp2_with fail
    refine (HS.out _).mono ?_
    rintro e w1 ⟨rfl, hb1⟩
    go_wp2_with fail
    refine (HI.out _).mono ?_
    rintro e w2 ⟨rfl, hb⟩
    go_wp2
    go_ret
    exact ⟨rfl, hb1.trans (hb.mono hb1.size)⟩
theorem not_noCol {n s : Int} (h : ¬ NoCol n s) : ∃ m t : Nat, n = (m : Int) ∧ s = (t : Int) ∧ 1 ≤ m ∧ m ≤ 8 ∧ t < 2 ^ m ∧ t.testBit 0 = false := by
  obtain ⟨m, t, rfl, rfl, h1, h2, h3, h4⟩ := not_noStep (fun hh => h (.inl hh))
  have h5 : (m : Int) ≤ 8 := Decidable.byContradiction fun hh => h (.inr hh)
  exact ⟨m, t, rfl, rfl, h1, by omega, h3, h4⟩
theorem not_noWays {n s k : Int} (h : ¬ NoWays n s k) : ∃ m t j : Nat, n = (m : Int) ∧ s = (t : Int) ∧ k = (j : Int) ∧ 1 ≤ m ∧ m ≤ 8 ∧ t < 2 ^ m ∧ t.testBit 0 = false ∧ j ≤ 4 := by
  obtain ⟨m, t, rfl, rfl, h1, h2, h3, h4⟩ := not_noStep (fun hh => h (.inl hh))
  have h5 : (m : Int) ≤ 8 := Decidable.byContradiction fun hh => h (.inr (.inl hh))
  have h6 : 0 ≤ k ∧ k ≤ 4 := Decidable.byContradiction fun hh => h (.inr (.inr hh))
  exact ⟨m, t, k.toNat, rfl, rfl, by omega, h1, by omega, h3, h4, by omega⟩
def NoFreeColours : Prop := ∀ (n s : Int) (W : World), NoCol n s → Calls Try.prog 20 #[.int .i64 n, .int .i64 s] W fun e w' => e = .returned (.tuple #[.int .i64 0, .bool false]) ∧ Below W.heap.size W w'
def YesFreeColours : Prop := ∀ (n s : Nat) (W : World), 1 ≤ n → n ≤ 8 → s < 2 ^ n → s.testBit 0 = false → Calls Try.prog 20 #[.int .i64 (n:Int), .int .i64 (s:Int)] W fun e w' => e = .returned (.tuple #[.int .i64 ((colF n s : Nat) : Int), .bool true]) ∧ Below W.heap.size W w'
theorem lawE_FreeColours (n s : Int) (w : World) (hN : NoFreeColours) (hY : YesFreeColours) :
    Calls Try.prog 7 #[.int .i64 n, .int .i64 s] w fun e w' => e = .returned (.bool true) ∧ Below w.heap.size w w' := by
  by_cases h : NoCol n s
  · have HI := Lib.hid (fun W => hN n s W h)
    have HS := Lib.hid (fun W => specFreeColours_no n s W h)
    clear h hN hY
    go_enter Try.func7, Try.ntmps7
    go_wp2_with fail
    refine (HS.out _).mono ?_
    rintro e w1 ⟨rfl, rfl⟩
    go_wp2_with fail
    refine (HI.out _).mono ?_
    rintro e w1 ⟨rfl, hb⟩
    go_wp2
    go_ret
    exact ⟨rfl, hb⟩
  · obtain ⟨m, t, rfl, rfl, h1, h2, h3, h4⟩ := not_noCol h
    have HS := Lib.hid (fun W => specFreeColours_yes m t W h1 h2 h3 h4)
    have HI := Lib.hid (fun W => hY m t W h1 h2 h3 h4)
    generalize colF m t = q at *
    clear h hN hY
    go_enter Try.func7, Try.ntmps7
    go_wp2_with fail
    refine (HS.out _).mono ?_
    rintro e w1 ⟨rfl, hb1⟩
    go_wp2_with fail
    refine (HI.out _).mono ?_
    rintro e w2 ⟨rfl, hb⟩
    go_wp2
    go_ret
    exact ⟨rfl, hb1.trans (hb.mono hb1.size)⟩
def NoFreeWays : Prop := ∀ (n s k : Int) (W : World), NoWays n s k → Calls Try.prog 18 #[.int .i64 n, .int .i64 s, .int .i64 k] W fun e w' => e = .returned (.tuple #[.int .i64 0, .bool false]) ∧ Below W.heap.size W w'
def YesFreeWays : Prop := ∀ (n s k : Nat) (W : World), 1 ≤ n → n ≤ 8 → s < 2 ^ n → s.testBit 0 = false → k ≤ 4 → Calls Try.prog 18 #[.int .i64 (n:Int), .int .i64 (s:Int), .int .i64 (k:Int)] W fun e w' => e = .returned (.tuple #[.int .i64 ((waysF n s k : Nat) : Int), .bool true]) ∧ Below W.heap.size W w'
theorem lawE_FreeWays (n s k : Int) (w : World) (hN : NoFreeWays) (hY : YesFreeWays) :
    Calls Try.prog 6 #[.int .i64 n, .int .i64 s, .int .i64 k] w fun e w' => e = .returned (.bool true) ∧ Below w.heap.size w w' := by
  by_cases h : NoWays n s k
  · have HI := Lib.hid (fun W => hN n s k W h)
    have HS := Lib.hid (fun W => specFreeWays_no n s k W h)
    clear h hN hY
    go_enter Try.func6, Try.ntmps6
    go_wp2_with fail
    refine (HS.out _).mono ?_
    rintro e w1 ⟨rfl, rfl⟩
    go_wp2_with fail
    refine (HI.out _).mono ?_
    rintro e w1 ⟨rfl, hb⟩
    go_wp2
    go_ret
    exact ⟨rfl, hb⟩
  · obtain ⟨m, t, j, rfl, rfl, rfl, h1, h2, h3, h4, h5⟩ := not_noWays h
    have HS := Lib.hid (fun W => specFreeWays_yes m t j W h1 h2 h3 h4 h5)
    have HI := Lib.hid (fun W => hY m t j W h1 h2 h3 h4 h5)
    generalize waysF m t j = q at *
    clear h hN hY
    go_enter Try.func6, Try.ntmps6
    go_wp2_with fail
    refine (HS.out _).mono ?_
    rintro e w1 ⟨rfl, hb1⟩
    go_wp2_with fail
    refine (HI.out _).mono ?_
    rintro e w2 ⟨rfl, hb⟩
    go_wp2
    go_ret
    exact ⟨rfl, hb1.trans (hb.mono hb1.size)⟩
def NoFreeSumless : Prop := ∀ (n : Int) (W : World), ¬ (1 ≤ n ∧ n ≤ 12) → Calls Try.prog 29 #[.int .i64 n] W fun e w' => e = .returned (.tuple #[.int .i64 0, .bool false]) ∧ Below W.heap.size W w'
def YesFreeSumless : Prop := ∀ (n : Nat) (W : World), 1 ≤ n → n ≤ 12 → Calls Try.prog 29 #[.int .i64 (n:Int)] W fun e w' => e = .returned (.tuple #[.int .i64 ((sumlF n : Nat) : Int), .bool true]) ∧ Below W.heap.size W w'
theorem lawE_FreeSumless (n : Int) (w : World) (hN : NoFreeSumless) (hY : YesFreeSumless) :
    Calls Try.prog 10 #[.int .i64 n] w fun e w' => e = .returned (.bool true) ∧ Below w.heap.size w w' := by
  by_cases h : 1 ≤ n ∧ n ≤ 12
  · obtain ⟨m, rfl⟩ : ∃ m : Nat, n = (m : Int) := ⟨n.toNat, by omega⟩
    have h1 : 1 ≤ m := by omega
    have h2 : m ≤ 12 := by omega
    have HS := Lib.hid (fun W => specFreeSumless_yes m W h1 h2)
    have HI := Lib.hid (fun W => hY m W h1 h2)
    generalize sumlF m = q at *
    clear h hN hY
    go_enter Try.func10, Try.ntmps10
    go_wp2_with fail
    refine (HS.out _).mono ?_
    rintro e w1 ⟨rfl, rfl⟩
    go_wp2_with fail
    refine (HI.out _).mono ?_
    rintro e w2 ⟨rfl, hb⟩
    go_wp2
    go_ret
    exact ⟨rfl, hb⟩
  · have HI := Lib.hid (fun W => hN n W h)
    have HS := Lib.hid (fun W => specFreeSumless_no n W h)
    clear h hN hY
    go_enter Try.func10, Try.ntmps10
    go_wp2_with fail
    refine (HS.out _).mono ?_
    rintro e w1 ⟨rfl, rfl⟩
    go_wp2_with fail
    refine (HI.out _).mono ?_
    rintro e w1 ⟨rfl, hb⟩
    go_wp2
    go_ret
    exact ⟨rfl, hb⟩
def NoFreeNeat : Prop := ∀ (n s : Int) (W : World), NoStep n s → Calls Try.prog 24 #[.int .i64 n, .int .i64 s] W (ListRes W [] false)
def YesFreeNeat : Prop := ∀ (n s : Nat) (W : World), 1 ≤ n → n ≤ 12 → s < 2 ^ n → s.testBit 0 = false → Calls Try.prog 24 #[.int .i64 (n:Int), .int .i64 (s:Int)] W (ListRes W (neatL n s (2 ^ n)) true)
theorem lawL_FreeNeat (nI sI : Int) (xs : List Int) (b : Bool) (w : World) (hl : xs.length ≤ 10000) (hS : ∀ W, Calls Try.prog 23 #[.int .i64 nI, .int .i64 sI] W (ListRes W xs b)) (hI : ∀ W, Calls Try.prog 24 #[.int .i64 nI, .int .i64 sI] W (ListRes W xs b)) :
    Calls Try.prog 9 #[.int .i64 nI, .int .i64 sI] w fun e w' => e = .returned (.bool true) ∧ Below w.heap.size w w' := by
  have HS := Lib.hid hS
  have HI := Lib.hid hI
  clear hS hI
  cases b
  all_goals
    go_enter Try.func9, Try.ntmps9
    go_wp2_with fail
    refine (HS.out _).mono ?_
    rintro e w1 ⟨sv, rfl, hb1, hI1⟩
    have z1 := hb1.size
    have HI1 := Lib.hid hI1
    clear hI1
    go_wp2_with fail
    refine (HI.out _).mono ?_
    rintro e w2 ⟨sa, rfl, hb2, hI2⟩
    have z2 := hb2.size
    have HI2 := Lib.hid hI2
    clear hI2
    go_wp2_with fail
    refine (eqInts_any _ _ xs _ _ _ HI2.out (HI1.out.belowAll hb2)).mono ?_
    rintro e w3 ⟨rfl, hb3⟩
    have z3 := hb3.size
    go_wp2_with fail
    refine (markInts_any _ xs _ w1.heap.size _ (HI2.out.belowAll hb3) (by omega) (by omega) (by omega)).mono ?_
    rintro e w4 ⟨rfl, hI4, hg4⟩
    have hb4 : Below w1.heap.size w3 w4 := Below.grown (Below.refl _ w3) hg4 (by omega) (fun k e => (World.ownsRow.lt HI2.out k e).1)
    have HI4 := Lib.hid hI4
    have HO4 : Hid (IsInts w4 w.heap.size sv xs) :=
      Lib.hid (((HI1.out.belowAll hb2).belowAll hb3).below (N := w1.heap.size) (fun q hq => (World.ownsRow.lt HI1.out q hq).2) hb4)
    have z4 := hb4.size
    clear hI4 hg4
    go_wp2_with fail
    refine (heldInts_any _ xs.length _ w1.heap.size _ HI4.out (by omega) (by omega) (by omega)).mono ?_
    rintro e w5 ⟨rfl, rfl⟩
    go_wp2_with fail
    refine (HI.out _).mono ?_
    rintro e w6 ⟨sb, rfl, hb6, hI6⟩
    have z6 := hb6.size
    have HI6 := Lib.hid hI6
    clear hI6
    go_wp2_with fail
    refine (eqInts_any _ _ xs _ _ _ HI6.out (HO4.out.belowAll hb6)).mono ?_
    rintro e w7 ⟨rfl, hb7⟩
    have z7 := hb7.size
    go_wp2_with fail
    refine (heldInts_any _ xs.length _ w1.heap.size _ ((HI4.out.belowAll hb6).belowAll hb7) (by omega) (by omega) (by omega)).mono ?_
    rintro e w8 ⟨rfl, rfl⟩
    go_wp2
    go_ret
    exact ⟨rfl, ((((hb1.trans (hb2.mono z1)).trans (hb3.mono (by omega))).trans (hb4.mono z1)).trans (hb6.mono (by omega))).trans (hb7.mono (by omega))⟩
theorem lawE_FreeNeat (n s : Int) (w : World) (hN : NoFreeNeat) (hY : YesFreeNeat) :
    Calls Try.prog 9 #[.int .i64 n, .int .i64 s] w fun e w' => e = .returned (.bool true) ∧ Below w.heap.size w w' := by
  by_cases h : NoStep n s
  · exact lawL_FreeNeat n s [] false w (by simp) (fun W => specFreeNeat_no n s W h) (fun W => hN n s W h)
  · obtain ⟨m, t, rfl, rfl, h1, h2, h3, h4⟩ := not_noStep h
    refine lawL_FreeNeat m t (neatL m t (2 ^ m)) true w ?_ (fun W => specFreeNeat_yes m t W h1 h2 h3 h4) (fun W => hY m t W h1 h2 h3 h4)
    have a := neat_len m t (2 ^ m)
    have b := pow_le m h2
    omega
end Go.Proofs.Ytcmobeeneleidaa
