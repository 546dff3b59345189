/- The exact laws of chapter 7 over given contracts of the program. Written by gen55.py. -/
import Derived.Test.YthbmjmppmilbpaaDifC
import Derived.Test.YthbmjmppmilbpaaGB
namespace Go.Proofs.Ythbmjmppmilbpaa
open Go.RowKit Go.Shelf
set_option linter.unusedVariables false
theorem to_below {F : Nat} {xs : Array Value} {w : World} {v : Ending} (h : Calls Try.prog F xs w fun e w' => e = v ∧ w = w') : Calls Try.prog F xs w fun e w' => e = v ∧ Below w.heap.size w w' :=
  h.mono fun e w' ⟨he, hw⟩ => ⟨he, hw ▸ Below.refl _ _⟩
def NoDiffTable : Prop := ∀ (n s : Int) (W : World), NotIn n s → Calls Try.prog 12 #[.int .i64 n, .int .i64 s] W (ListRes W [] false)
def YesDiffTable : Prop := ∀ (n s : Nat) (W : World), 1 ≤ n → n ≤ 12 → s < 2 ^ n → Calls Try.prog 12 #[.int .i64 (n:Int), .int .i64 (s:Int)] W (ListRes W (difL n s) true)
theorem lawL_DiffTable (nI sI : Int) (xs : List Int) (b : Bool) (w : World) (hl : xs.length ≤ 10000) (hS : ∀ W, Calls Try.prog 11 #[.int .i64 nI, .int .i64 sI] W (ListRes W xs b)) (hI : ∀ W, Calls Try.prog 12 #[.int .i64 nI, .int .i64 sI] W (ListRes W xs b)) :
    Calls Try.prog 3 #[.int .i64 nI, .int .i64 sI] w fun e w' => e = .returned (.bool true) ∧ Below w.heap.size w w' := by
  have HS := Lib.hid hS
  have HI := Lib.hid hI
  clear hS hI
  cases b
  all_goals
    go_enter Try.func3, Try.ntmps3
    go_wp2_with fail
    refine (HS.out _).mono ?_
    rintro e w1 ⟨sv, rfl, hb1, hI1⟩
    have z1 := hb1.size
    have HI1 := Lib.hid hI1
    clear hI1
    go_wp2_with fail
    refine (HI.out _).mono ?_
    rintro e w2 ⟨sa, rfl, hb2, hI2⟩
    have z2 := hb2.size
    have HI2 := Lib.hid hI2
    clear hI2
    go_wp2_with fail
    refine (eqInts_any _ _ xs _ _ _ HI2.out (HI1.out.belowAll hb2)).mono ?_
    rintro e w3 ⟨rfl, hb3⟩
    have z3 := hb3.size
    go_wp2_with fail
    refine (markInts_any _ xs _ w1.heap.size _ (HI2.out.belowAll hb3) (by omega) (by omega) (by omega)).mono ?_
    rintro e w4 ⟨rfl, hI4, hg4⟩
    have hb4 : Below w1.heap.size w3 w4 := Below.grown (Below.refl _ w3) hg4 (by omega) (fun k e => (World.ownsRow.lt HI2.out k e).1)
    have HI4 := Lib.hid hI4
    have HO4 : Hid (IsInts w4 w.heap.size sv xs) :=
      Lib.hid (((HI1.out.belowAll hb2).belowAll hb3).below (N := w1.heap.size) (fun q hq => (World.ownsRow.lt HI1.out q hq).2) hb4)
    have z4 := hb4.size
    clear hI4 hg4
    go_wp2_with fail
    refine (heldInts_any _ xs.length _ w1.heap.size _ HI4.out (by omega) (by omega) (by omega)).mono ?_
    rintro e w5 ⟨rfl, rfl⟩
    go_wp2_with fail
    refine (HI.out _).mono ?_
    rintro e w6 ⟨sb, rfl, hb6, hI6⟩
    have z6 := hb6.size
    have HI6 := Lib.hid hI6
    clear hI6
    go_wp2_with fail
    refine (eqInts_any _ _ xs _ _ _ HI6.out (HO4.out.belowAll hb6)).mono ?_
    rintro e w7 ⟨rfl, hb7⟩
    have z7 := hb7.size
    go_wp2_with fail
    refine (heldInts_any _ xs.length _ w1.heap.size _ ((HI4.out.belowAll hb6).belowAll hb7) (by omega) (by omega) (by omega)).mono ?_
    rintro e w8 ⟨rfl, rfl⟩
    go_wp2
    go_ret
    exact ⟨rfl, ((((hb1.trans (hb2.mono z1)).trans (hb3.mono (by omega))).trans (hb4.mono z1)).trans (hb6.mono (by omega))).trans (hb7.mono (by omega))⟩
theorem lawE_DiffTable (n s : Int) (w : World) (hN : NoDiffTable) (hY : YesDiffTable) :
    Calls Try.prog 3 #[.int .i64 n, .int .i64 s] w fun e w' => e = .returned (.bool true) ∧ Below w.heap.size w w' := by
  by_cases h : NotIn n s
  · exact lawL_DiffTable n s [] false w (by simp) (fun W => specDiffTable_no n s W h) (fun W => hN n s W h)
  · obtain ⟨m, t, rfl, rfl, h1, h2, h3⟩ := not_notIn h
    exact lawL_DiffTable m t (difL m t) true w (by rw [difL_len]; omega) (fun W => specDiffTable_yes m t W h1 h2 h3) (fun W => hY m t W h1 h2 h3)
def NoDiffEven : Prop := ∀ (n s : Int) (W : World), NotIn n s ∨ n < 2 → Calls Try.prog 17 #[.int .i64 n, .int .i64 s] W (fun e w' => e = .returned (.tuple #[.int .i64 0, .bool false]) ∧ Below W.heap.size W w')
def AnyDiffEven : Prop := ∀ (n s : Nat) (W : World), 2 ≤ n → n ≤ 12 → s < 2 ^ n → Calls Try.prog 17 #[.int .i64 (n:Int), .int .i64 (s:Int)] W (fun e w' => e = .returned (.tuple #[.int .i64 ((evZ n s : Nat) : Int), .bool (evenB n s)]) ∧ Below W.heap.size W w')
theorem lawG_DiffEven (n s : Int) (x : Int) (b : Bool) (w : World) (hS : ∀ W, Calls Try.prog 16 #[.int .i64 n, .int .i64 s] W fun e w' => e = .returned (.tuple #[.int .i64 x, .bool b]) ∧ Below W.heap.size W w')
    (hI : ∀ W, Calls Try.prog 17 #[.int .i64 n, .int .i64 s] W fun e w' => e = .returned (.tuple #[.int .i64 x, .bool b]) ∧ Below W.heap.size W w') :
    Calls Try.prog 4 #[.int .i64 n, .int .i64 s] w fun e w' => e = .returned (.bool true) ∧ Below w.heap.size w w' := by
  have HS := Lib.hid hS
  have HI := Lib.hid hI
  clear hS hI
  cases b
  all_goals
    go_enter Try.func4, Try.ntmps4
    go_wp2_with fail
    refine (HS.out _).mono ?_
    rintro e w1 ⟨rfl, hb1⟩
    go_wp2_with fail
    refine (HI.out _).mono ?_
    rintro e w2 ⟨rfl, hb2⟩
    go_wp2
    go_ret
    exact ⟨rfl, hb1.trans (hb2.mono hb1.size)⟩
theorem lawE_DiffEven (n s : Int) (w : World) (hN : NoDiffEven) (hY : AnyDiffEven) :
    Calls Try.prog 4 #[.int .i64 n, .int .i64 s] w fun e w' => e = .returned (.bool true) ∧ Below w.heap.size w w' := by
  by_cases h : NotIn n s ∨ n < 2
  · exact lawG_DiffEven n s 0 false w (fun W => to_below (specDiffEven_no n s W h)) (fun W => hN n s W h)
  · obtain ⟨m, t, rfl, rfl, h1, h2, h3⟩ := not_notIn (fun c => h (.inl c))
    have h4 : 2 ≤ m := by have : ¬ (m : Int) < 2 := fun c => h (.inr c); omega
    exact lawG_DiffEven m t _ _ w (fun W => specDiffEven_any m t W h4 h2 h3) (fun W => hY m t W h4 h2 h3)
def NoDiffFind : Prop := ∀ (n k : Int) (W : World), ¬ (1 ≤ n ∧ n ≤ 12 ∧ 1 ≤ k ∧ k ≤ n - 1) → Calls Try.prog 19 #[.int .i64 n, .int .i64 k] W (fun e w' => e = .returned (.tuple #[.int .i64 0, .bool false]) ∧ Below W.heap.size W w')
def AnyDiffFind : Prop := ∀ (n k : Nat) (W : World), 2 ≤ n → n ≤ 12 → 1 ≤ k → k ≤ n - 1 → Calls Try.prog 19 #[.int .i64 (n:Int), .int .i64 (k:Int)] W (fun e w' => e = .returned (.tuple #[.int .i64 ((findN n k : Nat) : Int), .bool (decide (findN n k ≠ 0))]) ∧ Below W.heap.size W w')
theorem lawG_DiffFind (n k : Int) (x : Int) (b : Bool) (w : World) (hS : ∀ W, Calls Try.prog 18 #[.int .i64 n, .int .i64 k] W fun e w' => e = .returned (.tuple #[.int .i64 x, .bool b]) ∧ Below W.heap.size W w')
    (hI : ∀ W, Calls Try.prog 19 #[.int .i64 n, .int .i64 k] W fun e w' => e = .returned (.tuple #[.int .i64 x, .bool b]) ∧ Below W.heap.size W w') :
    Calls Try.prog 5 #[.int .i64 n, .int .i64 k] w fun e w' => e = .returned (.bool true) ∧ Below w.heap.size w w' := by
  have HS := Lib.hid hS
  have HI := Lib.hid hI
  clear hS hI
  cases b
  all_goals
    go_enter Try.func5, Try.ntmps5
    go_wp2_with fail
    refine (HS.out _).mono ?_
    rintro e w1 ⟨rfl, hb1⟩
    go_wp2_with fail
    refine (HI.out _).mono ?_
    rintro e w2 ⟨rfl, hb2⟩
    go_wp2
    go_ret
    exact ⟨rfl, hb1.trans (hb2.mono hb1.size)⟩
theorem lawE_DiffFind (n k : Int) (w : World) (hN : NoDiffFind) (hY : AnyDiffFind) :
    Calls Try.prog 5 #[.int .i64 n, .int .i64 k] w fun e w' => e = .returned (.bool true) ∧ Below w.heap.size w w' := by
  by_cases h : 1 ≤ n ∧ n ≤ 12 ∧ 1 ≤ k ∧ k ≤ n - 1
  · obtain ⟨m, rfl⟩ : ∃ m : Nat, n = (m : Int) := ⟨n.toNat, by omega⟩
    obtain ⟨j, rfl⟩ : ∃ j : Nat, k = (j : Int) := ⟨k.toNat, by omega⟩
    have h1 : 2 ≤ m := by omega
    have h2 : m ≤ 12 := by omega
    have h3 : 1 ≤ j := by omega
    have h4 : j ≤ m - 1 := by omega
    exact lawG_DiffFind m j _ _ w (fun W => specDiffFind_any m j W h1 h2 h3 h4) (fun W => hY m j W h1 h2 h3 h4)
  · exact lawG_DiffFind n k 0 false w (fun W => to_below (specDiffFind_no n k W h)) (fun W => hN n k W h)
def NoDiffThin : Prop := ∀ (n s : Int) (W : World), NotIn n s → Calls Try.prog 21 #[.int .i64 n, .int .i64 s] W (fun e w' => e = .returned (.bool false) ∧ Below W.heap.size W w')
def YesDiffThin : Prop := ∀ (n s : Nat) (W : World), 1 ≤ n → n ≤ 12 → s < 2 ^ n → Calls Try.prog 21 #[.int .i64 (n:Int), .int .i64 (s:Int)] W (fun e w' => e = .returned (.bool (thinB n s)) ∧ Below W.heap.size W w')
theorem lawG_DiffThin (n s : Int) (b : Bool) (w : World) (hS : ∀ W, Calls Try.prog 20 #[.int .i64 n, .int .i64 s] W fun e w' => e = .returned (.bool b) ∧ Below W.heap.size W w')
    (hI : ∀ W, Calls Try.prog 21 #[.int .i64 n, .int .i64 s] W fun e w' => e = .returned (.bool b) ∧ Below W.heap.size W w') :
    Calls Try.prog 6 #[.int .i64 n, .int .i64 s] w fun e w' => e = .returned (.bool true) ∧ Below w.heap.size w w' := by
  have HS := Lib.hid hS
  have HI := Lib.hid hI
  clear hS hI
  cases b
  all_goals
    go_enter Try.func6, Try.ntmps6
    go_wp2_with fail
    refine (HS.out _).mono ?_
    rintro e w1 ⟨rfl, hb1⟩
    go_wp2_with fail
    refine (HI.out _).mono ?_
    rintro e w2 ⟨rfl, hb2⟩
    go_wp2
    go_ret
    exact ⟨rfl, hb1.trans (hb2.mono hb1.size)⟩
theorem lawE_DiffThin (n s : Int) (w : World) (hN : NoDiffThin) (hY : YesDiffThin) :
    Calls Try.prog 6 #[.int .i64 n, .int .i64 s] w fun e w' => e = .returned (.bool true) ∧ Below w.heap.size w w' := by
  by_cases h : NotIn n s
  · exact lawG_DiffThin n s false w (fun W => to_below (specDiffThin_no n s W h)) (fun W => hN n s W h)
  · obtain ⟨m, t, rfl, rfl, h1, h2, h3⟩ := not_notIn h
    exact lawG_DiffThin m t _ w (fun W => specDiffThin_yes m t W h1 h2 h3) (fun W => hY m t W h1 h2 h3)
def NoDiffThinMost : Prop := ∀ (n : Int) (W : World), ¬ (1 ≤ n ∧ n ≤ 12) → Calls Try.prog 23 #[.int .i64 n] W (fun e w' => e = .returned (.tuple #[.int .i64 0, .bool false]) ∧ Below W.heap.size W w')
def YesDiffThinMost : Prop := ∀ (n : Nat) (W : World), 1 ≤ n → n ≤ 12 → Calls Try.prog 23 #[.int .i64 (n:Int)] W (fun e w' => e = .returned (.tuple #[.int .i64 ((thinM n : Nat) : Int), .bool true]) ∧ Below W.heap.size W w')
theorem lawG_DiffThinMost (n : Int) (x : Int) (b : Bool) (w : World) (hS : ∀ W, Calls Try.prog 22 #[.int .i64 n] W fun e w' => e = .returned (.tuple #[.int .i64 x, .bool b]) ∧ Below W.heap.size W w')
    (hI : ∀ W, Calls Try.prog 23 #[.int .i64 n] W fun e w' => e = .returned (.tuple #[.int .i64 x, .bool b]) ∧ Below W.heap.size W w') :
    Calls Try.prog 7 #[.int .i64 n] w fun e w' => e = .returned (.bool true) ∧ Below w.heap.size w w' := by
  have HS := Lib.hid hS
  have HI := Lib.hid hI
  clear hS hI
  cases b
  all_goals
    go_enter Try.func7, Try.ntmps7
    go_wp2_with fail
    refine (HS.out _).mono ?_
    rintro e w1 ⟨rfl, hb1⟩
    go_wp2_with fail
    refine (HI.out _).mono ?_
    rintro e w2 ⟨rfl, hb2⟩
    go_wp2
    go_ret
    exact ⟨rfl, hb1.trans (hb2.mono hb1.size)⟩
theorem lawE_DiffThinMost (n : Int) (w : World) (hN : NoDiffThinMost) (hY : YesDiffThinMost) :
    Calls Try.prog 7 #[.int .i64 n] w fun e w' => e = .returned (.bool true) ∧ Below w.heap.size w w' := by
  by_cases h : 1 ≤ n ∧ n ≤ 12
  · obtain ⟨m, rfl⟩ : ∃ m : Nat, n = (m : Int) := ⟨n.toNat, by omega⟩
    have h1 : 1 ≤ m := by omega
    have h2 : m ≤ 12 := by omega
    exact lawG_DiffThinMost m _ _ w (fun W => specDiffThinMost_yes m W h1 h2) (fun W => hY m W h1 h2)
  · exact lawG_DiffThinMost n 0 false w (fun W => to_below (specDiffThinMost_no n W h)) (fun W => hN n W h)
def NoDiffWhole : Prop := ∀ (n : Int) (W : World), ¬ (1 ≤ n ∧ n ≤ 12) → Calls Try.prog 25 #[.int .i64 n] W (fun e w' => e = .returned (.tuple #[.int .i64 0, .bool false]) ∧ Below W.heap.size W w')
def YesDiffWhole : Prop := ∀ (n : Nat) (W : World), 1 ≤ n → n ≤ 12 → Calls Try.prog 25 #[.int .i64 (n:Int)] W (fun e w' => e = .returned (.tuple #[.int .i64 ((wholeM n : Nat) : Int), .bool true]) ∧ Below W.heap.size W w')
theorem lawG_DiffWhole (n : Int) (x : Int) (b : Bool) (w : World) (hS : ∀ W, Calls Try.prog 24 #[.int .i64 n] W fun e w' => e = .returned (.tuple #[.int .i64 x, .bool b]) ∧ Below W.heap.size W w')
    (hI : ∀ W, Calls Try.prog 25 #[.int .i64 n] W fun e w' => e = .returned (.tuple #[.int .i64 x, .bool b]) ∧ Below W.heap.size W w') :
    Calls Try.prog 8 #[.int .i64 n] w fun e w' => e = .returned (.bool true) ∧ Below w.heap.size w w' := by
  have HS := Lib.hid hS
  have HI := Lib.hid hI
  clear hS hI
  cases b
  all_goals
    go_enter Try.func8, Try.ntmps8
    go_wp2_with fail
    refine (HS.out _).mono ?_
    rintro e w1 ⟨rfl, hb1⟩
    go_wp2_with fail
    refine (HI.out _).mono ?_
    rintro e w2 ⟨rfl, hb2⟩
    go_wp2
    go_ret
    exact ⟨rfl, hb1.trans (hb2.mono hb1.size)⟩
theorem lawE_DiffWhole (n : Int) (w : World) (hN : NoDiffWhole) (hY : YesDiffWhole) :
    Calls Try.prog 8 #[.int .i64 n] w fun e w' => e = .returned (.bool true) ∧ Below w.heap.size w w' := by
  by_cases h : 1 ≤ n ∧ n ≤ 12
  · obtain ⟨m, rfl⟩ : ∃ m : Nat, n = (m : Int) := ⟨n.toNat, by omega⟩
    have h1 : 1 ≤ m := by omega
    have h2 : m ≤ 12 := by omega
    exact lawG_DiffWhole m _ _ w (fun W => specDiffWhole_yes m W h1 h2) (fun W => hY m W h1 h2)
  · exact lawG_DiffWhole n 0 false w (fun W => to_below (specDiffWhole_no n W h)) (fun W => hN n W h)
def NoDiffCarries : Prop := ∀ (n s : Int) (W : World), NotIn n s → Calls Try.prog 27 #[.int .i64 n, .int .i64 s] W (fun e w' => e = .returned (.tuple #[.int .i64 0, .bool false]) ∧ Below W.heap.size W w')
def YesDiffCarries : Prop := ∀ (n s : Nat) (W : World), 1 ≤ n → n ≤ 12 → s < 2 ^ n → Calls Try.prog 27 #[.int .i64 (n:Int), .int .i64 (s:Int)] W (fun e w' => e = .returned (.tuple #[.int .i64 ((carN n s : Nat) : Int), .bool true]) ∧ Below W.heap.size W w')
theorem lawG_DiffCarries (n s : Int) (x : Int) (b : Bool) (w : World) (hS : ∀ W, Calls Try.prog 26 #[.int .i64 n, .int .i64 s] W fun e w' => e = .returned (.tuple #[.int .i64 x, .bool b]) ∧ Below W.heap.size W w')
    (hI : ∀ W, Calls Try.prog 27 #[.int .i64 n, .int .i64 s] W fun e w' => e = .returned (.tuple #[.int .i64 x, .bool b]) ∧ Below W.heap.size W w') :
    Calls Try.prog 9 #[.int .i64 n, .int .i64 s] w fun e w' => e = .returned (.bool true) ∧ Below w.heap.size w w' := by
  have HS := Lib.hid hS
  have HI := Lib.hid hI
  clear hS hI
  cases b
  all_goals
    go_enter Try.func9, Try.ntmps9
    go_wp2_with fail
    refine (HS.out _).mono ?_
    rintro e w1 ⟨rfl, hb1⟩
    go_wp2_with fail
    refine (HI.out _).mono ?_
    rintro e w2 ⟨rfl, hb2⟩
    go_wp2
    go_ret
    exact ⟨rfl, hb1.trans (hb2.mono hb1.size)⟩
theorem lawE_DiffCarries (n s : Int) (w : World) (hN : NoDiffCarries) (hY : YesDiffCarries) :
    Calls Try.prog 9 #[.int .i64 n, .int .i64 s] w fun e w' => e = .returned (.bool true) ∧ Below w.heap.size w w' := by
  by_cases h : NotIn n s
  · exact lawG_DiffCarries n s 0 false w (fun W => to_below (specDiffCarries_no n s W h)) (fun W => hN n s W h)
  · obtain ⟨m, t, rfl, rfl, h1, h2, h3⟩ := not_notIn h
    exact lawG_DiffCarries m t _ _ w (fun W => to_below (specDiffCarries_yes m t W h1 h2 h3)) (fun W => hY m t W h1 h2 h3)
end Go.Proofs.Ythbmjmppmilbpaa
