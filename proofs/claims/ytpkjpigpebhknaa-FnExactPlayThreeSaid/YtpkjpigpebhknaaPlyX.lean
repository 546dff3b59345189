/- Exact laws of chapter 8 over given contracts of the program. Written by gen65.py. -/
import Derived.Test.YtpkjpigpebhknaaPlyD
import Derived.Test.YtpkjpigpebhknaaDifX
namespace Go.Proofs.Ytpkjpigpebhknaa
open Go.RowKit Go.Shelf
set_option linter.unusedVariables false
def NoPlayIn : Prop := ∀ (n s : Int) (W : World), NoPlay n s → Calls Try.prog 11 #[.int .i64 n, .int .i64 s] W (fun e w' => e = .returned (.bool false) ∧ Below W.heap.size W w')
def YesPlayIn : Prop := ∀ (n s : Nat) (W : World), n ≤ 12 → s < 2 ^ n → playB n s = true → Calls Try.prog 11 #[.int .i64 (n:Int), .int .i64 (s:Int)] W (fun e w' => e = .returned (.bool true) ∧ Below W.heap.size W w')
theorem lawG_PlayIn (n s : Int) (b : Bool) (w : World) (hS : ∀ W, Calls Try.prog 10 #[.int .i64 n, .int .i64 s] W fun e w' => e = .returned (.bool b) ∧ Below W.heap.size W w')
    (hI : ∀ W, Calls Try.prog 11 #[.int .i64 n, .int .i64 s] W fun e w' => e = .returned (.bool b) ∧ Below W.heap.size W w') :
    Calls Try.prog 3 #[.int .i64 n, .int .i64 s] w fun e w' => e = .returned (.bool true) ∧ Below w.heap.size w w' := by
  have HS := Lib.hid hS
  have HI := Lib.hid hI
  clear hS hI
  cases b
  all_goals
    go_enter Try.func3, Try.ntmps3
    go_wp2_with fail
    refine (HS.out _).mono ?_
    rintro e w1 ⟨rfl, hb1⟩
    go_wp2_with fail
    refine (HI.out _).mono ?_
    rintro e w2 ⟨rfl, hb2⟩
    go_wp2
    go_ret
    exact ⟨rfl, hb1.trans (hb2.mono hb1.size)⟩
theorem lawE_PlayIn (n s : Int) (w : World) (hN : NoPlayIn) (hY : YesPlayIn) :
    Calls Try.prog 3 #[.int .i64 n, .int .i64 s] w fun e w' => e = .returned (.bool true) ∧ Below w.heap.size w w' := by
  by_cases h : NoPlay n s
  · exact lawG_PlayIn n s false w (fun W => to_below (specPlayIn_no n s W h)) (fun W => hN n s W h)
  · obtain ⟨m, t, rfl, rfl, h1, h2, h3, h4⟩ := not_noPlay h
    exact lawG_PlayIn m t _ w (fun W => to_below (specPlayIn_yes m t W h2 h3 h4)) (fun W => hY m t W h2 h3 h4)
def NoPlayThree : Prop := ∀ (n s : Int) (W : World), NoPlay n s → Calls Try.prog 18 #[.int .i64 n, .int .i64 s] W (fun e w' => e = .returned (.tuple #[.int .i64 0, .bool false]) ∧ Below W.heap.size W w')
def YesPlayThree : Prop := ∀ (n s : Nat) (W : World), n ≤ 12 → s < 2 ^ n → playB n s = true → Calls Try.prog 18 #[.int .i64 (n:Int), .int .i64 (s:Int)] W (fun e w' => e = .returned (.tuple #[.int .i64 ((threeN n s : Nat) : Int), .bool true]) ∧ Below W.heap.size W w')
theorem lawG_PlayThree (n s : Int) (x : Int) (b : Bool) (w : World) (hS : ∀ W, Calls Try.prog 17 #[.int .i64 n, .int .i64 s] W fun e w' => e = .returned (.tuple #[.int .i64 x, .bool b]) ∧ Below W.heap.size W w')
    (hI : ∀ W, Calls Try.prog 18 #[.int .i64 n, .int .i64 s] W fun e w' => e = .returned (.tuple #[.int .i64 x, .bool b]) ∧ Below W.heap.size W w') :
    Calls Try.prog 5 #[.int .i64 n, .int .i64 s] w fun e w' => e = .returned (.bool true) ∧ Below w.heap.size w w' := by
  have HS := Lib.hid hS
  have HI := Lib.hid hI
  clear hS hI
  cases b
  all_goals
    go_enter Try.func5, Try.ntmps5
    go_wp2_with fail
    refine (HS.out _).mono ?_
    rintro e w1 ⟨rfl, hb1⟩
    go_wp2_with fail
    refine (HI.out _).mono ?_
    rintro e w2 ⟨rfl, hb2⟩
    go_wp2
    go_ret
    exact ⟨rfl, hb1.trans (hb2.mono hb1.size)⟩
theorem lawE_PlayThree (n s : Int) (w : World) (hN : NoPlayThree) (hY : YesPlayThree) :
    Calls Try.prog 5 #[.int .i64 n, .int .i64 s] w fun e w' => e = .returned (.bool true) ∧ Below w.heap.size w w' := by
  by_cases h : NoPlay n s
  · exact lawG_PlayThree n s 0 false w (fun W => to_below (specPlayThree_no n s W h)) (fun W => hN n s W h)
  · obtain ⟨m, t, rfl, rfl, h1, h2, h3, h4⟩ := not_noPlay h
    exact lawG_PlayThree m t _ _ w (fun W => to_below (specPlayThree_yes m t W h2 h3 h4)) (fun W => hY m t W h2 h3 h4)
def NoPlayTwice : Prop := ∀ (n s : Int) (W : World), NoPlay n s → Calls Try.prog 20 #[.int .i64 n, .int .i64 s] W (fun e w' => e = .returned (.tuple #[.int .i64 0, .bool false]) ∧ Below W.heap.size W w')
def YesPlayTwice : Prop := ∀ (n s : Nat) (W : World), n ≤ 12 → s < 2 ^ n → playB n s = true → Calls Try.prog 20 #[.int .i64 (n:Int), .int .i64 (s:Int)] W (fun e w' => e = .returned (.tuple #[.int .i64 ((twiceN n s : Nat) : Int), .bool true]) ∧ Below W.heap.size W w')
theorem lawG_PlayTwice (n s : Int) (x : Int) (b : Bool) (w : World) (hS : ∀ W, Calls Try.prog 19 #[.int .i64 n, .int .i64 s] W fun e w' => e = .returned (.tuple #[.int .i64 x, .bool b]) ∧ Below W.heap.size W w')
    (hI : ∀ W, Calls Try.prog 20 #[.int .i64 n, .int .i64 s] W fun e w' => e = .returned (.tuple #[.int .i64 x, .bool b]) ∧ Below W.heap.size W w') :
    Calls Try.prog 6 #[.int .i64 n, .int .i64 s] w fun e w' => e = .returned (.bool true) ∧ Below w.heap.size w w' := by
  have HS := Lib.hid hS
  have HI := Lib.hid hI
  clear hS hI
  cases b
  all_goals
    go_enter Try.func6, Try.ntmps6
    go_wp2_with fail
    refine (HS.out _).mono ?_
    rintro e w1 ⟨rfl, hb1⟩
    go_wp2_with fail
    refine (HI.out _).mono ?_
    rintro e w2 ⟨rfl, hb2⟩
    go_wp2
    go_ret
    exact ⟨rfl, hb1.trans (hb2.mono hb1.size)⟩
theorem lawE_PlayTwice (n s : Int) (w : World) (hN : NoPlayTwice) (hY : YesPlayTwice) :
    Calls Try.prog 6 #[.int .i64 n, .int .i64 s] w fun e w' => e = .returned (.bool true) ∧ Below w.heap.size w w' := by
  by_cases h : NoPlay n s
  · exact lawG_PlayTwice n s 0 false w (fun W => to_below (specPlayTwice_no n s W h)) (fun W => hN n s W h)
  · obtain ⟨m, t, rfl, rfl, h1, h2, h3, h4⟩ := not_noPlay h
    exact lawG_PlayTwice m t _ _ w (fun W => to_below (specPlayTwice_yes m t W h2 h3 h4)) (fun W => hY m t W h2 h3 h4)
def NoPlayEqual : Prop := ∀ (n s : Int) (W : World), NoPlay n s → Calls Try.prog 22 #[.int .i64 n, .int .i64 s] W (fun e w' => e = .returned (.tuple #[.int .i64 0, .bool false]) ∧ Below W.heap.size W w')
def YesPlayEqual : Prop := ∀ (n s : Nat) (W : World), n ≤ 12 → s < 2 ^ n → playB n s = true → Calls Try.prog 22 #[.int .i64 (n:Int), .int .i64 (s:Int)] W (fun e w' => e = .returned (.tuple #[.int .i64 ((evZ n s : Nat) : Int), .bool (evenB n s)]) ∧ Below W.heap.size W w')
theorem lawG_PlayEqual (n s : Int) (x : Int) (b : Bool) (w : World) (hS : ∀ W, Calls Try.prog 21 #[.int .i64 n, .int .i64 s] W fun e w' => e = .returned (.tuple #[.int .i64 x, .bool b]) ∧ Below W.heap.size W w')
    (hI : ∀ W, Calls Try.prog 22 #[.int .i64 n, .int .i64 s] W fun e w' => e = .returned (.tuple #[.int .i64 x, .bool b]) ∧ Below W.heap.size W w') :
    Calls Try.prog 7 #[.int .i64 n, .int .i64 s] w fun e w' => e = .returned (.bool true) ∧ Below w.heap.size w w' := by
  have HS := Lib.hid hS
  have HI := Lib.hid hI
  clear hS hI
  cases b
  all_goals
    go_enter Try.func7, Try.ntmps7
    go_wp2_with fail
    refine (HS.out _).mono ?_
    rintro e w1 ⟨rfl, hb1⟩
    go_wp2_with fail
    refine (HI.out _).mono ?_
    rintro e w2 ⟨rfl, hb2⟩
    go_wp2
    go_ret
    exact ⟨rfl, hb1.trans (hb2.mono hb1.size)⟩
theorem lawE_PlayEqual (n s : Int) (w : World) (hN : NoPlayEqual) (hY : YesPlayEqual) :
    Calls Try.prog 7 #[.int .i64 n, .int .i64 s] w fun e w' => e = .returned (.bool true) ∧ Below w.heap.size w w' := by
  by_cases h : NoPlay n s
  · exact lawG_PlayEqual n s 0 false w (fun W => to_below (specPlayEqual_no n s W h)) (fun W => hN n s W h)
  · obtain ⟨m, t, rfl, rfl, h1, h2, h3, h4⟩ := not_noPlay h
    exact lawG_PlayEqual m t _ _ w (fun W => to_below (specPlayEqual_yes m t W h2 h3 h4)) (fun W => hY m t W h2 h3 h4)
def NoPlayAll : Prop := ∀ (n : Int) (W : World), ¬ AllIn n → Calls Try.prog 13 #[.int .i64 n] W (ListRes W [] false)
def YesPlayAll : Prop := ∀ (n : Nat) (W : World), 3 ≤ n → n ≤ 11 → n % 2 = 1 → Calls Try.prog 13 #[.int .i64 (n:Int)] W (ListRes W (playL n (2 ^ (n - 1))) true)
theorem lawL_PlayAll (nI : Int) (xs : List Int) (b : Bool) (w : World) (hl : xs.length ≤ 10000) (hS : ∀ W, Calls Try.prog 12 #[.int .i64 nI] W (ListRes W xs b)) (hI : ∀ W, Calls Try.prog 13 #[.int .i64 nI] W (ListRes W xs b)) :
    Calls Try.prog 4 #[.int .i64 nI] w fun e w' => e = .returned (.bool true) ∧ Below w.heap.size w w' := by
  have HS := Lib.hid hS
  have HI := Lib.hid hI
  clear hS hI
  cases b
  all_goals
    go_enter Try.func4, Try.ntmps4
    go_wp2_with fail
    refine (HS.out _).mono ?_
    rintro e w1 ⟨sv, rfl, hb1, hI1⟩
    have z1 := hb1.size
    have HI1 := Lib.hid hI1
    clear hI1
    go_wp2_with fail
    refine (HI.out _).mono ?_
    rintro e w2 ⟨sa, rfl, hb2, hI2⟩
    have z2 := hb2.size
    have HI2 := Lib.hid hI2
    clear hI2
    go_wp2_with fail
    refine (eqInts_any _ _ xs _ _ _ HI2.out (HI1.out.belowAll hb2)).mono ?_
    rintro e w3 ⟨rfl, hb3⟩
    have z3 := hb3.size
    go_wp2_with fail
    refine (markInts_any _ xs _ w1.heap.size _ (HI2.out.belowAll hb3) (by omega) (by omega) (by omega)).mono ?_
    rintro e w4 ⟨rfl, hI4, hg4⟩
    have hb4 : Below w1.heap.size w3 w4 := Below.grown (Below.refl _ w3) hg4 (by omega) (fun k e => (World.ownsRow.lt HI2.out k e).1)
    have HI4 := Lib.hid hI4
    have HO4 : Hid (IsInts w4 w.heap.size sv xs) :=
      Lib.hid (((HI1.out.belowAll hb2).belowAll hb3).below (N := w1.heap.size) (fun q hq => (World.ownsRow.lt HI1.out q hq).2) hb4)
    have z4 := hb4.size
    clear hI4 hg4
    go_wp2_with fail
    refine (heldInts_any _ xs.length _ w1.heap.size _ HI4.out (by omega) (by omega) (by omega)).mono ?_
    rintro e w5 ⟨rfl, rfl⟩
    go_wp2_with fail
    refine (HI.out _).mono ?_
    rintro e w6 ⟨sb, rfl, hb6, hI6⟩
    have z6 := hb6.size
    have HI6 := Lib.hid hI6
    clear hI6
    go_wp2_with fail
    refine (eqInts_any _ _ xs _ _ _ HI6.out (HO4.out.belowAll hb6)).mono ?_
    rintro e w7 ⟨rfl, hb7⟩
    have z7 := hb7.size
    go_wp2_with fail
    refine (heldInts_any _ xs.length _ w1.heap.size _ ((HI4.out.belowAll hb6).belowAll hb7) (by omega) (by omega) (by omega)).mono ?_
    rintro e w8 ⟨rfl, rfl⟩
    go_wp2
    go_ret
    exact ⟨rfl, ((((hb1.trans (hb2.mono z1)).trans (hb3.mono (by omega))).trans (hb4.mono z1)).trans (hb6.mono (by omega))).trans (hb7.mono (by omega))⟩
theorem lawE_PlayAll (n : Int) (w : World) (hN : NoPlayAll) (hY : YesPlayAll) :
    Calls Try.prog 4 #[.int .i64 n] w fun e w' => e = .returned (.bool true) ∧ Below w.heap.size w w' := by
  by_cases h : AllIn n
  · obtain ⟨m, rfl, h1, h2, h3⟩ := h
    refine lawL_PlayAll m (playL m (2 ^ (m - 1))) true w ?_ (fun W => specPlayAll_yes m W h1 h2 h3) (fun W => hY m W h1 h2 h3)
    have a := playL_len m (2 ^ (m - 1))
    have b := pow_le (m - 1) (by omega)
    omega
  · exact lawL_PlayAll n [] false w (by simp) (fun W => specPlayAll_no n W h) (fun W => hN n W h)
end Go.Proofs.Ytpkjpigpebhknaa
