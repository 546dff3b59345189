/- The functions of chapter 2 as others call them: part, parts, halves, cuts. -/
import Derived.Test.YtgadlhcgaeilcaaStepWA
import Derived.Test.YtgadlhcgaeilcaaStepM
import Derived.Test.YtgadlhcgaeilcaaStepH
import Derived.Test.YtgadlhcgaeilcaaStepC
namespace Go.Proofs.Ytgadlhcgaeilcaa
open Go.RowKit
set_option linter.unusedVariables false
theorem implStepParts_yes (n s : Nat) (w : World) (h1 : 1 ≤ n) (h2 : n ≤ 12) (hs : s < 2 ^ n) (h0 : s.testBit 0 = false) :
    Calls Try.prog 24 #[.int .i64 (n:Int), .int .i64 (s:Int)] w fun e w' => e = .returned (.tuple #[.int .i64 ((partsN n s : Nat) : Int), .bool true]) ∧ Below w.heap.size w w' := by
  have HO := Lib.hid (stepsOf_yes n s w h1 h2 hs h0)
  have HS := Lib.hid (fun W => parts_any n s W h1 h2 hs)
  go_enter Try.func24, Try.ntmps24
  go_wp2_with fail
  refine HO.out.mono ?_
  rintro e w1 ⟨rfl, hb1⟩
  go_wp2_with ((go_at_call 50; refine (HS.out _).mono ?_; rintro e w2 ⟨rfl, hb2⟩))
  go_ret2
  exact ⟨rfl, by
    have := hb1.size
    first
    | exact hb1
    | exact hb1.alloc (by omega) _
    | exact (hb1.alloc (by omega) _).trans (hb2.mono (by simp; omega))
    | exact ((hb1.alloc (by omega) _).trans (hb2.mono (by simp; omega))).trans (hb3.mono (by have := hb2.size; simp at this; omega))⟩
theorem implStepParts_no (n s : Int) (w : World) (h : NoStep n s) :
    Calls Try.prog 24 #[.int .i64 n, .int .i64 s] w fun e w' => e = .returned (.tuple #[.int .i64 0, .bool false]) ∧ Below w.heap.size w w' := by
  have HO := Lib.hid (stepsOf_no n s w h)
  clear h
  go_enter Try.func24, Try.ntmps24
  go_wp2_with fail
  refine HO.out.mono ?_
  rintro e w1 ⟨rfl, hb1⟩
  go_wp2
  go_ret2
  exact ⟨rfl, by
    have := hb1.size
    first
    | exact hb1
    | exact hb1.alloc (by omega) _
    | exact (hb1.alloc (by omega) _).trans (hb2.mono (by simp; omega))
    | exact ((hb1.alloc (by omega) _).trans (hb2.mono (by simp; omega))).trans (hb3.mono (by have := hb2.size; simp at this; omega))⟩
theorem specStepParts_yes (n s : Nat) (w : World) (h1 : 1 ≤ n) (h2 : n ≤ 12) (hs : s < 2 ^ n) (h0 : s.testBit 0 = false) :
    Calls Try.prog 35 #[.int .i64 (n:Int), .int .i64 (s:Int)] w fun e w' => e = .returned (.tuple #[.int .i64 ((partsN n s : Nat) : Int), .bool true]) ∧ w = w' := by
  have HI := Lib.hid (specStep_yes n s w h1 h2 hs h0)
  have HS := Lib.hid (l2Parts_any n s w h1 h2 hs h0)
  go_enter Try.func35, Try.ntmps35
  go_wp2_with (first | (go_at_call 13; refine HI.out.mono ?_; rintro e w' ⟨rfl, rfl⟩) | (go_at_call 59; refine (HS.out).mono ?_; rintro e w' ⟨rfl, rfl⟩))
  go_ret2
  exact ⟨rfl, rfl⟩
theorem specStepParts_no (n s : Int) (w : World) (h : NoStep n s) :
    Calls Try.prog 35 #[.int .i64 n, .int .i64 s] w fun e w' => e = .returned (.tuple #[.int .i64 0, .bool false]) ∧ w = w' := by
  have HI := Lib.hid (specStep_no n s w h)
  clear h
  go_enter Try.func35, Try.ntmps35
  go_wp2_with ((go_at_call 13; refine HI.out.mono ?_; rintro e w' ⟨rfl, rfl⟩))
  go_ret2
  exact ⟨rfl, rfl⟩
theorem implStepPart_yes (n s : Nat) (w : World) (h1 : 1 ≤ n) (h2 : n ≤ 12) (hs : s < 2 ^ n) (h0 : s.testBit 0 = false) :
    Calls Try.prog 31 #[.int .i64 (n:Int), .int .i64 (s:Int)] w fun e w' => e = .returned (.tuple #[.int .i64 ((partN n s : Nat) : Int), .bool true]) ∧ Below w.heap.size w w' := by
  have HO := Lib.hid (stepsOf_yes n s w h1 h2 hs h0)
  have HS := Lib.hid (fun W => part_any n s W h1 h2 hs)
  go_enter Try.func31, Try.ntmps31
  go_wp2_with fail
  refine HO.out.mono ?_
  rintro e w1 ⟨rfl, hb1⟩
  go_wp2_with ((go_at_call 56; refine (HS.out _).mono ?_; rintro e w2 ⟨rfl, hb2⟩))
  go_ret2
  exact ⟨rfl, by
    have := hb1.size
    first
    | exact hb1
    | exact hb1.alloc (by omega) _
    | exact (hb1.alloc (by omega) _).trans (hb2.mono (by simp; omega))
    | exact ((hb1.alloc (by omega) _).trans (hb2.mono (by simp; omega))).trans (hb3.mono (by have := hb2.size; simp at this; omega))⟩
theorem implStepPart_no (n s : Int) (w : World) (h : NoStep n s) :
    Calls Try.prog 31 #[.int .i64 n, .int .i64 s] w fun e w' => e = .returned (.tuple #[.int .i64 0, .bool false]) ∧ Below w.heap.size w w' := by
  have HO := Lib.hid (stepsOf_no n s w h)
  clear h
  go_enter Try.func31, Try.ntmps31
  go_wp2_with fail
  refine HO.out.mono ?_
  rintro e w1 ⟨rfl, hb1⟩
  go_wp2
  go_ret2
  exact ⟨rfl, by
    have := hb1.size
    first
    | exact hb1
    | exact hb1.alloc (by omega) _
    | exact (hb1.alloc (by omega) _).trans (hb2.mono (by simp; omega))
    | exact ((hb1.alloc (by omega) _).trans (hb2.mono (by simp; omega))).trans (hb3.mono (by have := hb2.size; simp at this; omega))⟩
theorem specStepPart_yes (n s : Nat) (w : World) (h1 : 1 ≤ n) (h2 : n ≤ 12) (hs : s < 2 ^ n) (h0 : s.testBit 0 = false) :
    Calls Try.prog 32 #[.int .i64 (n:Int), .int .i64 (s:Int)] w fun e w' => e = .returned (.tuple #[.int .i64 ((partN n s : Nat) : Int), .bool true]) ∧ w = w' := by
  have HI := Lib.hid (specStep_yes n s w h1 h2 hs h0)
  have hs0 := l2Part_any n s w h1 h2 hs
  rw [iter_part n s h1 h2 hs] at hs0
  have HS := Lib.hid hs0
  clear hs0
  go_enter Try.func32, Try.ntmps32
  go_wp2_with (first | (go_at_call 13; refine HI.out.mono ?_; rintro e w' ⟨rfl, rfl⟩) | (go_at_call 57; refine (HS.out).mono ?_; rintro e w' ⟨rfl, rfl⟩))
  go_ret2
  exact ⟨rfl, rfl⟩
theorem specStepPart_no (n s : Int) (w : World) (h : NoStep n s) :
    Calls Try.prog 32 #[.int .i64 n, .int .i64 s] w fun e w' => e = .returned (.tuple #[.int .i64 0, .bool false]) ∧ w = w' := by
  have HI := Lib.hid (specStep_no n s w h)
  clear h
  go_enter Try.func32, Try.ntmps32
  go_wp2_with ((go_at_call 13; refine HI.out.mono ?_; rintro e w' ⟨rfl, rfl⟩))
  go_ret2
  exact ⟨rfl, rfl⟩
theorem implStepCuts_no (n s v : Int) (w : World) (h : NoStep n s) :
    Calls Try.prog 37 #[.int .i64 n, .int .i64 s, .int .i64 v] w fun e w' => e = .returned (.tuple #[.int .i64 0, .bool false]) ∧ Below w.heap.size w w' := by
  have HO := Lib.hid (stepsOf_no n s w h)
  clear h
  go_enter Try.func37, Try.ntmps37
  go_wp2_with fail
  refine HO.out.mono ?_
  rintro e w1 ⟨rfl, hb1⟩
  go_wp2
  go_ret2
  exact ⟨rfl, by
    have := hb1.size
    first
    | exact hb1
    | exact hb1.alloc (by omega) _
    | exact (hb1.alloc (by omega) _).trans (hb2.mono (by simp; omega))
    | exact ((hb1.alloc (by omega) _).trans (hb2.mono (by simp; omega))).trans (hb3.mono (by have := hb2.size; simp at this; omega))⟩
theorem implStepCuts_move (n s : Nat) (v : Int) (w : World) (h1 : 1 ≤ n) (h2 : n ≤ 12) (hs : s < 2 ^ n) (h0 : s.testBit 0 = false) (h : NotIn n v) :
    Calls Try.prog 37 #[.int .i64 (n:Int), .int .i64 (s:Int), .int .i64 v] w fun e w' => e = .returned (.tuple #[.int .i64 0, .bool false]) ∧ Below w.heap.size w w' := by
  have HO := Lib.hid (stepsOf_yes n s w h1 h2 hs h0)
  have HM := Lib.hid (fun W => implIn_no n v W h)
  clear h
  go_enter Try.func37, Try.ntmps37
  go_wp2_with fail
  refine HO.out.mono ?_
  rintro e w1 ⟨rfl, hb1⟩
  go_wp2_with ((go_at_call 63; refine (HM.out _).mono ?_; rintro e w2 ⟨rfl, hb2⟩))
  go_ret2
  exact ⟨rfl, by
    have := hb1.size
    first
    | exact hb1
    | exact hb1.alloc (by omega) _
    | exact (hb1.alloc (by omega) _).trans (hb2.mono (by simp; omega))
    | exact ((hb1.alloc (by omega) _).trans (hb2.mono (by simp; omega))).trans (hb3.mono (by have := hb2.size; simp at this; omega))⟩
theorem implStepCuts_yes (n s t : Nat) (w : World) (h1 : 1 ≤ n) (h2 : n ≤ 12) (hs : s < 2 ^ n) (h0 : s.testBit 0 = false) (ht : t < 2 ^ n) :
    Calls Try.prog 37 #[.int .i64 (n:Int), .int .i64 (s:Int), .int .i64 (t:Int)] w fun e w' => e = .returned (.tuple #[.int .i64 ((cutsN n s t : Nat) : Int), .bool true]) ∧ Below w.heap.size w w' := by
  have HO := Lib.hid (stepsOf_yes n s w h1 h2 hs h0)
  have HM := Lib.hid (fun W => implIn_yes n t W h1 h2 ht)
  have HS := Lib.hid (fun W => cuts_any n s t W h1 h2 hs ht)
  go_enter Try.func37, Try.ntmps37
  go_wp2_with fail
  refine HO.out.mono ?_
  rintro e w1 ⟨rfl, hb1⟩
  go_wp2_with (first | (go_at_call 63; refine (HM.out _).mono ?_; rintro e w2 ⟨rfl, hb2⟩; have k0 : w2.cell? ⟨w1.heap.size, 0, none⟩ = some (.int .i64 (n:Int)) := (hb2.cell (p := ⟨w1.heap.size, 0, none⟩) (by simp)).trans (by simp); have k1 : w2.cell? ⟨w1.heap.size, 1, none⟩ = some (.int .i64 (s:Int)) := (hb2.cell (p := ⟨w1.heap.size, 1, none⟩) (by simp)).trans (by simp)) | (go_at_call 64; refine (HS.out _).mono ?_; rintro e w3 ⟨rfl, hb3⟩))
  go_ret2
  exact ⟨rfl, by
    have := hb1.size
    first
    | exact hb1
    | exact hb1.alloc (by omega) _
    | exact (hb1.alloc (by omega) _).trans (hb2.mono (by simp; omega))
    | exact ((hb1.alloc (by omega) _).trans (hb2.mono (by simp; omega))).trans (hb3.mono (by have := hb2.size; simp at this; omega))⟩
theorem specStepCuts_no (n s v : Int) (w : World) (h : NoStep n s) :
    Calls Try.prog 38 #[.int .i64 n, .int .i64 s, .int .i64 v] w fun e w' => e = .returned (.tuple #[.int .i64 0, .bool false]) ∧ w = w' := by
  have HI := Lib.hid (specStep_no n s w h)
  clear h
  go_enter Try.func38, Try.ntmps38
  go_wp2_with ((go_at_call 13; refine HI.out.mono ?_; rintro e w' ⟨rfl, rfl⟩))
  go_ret2
  exact ⟨rfl, rfl⟩
theorem specStepCuts_move (n s : Nat) (v : Int) (w : World) (h1 : 1 ≤ n) (h2 : n ≤ 12) (hs : s < 2 ^ n) (h0 : s.testBit 0 = false) (h : NotIn n v) :
    Calls Try.prog 38 #[.int .i64 (n:Int), .int .i64 (s:Int), .int .i64 v] w fun e w' => e = .returned (.tuple #[.int .i64 0, .bool false]) ∧ w = w' := by
  have HI := Lib.hid (specStep_yes n s w h1 h2 hs h0)
  have HM := Lib.hid (specIn_no n v w h)
  clear h
  go_enter Try.func38, Try.ntmps38
  go_wp2_with (first | (go_at_call 13; refine HI.out.mono ?_; rintro e w' ⟨rfl, rfl⟩) | (go_at_call 41; refine (HM.out).mono ?_; rintro e w' ⟨rfl, rfl⟩))
  go_ret2
  exact ⟨rfl, rfl⟩
end Go.Proofs.Ytgadlhcgaeilcaa
