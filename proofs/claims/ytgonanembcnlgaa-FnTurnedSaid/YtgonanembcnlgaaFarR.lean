/- The exact law of FarTurned. -/
import Derived.Test.YtgonanembcnlgaaFarQ
import Derived.Test.YtgonanembcnlgaaFarH
namespace Go.Proofs.Ytgonanembcnlgaa
open Go.RowKit
set_option linter.unusedVariables false
theorem implFarTurned_no (n s m : Int) (w : World) (h : NoStep n s) :
    Calls Try.prog 34 #[.int .i64 n, .int .i64 s, .int .i64 m] w fun e w' => e = .returned (.tuple #[.slice none 0 0, .bool false]) ∧ Below w.heap.size w w' := by
  have HO := Lib.hid (stepsOf_no n s w h)
  clear h
  go_enter Try.func34, Try.ntmps34
  go_wp2_with fail
  refine HO.out.mono ?_
  rintro e w1 ⟨rfl, hb1⟩
  have z1 := hb1.size
  go_wp2
  go_ret2
  exact ⟨rfl, hb1.alloc z1 _⟩
theorem implFarTurned_out (n s : Nat) (m : Int) (w : World) (h1 : 1 ≤ n) (h2 : n ≤ 12) (hs : s < 2 ^ n) (h0 : s.testBit 0 = false) (hm : ¬ (0 ≤ m ∧ m < (n:Int))) :
    Calls Try.prog 34 #[.int .i64 (n:Int), .int .i64 (s:Int), .int .i64 m] w fun e w' => e = .returned (.tuple #[.slice none 0 0, .bool false]) ∧ Below w.heap.size w w' := by
  have HO := Lib.hid (stepsOf_yes n s w h1 h2 hs h0)
  have hpl := fun W => isPlaceF_any n m W
  rw [decide_eq_false hm] at hpl
  have HPl := Lib.hid hpl
  clear hpl hm h0
  go_enter Try.func34, Try.ntmps34
  go_wp2_with fail
  refine HO.out.mono ?_
  rintro e w1 ⟨rfl, hb1⟩
  have z1 := hb1.size
  have hB1 := hb1.alloc z1 (.cells #[.int .i64 (n:Int), .int .i64 (s:Int)] 42)
  clear hb1
  go_wp2_with (go_at_call 62; refine (HPl.out _).mono ?_; rintro e w2 ⟨rfl, hb2⟩)
  go_ret2
  exact ⟨rfl, hB1.trans (hb2.mono hB1.size)⟩
theorem implFarTurned_unit (n s m : Nat) (w : World) (h1 : 1 ≤ n) (h2 : n ≤ 12) (hs : s < 2 ^ n) (h0 : s.testBit 0 = false) (hm : m < n) (hu : (unitsN n).testBit m = false) :
    Calls Try.prog 34 #[.int .i64 (n:Int), .int .i64 (s:Int), .int .i64 (m:Int)] w fun e w' => e = .returned (.tuple #[.slice none 0 0, .bool false]) ∧ Below w.heap.size w w' := by
  have HO := Lib.hid (stepsOf_yes n s w h1 h2 hs h0)
  have hpl := fun W => isPlaceF_any n (m : Int) W
  rw [show decide ((0 : Int) ≤ (m : Int) ∧ (m : Int) < (n : Int)) = true from decide_eq_true ⟨by omega, by omega⟩] at hpl
  have HPl := Lib.hid hpl
  have HUn := Lib.hid (fun W => units_any n W h1 h2)
  have hul := unitsN_lt n
  have hp := pow_le n h2
  have hhas := fun W => has_any (unitsN n) m W (by omega) (by omega)
  rw [hu] at hhas
  have HHas := Lib.hid hhas
  generalize unitsN n = un at *
  clear hpl hhas hu h0
  go_enter Try.func34, Try.ntmps34
  go_wp2_with fail
  refine HO.out.mono ?_
  rintro e w1 ⟨rfl, hb1⟩
  have z1 := hb1.size
  have hB1 := hb1.alloc z1 (.cells #[.int .i64 (n:Int), .int .i64 (s:Int)] 42)
  have hD1 := Duo.new w1 42 (.int .i64 (n:Int)) (.int .i64 (s:Int))
  clear hb1
  go_wp2_with (first
    | (go_at_call 62; refine (HPl.out _).mono ?_; rintro e w2 ⟨rfl, hb2⟩; have hD2 := duo_below hD1 hD1.lt hb2; have d20 := hD2.cell0; have d21 := hD2.cell1)
    | (go_at_call 63; refine (HUn.out _).mono ?_; rintro e w3 ⟨rfl, hb3⟩)
    | (go_at_call 64; refine (HHas.out _).mono ?_; rintro e w4 ⟨rfl, rfl⟩))
  go_ret2
  exact ⟨rfl, (hB1.trans (hb2.mono hB1.size)).trans (hb3.mono (by have := hB1.size; have := hb2.size; omega))⟩
end Go.Proofs.Ytgonanembcnlgaa
