/- The functions of chapter 2 as others call them: part, parts, halves, cuts. -/
import Derived.Test.YtnlalccnhpblkaaStepWA
import Derived.Test.YtnlalccnhpblkaaGC
import Derived.Test.YtnlalccnhpblkaaStepH
import Derived.Test.YtnlalccnhpblkaaStepC
namespace Go.Proofs.Ytnlalccnhpblkaa
open Go.RowKit
set_option linter.unusedVariables false
theorem implStepPart_yes (n s : Nat) (w : World) (h1 : 1 ≤ n) (h2 : n ≤ 12) (hs : s < 2 ^ n) (h0 : s.testBit 0 = false) :
    Calls Try.prog 25 #[.int .i64 (n:Int), .int .i64 (s:Int)] w fun e w' => e = .returned (.tuple #[.int .i64 ((partN n s : Nat) : Int), .bool true]) ∧ Below w.heap.size w w' := by
  have HO := Lib.hid (stepsOf_yes n s w h1 h2 hs h0)
  have HS := Lib.hid (fun W => part_any n s W h1 h2 hs)
  go_enter Try.func25, Try.ntmps25
  go_wp2_with fail
  refine HO.out.mono ?_
  rintro e w1 ⟨rfl, hb1⟩
  go_wp2_with ((go_at_call 47; refine (HS.out _).mono ?_; rintro e w2 ⟨rfl, hb2⟩))
  go_ret2
  exact ⟨rfl, by
    have := hb1.size
    first
    | exact hb1
    | exact hb1.alloc (by omega) _
    | exact (hb1.alloc (by omega) _).trans (hb2.mono (by simp; omega))
    | exact ((hb1.alloc (by omega) _).trans (hb2.mono (by simp; omega))).trans (hb3.mono (by have := hb2.size; simp at this; omega))⟩
theorem implStepPart_no (n s : Int) (w : World) (h : NoStep n s) :
    Calls Try.prog 25 #[.int .i64 n, .int .i64 s] w fun e w' => e = .returned (.tuple #[.int .i64 0, .bool false]) ∧ Below w.heap.size w w' := by
  have HO := Lib.hid (stepsOf_no n s w h)
  clear h
  go_enter Try.func25, Try.ntmps25
  go_wp2_with fail
  refine HO.out.mono ?_
  rintro e w1 ⟨rfl, hb1⟩
  go_wp2
  go_ret2
  exact ⟨rfl, by
    have := hb1.size
    first
    | exact hb1
    | exact hb1.alloc (by omega) _
    | exact (hb1.alloc (by omega) _).trans (hb2.mono (by simp; omega))
    | exact ((hb1.alloc (by omega) _).trans (hb2.mono (by simp; omega))).trans (hb3.mono (by have := hb2.size; simp at this; omega))⟩
end Go.Proofs.Ytnlalccnhpblkaa
