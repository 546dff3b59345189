/- The exact laws of chapter 1: the program and the model answer alike. -/
import Derived.Test.YtfecjafnobgknaaSpecB
import Derived.Test.YtfecjafnobgknaaWrapB
import Derived.Test.YtfecjafnobgknaaLaw1
namespace Go.Proofs.Ytfecjafnobgknaa
open Go.RowKit
set_option linter.unusedVariables false
theorem law_RingFirst (n s : Int) (w : World) :
    Calls Try.prog 13 #[.int .i64 n, .int .i64 s] w fun e w' => e = .returned (.bool true) ∧ Below w.heap.size w w' := by
  by_cases h : NotIn n s
  · have H := Lib.hid h
    clear h
    go_enter Try.func13, Try.ntmps13
    go_wp2_with fail
    refine (specFirst_no n s w H.out).mono ?_
    rintro e w1 ⟨rfl, rfl⟩
    go_wp2_with fail
    refine (implFirst_no n s _ H.out).mono ?_
    rintro e w1 ⟨rfl, hb⟩
    go_wp2
    go_ret
    exact ⟨rfl, hb⟩
  · obtain ⟨m, t, rfl, rfl, h1, h2, h3⟩ := not_notIn h
    clear h
    go_enter Try.func13, Try.ntmps13
    go_wp2_with fail
    refine (specFirst_yes m t w h1 h2 h3).mono ?_
    rintro e w1 ⟨rfl, rfl⟩
    go_wp2_with fail
    refine (implFirst_yes m t _ h1 h2 h3).mono ?_
    rintro e w1 ⟨rfl, hb⟩
    go_wp2
    go_ret
    exact ⟨rfl, hb⟩
end Go.Proofs.Ytfecjafnobgknaa
