/- The exact laws of chapter 2, second half. -/
import Derived.Test.YtmnhkjcfldojiaaStepWB
import Derived.Test.YtmnhkjcfldojiaaStepSB
import Derived.Test.YtmnhkjcfldojiaaStepLA
namespace Go.Proofs.Ytmnhkjcfldojiaa
open Go.RowKit
set_option linter.unusedVariables false
theorem law_StepPart (n s : Int) (w : World) :
    Calls Try.prog 8 #[.int .i64 n, .int .i64 s] w fun e w' => e = .returned (.bool true) ∧ Below w.heap.size w w' := by
  by_cases h : NoStep n s
  · have H := Lib.hid h
    clear h
    go_enter Try.func8, Try.ntmps8
    go_wp2_with fail
    refine (specStepPart_no n s w H.out).mono ?_
    rintro e w1 ⟨rfl, rfl⟩
    go_wp2_with fail
    refine (implStepPart_no n s _ H.out).mono ?_
    rintro e w1 ⟨rfl, hb⟩
    go_wp2
    go_ret
    exact ⟨rfl, hb⟩
  · obtain ⟨m, t, rfl, rfl, h1, h2, h3, h4⟩ := not_noStep h
    clear h
    go_enter Try.func8, Try.ntmps8
    go_wp2_with fail
    refine (specStepPart_yes m t w h1 h2 h3 h4).mono ?_
    rintro e w1 ⟨rfl, rfl⟩
    go_wp2_with fail
    refine (implStepPart_yes m t _ h1 h2 h3 h4).mono ?_
    rintro e w1 ⟨rfl, hb⟩
    go_wp2
    go_ret
    exact ⟨rfl, hb⟩
theorem law_StepParts (n s : Int) (w : World) :
    Calls Try.prog 9 #[.int .i64 n, .int .i64 s] w fun e w' => e = .returned (.bool true) ∧ Below w.heap.size w w' := by
  by_cases h : NoStep n s
  · have H := Lib.hid h
    clear h
    go_enter Try.func9, Try.ntmps9
    go_wp2_with fail
    refine (specStepParts_no n s w H.out).mono ?_
    rintro e w1 ⟨rfl, rfl⟩
    go_wp2_with fail
    refine (implStepParts_no n s _ H.out).mono ?_
    rintro e w1 ⟨rfl, hb⟩
    go_wp2
    go_ret
    exact ⟨rfl, hb⟩
  · obtain ⟨m, t, rfl, rfl, h1, h2, h3, h4⟩ := not_noStep h
    clear h
    go_enter Try.func9, Try.ntmps9
    go_wp2_with fail
    refine (specStepParts_yes m t w h1 h2 h3 h4).mono ?_
    rintro e w1 ⟨rfl, rfl⟩
    go_wp2_with fail
    refine (implStepParts_yes m t _ h1 h2 h3 h4).mono ?_
    rintro e w1 ⟨rfl, hb⟩
    go_wp2
    go_ret
    exact ⟨rfl, hb⟩
theorem law_StepHalves (n s : Int) (w : World) :
    Calls Try.prog 10 #[.int .i64 n, .int .i64 s] w fun e w' => e = .returned (.bool true) ∧ Below w.heap.size w w' := by
  by_cases h : NoStep n s
  · have H := Lib.hid h
    clear h
    go_enter Try.func10, Try.ntmps10
    go_wp2_with fail
    refine (specStepHalves_no n s w H.out).mono ?_
    rintro e w1 ⟨rfl, rfl⟩
    go_wp2_with fail
    refine (implStepHalves_no n s _ H.out).mono ?_
    rintro e w1 ⟨rfl, hb⟩
    go_wp2
    go_ret
    exact ⟨rfl, hb⟩
  · obtain ⟨m, t, rfl, rfl, h1, h2, h3, h4⟩ := not_noStep h
    clear h
    have hs := fun W => specStepHalves_yes m t W h1 h2 h3 h4
    have hi := fun W => implStepHalves_yes m t W h1 h2 h3 h4
    generalize halvesN m t = q at hs hi
    have HS := Lib.hid hs
    have HI := Lib.hid hi
    clear hs hi
    cases q <;>
    · go_enter Try.func10, Try.ntmps10
      go_wp2_with fail
      refine (HS.out _).mono ?_
      rintro e w1 ⟨rfl, rfl⟩
      go_wp2_with fail
      refine (HI.out _).mono ?_
      rintro e w1 ⟨rfl, hb⟩
      go_wp2
      go_ret
      exact ⟨rfl, hb⟩
theorem law_StepCuts (n s v : Int) (w : World) :
    Calls Try.prog 11 #[.int .i64 n, .int .i64 s, .int .i64 v] w fun e w' => e = .returned (.bool true) ∧ Below w.heap.size w w' := by
  by_cases h : NoStep n s
  · have H := Lib.hid h
    clear h
    go_enter Try.func11, Try.ntmps11
    go_wp2_with fail
    refine (specStepCuts_no n s v w H.out).mono ?_
    rintro e w1 ⟨rfl, rfl⟩
    go_wp2_with fail
    refine (implStepCuts_no n s v _ H.out).mono ?_
    rintro e w1 ⟨rfl, hb⟩
    go_wp2
    go_ret
    exact ⟨rfl, hb⟩
  · obtain ⟨m, t, rfl, rfl, h1, h2, h3, h4⟩ := not_noStep h
    clear h
    by_cases hv : NotIn (m:Int) v
    · have HV := Lib.hid hv
      clear hv
      go_enter Try.func11, Try.ntmps11
      go_wp2_with fail
      refine (specStepCuts_move m t v w h1 h2 h3 h4 HV.out).mono ?_
      rintro e w1 ⟨rfl, rfl⟩
      go_wp2_with fail
      refine (implStepCuts_move m t v _ h1 h2 h3 h4 HV.out).mono ?_
      rintro e w1 ⟨rfl, hb⟩
      go_wp2
      go_ret
      exact ⟨rfl, hb⟩
    · obtain ⟨m', u, hm, rfl, _, _, h5⟩ := not_notIn hv
      obtain rfl : m = m' := by omega
      clear hv hm
      go_enter Try.func11, Try.ntmps11
      go_wp2_with fail
      refine (specStepCuts_yes m t u w h1 h2 h3 h4 h5).mono ?_
      rintro e w1 ⟨rfl, rfl⟩
      go_wp2_with fail
      refine (implStepCuts_yes m t u _ h1 h2 h3 h4 h5).mono ?_
      rintro e w1 ⟨rfl, hb⟩
      go_wp2
      go_ret
      exact ⟨rfl, hb⟩
end Go.Proofs.Ytmnhkjcfldojiaa
