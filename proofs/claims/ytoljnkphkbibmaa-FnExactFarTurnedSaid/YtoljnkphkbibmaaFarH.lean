/- The exact laws of FarList, FarLayers, FarMost and FarSum. -/
import Derived.Test.YtoljnkphkbibmaaFarLL
import Derived.Test.YtoljnkphkbibmaaGF
import Derived.Test.YtoljnkphkbibmaaGD
namespace Go.Proofs.Ytoljnkphkbibmaa
open Go.RowKit
set_option linter.unusedVariables false
theorem lists_res {w w' : World} {n : Nat} {xs : List Int} {e : Ending} (h : ListsPost w n xs e w') : ListRes w xs true e w' := by
  obtain ⟨g, cap, he, hb, hI⟩ := h
  exact ⟨_, he, hb, hI⟩
theorem none_res {w w' : World} {e : Ending} (h : NonePost w e w') : ListRes w [] false e w' := h
theorem nil_res {w w' : World} {e : Ending} (h : e = .returned (.tuple #[.slice none 0 0, .bool false]) ∧ Below w.heap.size w w') : ListRes w [] false e w' := ⟨_, h.1, h.2, isInts_nil _ _⟩
theorem law_FarList (n s : Int) (w : World) :
    Calls Try.prog 3 #[.int .i64 n, .int .i64 s] w fun e w' => e = .returned (.bool true) ∧ Below w.heap.size w w' := by
  by_cases h : NoStep n s
  · exact lawL_FarList n s [] false w (by simp) (fun W => (specFarList_no n s W h).mono fun e w' h => none_res h) (fun W => (implFarList_no n s W h).mono fun e w' h => nil_res h)
  · obtain ⟨m, t, rfl, rfl, h1, h2, h3, h4⟩ := not_noStep h
    exact lawL_FarList m t _ true w (by rw [tabI_len]; omega) (fun W => (specFarList_yes m t W h1 h2 h3 h4).mono fun e w' h => lists_res h) (fun W => (implFarList_yes m t W h1 h2 h3 h4).mono fun e w' h => lists_res h)
theorem law_FarLayers (n s : Int) (w : World) :
    Calls Try.prog 8 #[.int .i64 n, .int .i64 s] w fun e w' => e = .returned (.bool true) ∧ Below w.heap.size w w' := by
  by_cases h : NoStep n s
  · exact lawL_FarLayers n s [] false w (by simp) (fun W => (specFarLayers_no n s W h).mono fun e w' h => none_res h) (fun W => (implFarLayers_no n s W h).mono fun e w' h => nil_res h)
  · obtain ⟨m, t, rfl, rfl, h1, h2, h3, h4⟩ := not_noStep h
    exact lawL_FarLayers m t _ true w (by rw [tabI_len]; have := most_le m t m; omega) (fun W => (specFarLayers_yes m t W h1 h2 h3 h4).mono fun e w' h => lists_res h) (fun W => (implFarLayers_yes m t W h1 h2 h3 h4).mono fun e w' h => lists_res h)
theorem law_FarMost (n s : Int) (w : World) :
    Calls Try.prog 4 #[.int .i64 n, .int .i64 s] w fun e w' => e = .returned (.bool true) ∧ Below w.heap.size w w' := by
  by_cases h : NoStep n s
  · have H := Lib.hid h
    clear h
    go_enter Try.func4, Try.ntmps4
    go_wp2_with fail
    refine (specFarMost_no n s w H.out).mono ?_
    rintro e w1 ⟨rfl, rfl⟩
    go_wp2_with fail
    refine (implFarMost_no n s _ H.out).mono ?_
    rintro e w1 ⟨rfl, hb⟩
    go_wp2
    go_ret
    exact ⟨rfl, hb⟩
  · obtain ⟨m, t, rfl, rfl, h1, h2, h3, h4⟩ := not_noStep h
    clear h
    by_cases hp : partsN m t = 1
    · have HS := Lib.hid (fun W => specFarMost_yes m t W h1 h2 h3 h4 hp)
      have HI := Lib.hid (fun W => implFarMost_yes m t W h1 h2 h3 h4 hp)
      generalize mostN m t m = q at HS HI
      clear hp
      go_enter Try.func4, Try.ntmps4
      go_wp2_with fail
      refine (HS.out _).mono ?_
      rintro e w1 ⟨rfl, hb1⟩
      go_wp2_with fail
      refine (HI.out _).mono ?_
      rintro e w2 ⟨rfl, hb⟩
      go_wp2
      go_ret
      exact ⟨rfl, hb1.trans (hb.mono hb1.size)⟩
    · have HS := Lib.hid (fun W => specFarMost_part m t W h1 h2 h3 h4 hp)
      have HI := Lib.hid (fun W => implFarMost_part m t W h1 h2 h3 h4 hp)
      clear hp
      go_enter Try.func4, Try.ntmps4
      go_wp2_with fail
      refine (HS.out _).mono ?_
      rintro e w1 ⟨rfl, rfl⟩
      go_wp2_with fail
      refine (HI.out _).mono ?_
      rintro e w2 ⟨rfl, hb⟩
      go_wp2
      go_ret
      exact ⟨rfl, hb⟩
theorem law_FarSum (n s : Int) (w : World) :
    Calls Try.prog 5 #[.int .i64 n, .int .i64 s] w fun e w' => e = .returned (.bool true) ∧ Below w.heap.size w w' := by
  by_cases h : NoStep n s
  · have H := Lib.hid h
    clear h
    go_enter Try.func5, Try.ntmps5
    go_wp2_with fail
    refine (specFarSum_no n s w H.out).mono ?_
    rintro e w1 ⟨rfl, rfl⟩
    go_wp2_with fail
    refine (implFarSum_no n s _ H.out).mono ?_
    rintro e w1 ⟨rfl, hb⟩
    go_wp2
    go_ret
    exact ⟨rfl, hb⟩
  · obtain ⟨m, t, rfl, rfl, h1, h2, h3, h4⟩ := not_noStep h
    clear h
    by_cases hp : partsN m t = 1
    · have HS := Lib.hid (fun W => specFarSum_yes m t W h1 h2 h3 h4 hp)
      have HI := Lib.hid (fun W => implFarSum_yes m t W h1 h2 h3 h4 hp)
      generalize farSumN m t m = q at HS HI
      clear hp
      go_enter Try.func5, Try.ntmps5
      go_wp2_with fail
      refine (HS.out _).mono ?_
      rintro e w1 ⟨rfl, hb1⟩
      go_wp2_with fail
      refine (HI.out _).mono ?_
      rintro e w2 ⟨rfl, hb⟩
      go_wp2
      go_ret
      exact ⟨rfl, hb1.trans (hb.mono hb1.size)⟩
    · have HS := Lib.hid (fun W => specFarSum_part m t W h1 h2 h3 h4 hp)
      have HI := Lib.hid (fun W => implFarSum_part m t W h1 h2 h3 h4 hp)
      clear hp
      go_enter Try.func5, Try.ntmps5
      go_wp2_with fail
      refine (HS.out _).mono ?_
      rintro e w1 ⟨rfl, rfl⟩
      go_wp2_with fail
      refine (HI.out _).mono ?_
      rintro e w2 ⟨rfl, hb⟩
      go_wp2
      go_ret
      exact ⟨rfl, hb⟩
end Go.Proofs.Ytoljnkphkbibmaa
