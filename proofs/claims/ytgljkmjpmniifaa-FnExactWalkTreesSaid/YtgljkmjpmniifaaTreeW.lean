/- Exact law of chapter 4: trees. -/
import Derived.Test.YtgljkmjpmniifaaTreeT
import Derived.Test.YtgljkmjpmniifaaTreeV
namespace Go.Proofs.Ytgljkmjpmniifaa
open Go.RowKit
set_option linter.unusedVariables false
/-- What both functions answer where they tell nothing. -/
def NoTree (n s : Int) : Prop := NoStep n s ∨ ¬ n ≤ 11
theorem specWalkTrees_bad (n s : Int) (w : World) (h : NoTree n s) :
    Calls Try.prog 23 #[.int .i64 n, .int .i64 s] w fun e w' => e = .returned (.tuple #[.int .i64 0, .bool false]) ∧ w = w' := by
  by_cases hn : NoStep n s
  · exact specWalkTrees_no n s w hn
  · obtain ⟨m, t, rfl, rfl, h1, h2, h3, h4⟩ := not_noStep hn
    exact specWalkTrees_out m t w h1 h2 h3 h4 (by have := h.resolve_left hn; omega)
theorem implWalkTrees_bad (n s : Int) (w : World) (h : NoTree n s) :
    Calls Try.prog 24 #[.int .i64 n, .int .i64 s] w fun e w' => e = .returned (.tuple #[.int .i64 0, .bool false]) ∧ Below w.heap.size w w' := by
  by_cases hn : NoStep n s
  · exact implWalkTrees_no n s w hn
  · obtain ⟨m, t, rfl, rfl, h1, h2, h3, h4⟩ := not_noStep hn
    exact implWalkTrees_out m t w h1 h2 h3 h4 (by have := h.resolve_left hn; omega)
theorem not_noTree {n s : Int} (h : ¬ NoTree n s) : ∃ m t : Nat, n = (m : Int) ∧ s = (t : Int) ∧ 1 ≤ m ∧ m ≤ 11 ∧ t < 2 ^ m ∧ t.testBit 0 = false := by
  obtain ⟨m, t, rfl, rfl, h1, h2, h3, h4⟩ := not_noStep (fun hh => h (.inl hh))
  have h5 : (m : Int) ≤ 11 := Decidable.byContradiction fun hh => h (.inr hh)
  exact ⟨m, t, rfl, rfl, h1, by omega, h3, h4⟩
theorem law_WalkTrees (n s : Int) (w : World) :
    Calls Try.prog 8 #[.int .i64 n, .int .i64 s] w fun e w' => e = .returned (.bool true) ∧ Below w.heap.size w w' := by
  by_cases h : NoTree n s
  · have HI := Lib.hid (fun W => implWalkTrees_bad n s W h)
    have HS := Lib.hid (fun W => specWalkTrees_bad n s W h)
    clear h
    go_enter Try.func8, Try.ntmps8
    go_wp2_with fail
    refine (HS.out _).mono ?_
    rintro e w1 ⟨rfl, rfl⟩
    go_wp2_with fail
    refine (HI.out _).mono ?_
    rintro e w1 ⟨rfl, hb⟩
    go_wp2
    go_ret
    exact ⟨rfl, hb⟩
  · obtain ⟨m, t, rfl, rfl, h1, h2, h3, h4⟩ := not_noTree h
    have HS := Lib.hid (fun W => specWalkTrees_yes m t W h1 h2 h3 h4)
    have HI := Lib.hid (fun W => implWalkTrees_yes m t W h1 h2 h3 h4)
    generalize treeN m (bothN m t) = q at *
    clear h
    go_enter Try.func8, Try.ntmps8
    go_wp2_with fail
    refine (HS.out _).mono ?_
    rintro e w1 ⟨rfl, hb1⟩
    go_wp2_with fail
    refine (HI.out _).mono ?_
    rintro e w2 ⟨rfl, hb⟩
    go_wp2
    go_ret
    exact ⟨rfl, hb1.trans (hb.mono hb1.size)⟩
end Go.Proofs.Ytgljkmjpmniifaa
