/- Exact laws of chapter 4: full sets, lengths of rounds. -/
import Derived.Test.YtgljkmjpmniifaaArrG
import Derived.Test.YtgljkmjpmniifaaWalkG
namespace Go.Proofs.Ytgljkmjpmniifaa
open Go.RowKit
set_option linter.unusedVariables false
/-- Either there is a first full set, ahead of n arcs, or none up to 2 n. -/
theorem full_cases (n s : Nat) (h1 : 1 ≤ n) (h2 : n ≤ 12) (hs : s < 2 ^ n) (h0 : s.testBit 0 = false) :
    (∀ j, j ≤ 2 * n → wsetN n s j ≠ 2 ^ n - 1) ∨ ∃ k, k < n ∧ wsetN n s k = 2 ^ n - 1 ∧ ∀ j, j < k → wsetN n s j ≠ 2 ^ n - 1 := by
  have hw := (walk_facts n s h1 h2 hs h0).2.1
  rcases fst_facts n s (2 * n) (by omega) with ⟨a, b⟩ | ⟨a, b, c⟩
  · exact .inl b
  · exact .inr ⟨_, hw (by omega), b, c⟩
/-- The program's answer, told by the model. -/
theorem implFull_some (n s k : Nat) (W : World) (h1 : 1 ≤ n) (h2 : n ≤ 12) (hs : s < 2 ^ n) (h0 : s.testBit 0 = false) (hk : k < n) (hf : wsetN n s k = 2 ^ n - 1) (hno : ∀ j, j < k → wsetN n s j ≠ 2 ^ n - 1) :
    Calls Try.prog 20 #[.int .i64 (n:Int), .int .i64 (s:Int)] W fun e w' => e = .returned (.tuple #[.int .i64 (k : Int), .bool true]) ∧ Below W.heap.size W w' :=
  (implWalkFull_yes n s W h1 h2 hs h0).mono fun e w' ⟨h, hb⟩ => by
    rcases h with ⟨j, hj, hjf, hjno, he⟩ | ⟨hn, _⟩
    · have e1 : j = k := by
        by_cases c : j < k
        · exact absurd hjf (hno j c)
        · by_cases d : k < j
          · exact absurd hf (hjno k d)
          · omega
      subst e1
      exact ⟨he, hb⟩
    · exact absurd hf (hn k hk)
theorem implFull_none (n s : Nat) (W : World) (h1 : 1 ≤ n) (h2 : n ≤ 12) (hs : s < 2 ^ n) (h0 : s.testBit 0 = false) (hno : ∀ j, j ≤ 2 * n → wsetN n s j ≠ 2 ^ n - 1) :
    Calls Try.prog 20 #[.int .i64 (n:Int), .int .i64 (s:Int)] W fun e w' => e = .returned (.tuple #[.int .i64 0, .bool false]) ∧ Below W.heap.size W w' :=
  (implWalkFull_yes n s W h1 h2 hs h0).mono fun e w' ⟨h, hb⟩ => by
    rcases h with ⟨j, hj, hjf, hjno, he⟩ | ⟨_, he⟩
    · exact absurd hjf (hno j (by omega))
    · exact ⟨he, hb⟩
theorem law_WalkFull (n s : Int) (w : World) :
    Calls Try.prog 6 #[.int .i64 n, .int .i64 s] w fun e w' => e = .returned (.bool true) ∧ Below w.heap.size w w' := by
  by_cases h : NoStep n s
  · have HS := Lib.hid (fun W => specWalkFull_no n s W h)
    have HI := Lib.hid (fun W => implWalkFull_no n s W h)
    clear h
    · go_enter Try.func6, Try.ntmps6
      go_wp2_with fail
      refine (HS.out _).mono ?_
      rintro e w1 ⟨rfl, rfl⟩
      go_wp2_with fail
      refine (HI.out _).mono ?_
      rintro e w2 ⟨rfl, hb⟩
      go_wp2
      go_ret
      exact ⟨rfl, hb⟩
  · obtain ⟨m, t, rfl, rfl, h1, h2, h3, h4⟩ := not_noStep h
    clear h
    rcases full_cases m t h1 h2 h3 h4 with hno | ⟨k, hk, hf, hno⟩
    · have HS := Lib.hid (fun W => specWalkFull_none m t W h1 h2 h3 h4 hno)
      have HI := Lib.hid (fun W => implFull_none m t W h1 h2 h3 h4 hno)
      clear hno
      go_enter Try.func6, Try.ntmps6
      go_wp2_with fail
      refine (HS.out _).mono ?_
      rintro e w1 ⟨rfl, rfl⟩
      go_wp2_with fail
      refine (HI.out _).mono ?_
      rintro e w2 ⟨rfl, hb⟩
      go_wp2
      go_ret
      exact ⟨rfl, hb⟩
    · have HS := Lib.hid (fun W => specWalkFull_yes m t k W h1 h2 h3 h4 (by omega) hf hno)
      have HI := Lib.hid (fun W => implFull_some m t k W h1 h2 h3 h4 hk hf hno)
      clear hno hf
      go_enter Try.func6, Try.ntmps6
      go_wp2_with fail
      refine (HS.out _).mono ?_
      rintro e w1 ⟨rfl, rfl⟩
      go_wp2_with fail
      refine (HI.out _).mono ?_
      rintro e w2 ⟨rfl, hb⟩
      go_wp2
      go_ret
      exact ⟨rfl, hb⟩
theorem law_WalkTurns (n s : Int) (w : World) :
    Calls Try.prog 7 #[.int .i64 n, .int .i64 s] w fun e w' => e = .returned (.bool true) ∧ Below w.heap.size w w' := by
  by_cases h : NoStep n s
  · have HS := Lib.hid (fun W => specWalkTurns_no n s W h)
    have HI := Lib.hid (fun W => implWalkTurns_no n s W h)
    clear h
    · go_enter Try.func7, Try.ntmps7
      go_wp2_with fail
      refine (HS.out _).mono ?_
      rintro e w1 ⟨rfl, rfl⟩
      go_wp2_with fail
      refine (HI.out _).mono ?_
      rintro e w2 ⟨rfl, hb⟩
      go_wp2
      go_ret
      exact ⟨rfl, hb⟩
  · obtain ⟨m, t, rfl, rfl, h1, h2, h3, h4⟩ := not_noStep h
    clear h
    by_cases ht : t = 0
    · subst ht
      have hS : ∀ W, Calls Try.prog 21 #[.int .i64 (m:Int), .int .i64 ((0 : Nat) : Int)] W fun e w' => e = .returned (.tuple #[.int .i64 0, .bool false]) ∧ W = w' := fun W => specWalkTurns_none m W h1 h2
      have hI : ∀ W, Calls Try.prog 22 #[.int .i64 (m:Int), .int .i64 ((0 : Nat) : Int)] W fun e w' => e = .returned (.tuple #[.int .i64 0, .bool false]) ∧ Below W.heap.size W w' := fun W => implWalkTurns_none m W h1 h2
      have HS := Lib.hid hS
      have HI := Lib.hid hI
      clear hS hI
      go_enter Try.func7, Try.ntmps7
      go_wp2_with fail
      refine (HS.out _).mono ?_
      rintro e w1 ⟨rfl, rfl⟩
      go_wp2_with fail
      refine (HI.out _).mono ?_
      rintro e w2 ⟨rfl, hb⟩
      go_wp2
      go_ret
      exact ⟨rfl, hb⟩
    · have HS := Lib.hid (fun W => specWalkTurns_yes m t W h1 h2 h3 h4 ht)
      have HI := Lib.hid (fun W => implWalkTurns_yes m t W h1 h2 h3 h4 ht)
      rw [(walk_facts m t h1 h2 h3 h4).2.2] at HS
      generalize wturnN m t m = q at *
      go_enter Try.func7, Try.ntmps7
      go_wp2_with fail
      refine (HS.out _).mono ?_
      rintro e w1 ⟨rfl, rfl⟩
      go_wp2_with fail
      refine (HI.out _).mono ?_
      rintro e w2 ⟨rfl, hb⟩
      go_wp2
      go_ret
      exact ⟨rfl, hb⟩
end Go.Proofs.Ytgljkmjpmniifaa
