/- Exact laws of chapter 4: full sets, lengths of rounds. -/
import Derived.Test.YtookciehnjnmnaaArrG
import Derived.Test.YtookciehnjnmnaaWalkG
namespace Go.Proofs.Ytookciehnjnmnaa
open Go.RowKit
set_option linter.unusedVariables false
/-- Either there is a first full set, ahead of n arcs, or none up to 2 n. -/
theorem full_cases (n s : Nat) (h1 : 1 ≤ n) (h2 : n ≤ 12) (hs : s < 2 ^ n) (h0 : s.testBit 0 = false) :
    (∀ j, j ≤ 2 * n → wsetN n s j ≠ 2 ^ n - 1) ∨ ∃ k, k < n ∧ wsetN n s k = 2 ^ n - 1 ∧ ∀ j, j < k → wsetN n s j ≠ 2 ^ n - 1 := by
  have hw := (walk_facts n s h1 h2 hs h0).2.1
  rcases fst_facts n s (2 * n) (by omega) with ⟨a, b⟩ | ⟨a, b, c⟩
  · exact .inl b
  · exact .inr ⟨_, hw (by omega), b, c⟩
/-- The program's answer, told by the model. -/
theorem implFull_some (n s k : Nat) (W : World) (h1 : 1 ≤ n) (h2 : n ≤ 12) (hs : s < 2 ^ n) (h0 : s.testBit 0 = false) (hk : k < n) (hf : wsetN n s k = 2 ^ n - 1) (hno : ∀ j, j < k → wsetN n s j ≠ 2 ^ n - 1) :
    Calls Try.prog 12 #[.int .i64 (n:Int), .int .i64 (s:Int)] W fun e w' => e = .returned (.tuple #[.int .i64 (k : Int), .bool true]) ∧ Below W.heap.size W w' :=
  (implWalkFull_yes n s W h1 h2 hs h0).mono fun e w' ⟨h, hb⟩ => by
    rcases h with ⟨j, hj, hjf, hjno, he⟩ | ⟨hn, _⟩
    · have e1 : j = k := by
        by_cases c : j < k
        · exact absurd hjf (hno j c)
        · by_cases d : k < j
          · exact absurd hf (hjno k d)
          · omega
      subst e1
      exact ⟨he, hb⟩
    · exact absurd hf (hn k hk)
theorem implFull_none (n s : Nat) (W : World) (h1 : 1 ≤ n) (h2 : n ≤ 12) (hs : s < 2 ^ n) (h0 : s.testBit 0 = false) (hno : ∀ j, j ≤ 2 * n → wsetN n s j ≠ 2 ^ n - 1) :
    Calls Try.prog 12 #[.int .i64 (n:Int), .int .i64 (s:Int)] W fun e w' => e = .returned (.tuple #[.int .i64 0, .bool false]) ∧ Below W.heap.size W w' :=
  (implWalkFull_yes n s W h1 h2 hs h0).mono fun e w' ⟨h, hb⟩ => by
    rcases h with ⟨j, hj, hjf, hjno, he⟩ | ⟨_, he⟩
    · exact absurd hjf (hno j (by omega))
    · exact ⟨he, hb⟩
end Go.Proofs.Ytookciehnjnmnaa
