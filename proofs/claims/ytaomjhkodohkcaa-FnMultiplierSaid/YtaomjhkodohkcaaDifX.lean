/- The exact laws of chapter 7 over given contracts of the program. Written by gen55.py. -/
import Derived.Test.YtaomjhkodohkcaaDifC
import Derived.Test.YtaomjhkodohkcaaGB
namespace Go.Proofs.Ytaomjhkodohkcaa
open Go.RowKit Go.Shelf
set_option linter.unusedVariables false
theorem to_below {F : Nat} {xs : Array Value} {w : World} {v : Ending} (h : Calls Try.prog F xs w fun e w' => e = v ∧ w = w') : Calls Try.prog F xs w fun e w' => e = v ∧ Below w.heap.size w w' :=
  h.mono fun e w' ⟨he, hw⟩ => ⟨he, hw ▸ Below.refl _ _⟩
def NoDiffTable : Prop := ∀ (n s : Int) (W : World), NotIn n s → Calls Try.prog 12 #[.int .i64 n, .int .i64 s] W (ListRes W [] false)
def YesDiffTable : Prop := ∀ (n s : Nat) (W : World), 1 ≤ n → n ≤ 12 → s < 2 ^ n → Calls Try.prog 12 #[.int .i64 (n:Int), .int .i64 (s:Int)] W (ListRes W (difL n s) true)
def NoDiffEven : Prop := ∀ (n s : Int) (W : World), NotIn n s ∨ n < 2 → Calls Try.prog 19 #[.int .i64 n, .int .i64 s] W (fun e w' => e = .returned (.tuple #[.int .i64 0, .bool false]) ∧ Below W.heap.size W w')
def AnyDiffEven : Prop := ∀ (n s : Nat) (W : World), 2 ≤ n → n ≤ 12 → s < 2 ^ n → Calls Try.prog 19 #[.int .i64 (n:Int), .int .i64 (s:Int)] W (fun e w' => e = .returned (.tuple #[.int .i64 ((evZ n s : Nat) : Int), .bool (evenB n s)]) ∧ Below W.heap.size W w')
def NoDiffFind : Prop := ∀ (n k : Int) (W : World), ¬ (1 ≤ n ∧ n ≤ 12 ∧ 1 ≤ k ∧ k ≤ n - 1) → Calls Try.prog 22 #[.int .i64 n, .int .i64 k] W (fun e w' => e = .returned (.tuple #[.int .i64 0, .bool false]) ∧ Below W.heap.size W w')
def AnyDiffFind : Prop := ∀ (n k : Nat) (W : World), 2 ≤ n → n ≤ 12 → 1 ≤ k → k ≤ n - 1 → Calls Try.prog 22 #[.int .i64 (n:Int), .int .i64 (k:Int)] W (fun e w' => e = .returned (.tuple #[.int .i64 ((findN n k : Nat) : Int), .bool (decide (findN n k ≠ 0))]) ∧ Below W.heap.size W w')
def NoDiffThin : Prop := ∀ (n s : Int) (W : World), NotIn n s → Calls Try.prog 25 #[.int .i64 n, .int .i64 s] W (fun e w' => e = .returned (.bool false) ∧ Below W.heap.size W w')
def YesDiffThin : Prop := ∀ (n s : Nat) (W : World), 1 ≤ n → n ≤ 12 → s < 2 ^ n → Calls Try.prog 25 #[.int .i64 (n:Int), .int .i64 (s:Int)] W (fun e w' => e = .returned (.bool (thinB n s)) ∧ Below W.heap.size W w')
def NoDiffThinMost : Prop := ∀ (n : Int) (W : World), ¬ (1 ≤ n ∧ n ≤ 12) → Calls Try.prog 28 #[.int .i64 n] W (fun e w' => e = .returned (.tuple #[.int .i64 0, .bool false]) ∧ Below W.heap.size W w')
def YesDiffThinMost : Prop := ∀ (n : Nat) (W : World), 1 ≤ n → n ≤ 12 → Calls Try.prog 28 #[.int .i64 (n:Int)] W (fun e w' => e = .returned (.tuple #[.int .i64 ((thinM n : Nat) : Int), .bool true]) ∧ Below W.heap.size W w')
def NoDiffWhole : Prop := ∀ (n : Int) (W : World), ¬ (1 ≤ n ∧ n ≤ 12) → Calls Try.prog 31 #[.int .i64 n] W (fun e w' => e = .returned (.tuple #[.int .i64 0, .bool false]) ∧ Below W.heap.size W w')
def YesDiffWhole : Prop := ∀ (n : Nat) (W : World), 1 ≤ n → n ≤ 12 → Calls Try.prog 31 #[.int .i64 (n:Int)] W (fun e w' => e = .returned (.tuple #[.int .i64 ((wholeM n : Nat) : Int), .bool true]) ∧ Below W.heap.size W w')
def NoDiffCarries : Prop := ∀ (n s : Int) (W : World), NotIn n s → Calls Try.prog 35 #[.int .i64 n, .int .i64 s] W (fun e w' => e = .returned (.tuple #[.int .i64 0, .bool false]) ∧ Below W.heap.size W w')
def YesDiffCarries : Prop := ∀ (n s : Nat) (W : World), 1 ≤ n → n ≤ 12 → s < 2 ^ n → Calls Try.prog 35 #[.int .i64 (n:Int), .int .i64 (s:Int)] W (fun e w' => e = .returned (.tuple #[.int .i64 ((carN n s : Nat) : Int), .bool true]) ∧ Below W.heap.size W w')
end Go.Proofs.Ytaomjhkodohkcaa
