/- The exact laws of chapter 9 over given contracts of the program. Written by gen87.py. -/
import Derived.Test.YtkddaecfljiehaaZerC
import Derived.Test.YtkddaecfljiehaaRndY
import Derived.Test.YtkddaecfljiehaaToInts
namespace Go.Proofs.Ytkddaecfljiehaa
open Go.RowKit Go.Shelf
set_option linter.unusedVariables false
theorem to_below9 {F : Nat} {xs : Array Value} {w : World} {v : Ending} (h : Calls Try.prog F xs w fun e w' => e = v ∧ w = w') : Calls Try.prog F xs w fun e w' => e = v ∧ Below w.heap.size w w' :=
  h.mono fun e w' ⟨he, hw⟩ => ⟨he, hw ▸ Below.refl _ _⟩
def NoZeroSum : Prop := ∀ (n : Int) (sv : Value) (xs : List Int) (b : Nat) (W : World), ¬ RowIn n xs → xs.length ≤ 2000000 → IsInts W b sv xs → Calls Try.prog 14 #[.int .i64 n, sv] W (fun e w' => e = .returned (.tuple #[.int .i64 0, .bool false]) ∧ Below W.heap.size W w')
def YesZeroSum : Prop := ∀ (n : Nat) (sv : Value) (xs : List Int) (b : Nat) (W : World), RowIn (n : Int) xs → IsInts W b sv xs → Calls Try.prog 14 #[.int .i64 (n:Int), sv] W (fun e w' => e = .returned (.tuple #[.int .i64 ((zsum n (rowZ xs) xs.length (2 ^ xs.length - 1) : Nat) : Int), .bool true]) ∧ Below W.heap.size W w')
def NoZeroFirst : Prop := ∀ (n : Int) (sv : Value) (xs : List Int) (b : Nat) (W : World), ¬ RowIn n xs → xs.length ≤ 2000000 → IsInts W b sv xs → Calls Try.prog 12 #[.int .i64 n, sv] W (fun e w' => e = .returned (.tuple #[.int .i64 0, .bool false]) ∧ Below W.heap.size W w')
def YesZeroFirst : Prop := ∀ (n : Nat) (sv : Value) (xs : List Int) (b : Nat) (W : World), RowIn (n : Int) xs → IsInts W b sv xs → Calls Try.prog 12 #[.int .i64 (n:Int), sv] W (fun e w' => e = .returned (.tuple #[.int .i64 ((zfirst n (rowZ xs) xs.length : Nat) : Int), .bool (decide (zfirst n (rowZ xs) xs.length ≠ 0))]) ∧ Below W.heap.size W w')
def NoZeroPlain : Prop := ∀ (n : Int) (sv : Value) (xs : List Int) (b : Nat) (W : World), ¬ RowIn n xs → xs.length ≤ 2000000 → IsInts W b sv xs → Calls Try.prog 21 #[.int .i64 n, sv] W (fun e w' => e = .returned (.bool false) ∧ Below W.heap.size W w')
def YesZeroPlain : Prop := ∀ (n : Nat) (sv : Value) (xs : List Int) (b : Nat) (W : World), RowIn (n : Int) xs → IsInts W b sv xs → Calls Try.prog 21 #[.int .i64 (n:Int), sv] W (fun e w' => e = .returned (.bool (plainB n (rowZ xs) xs.length)) ∧ Below W.heap.size W w')
def NoZeroCounts : Prop := ∀ (n : Int) (sv : Value) (xs : List Int) (b : Nat) (W : World), ¬ RowIn n xs → xs.length ≤ 2000000 → IsInts W b sv xs → Calls Try.prog 9 #[.int .i64 n, sv] W (ListRes W [] false)
def YesZeroCounts : Prop := ∀ (n : Nat) (sv : Value) (xs : List Int) (b : Nat) (W : World), RowIn (n : Int) xs → IsInts W b sv xs → Calls Try.prog 9 #[.int .i64 (n:Int), sv] W (ListRes W (cntL n (rowZ xs) xs.length) true)
def NoZeroLeast : Prop := ∀ (n : Int) (sv : Value) (xs : List Int) (b : Nat) (W : World), ¬ (RowIn n xs ∧ xs.length ≤ 8) → xs.length ≤ 2000000 → IsInts W b sv xs → Calls Try.prog 18 #[.int .i64 n, sv] W (ListRes W [] false)
def YesZeroLeast : Prop := ∀ (n : Nat) (sv : Value) (xs : List Int) (b : Nat) (W : World), RowIn (n : Int) xs → xs.length ≤ 8 → IsInts W b sv xs → Calls Try.prog 18 #[.int .i64 (n:Int), sv] W (ListRes W (leastL n (rowZ xs) xs.length) true)
end Go.Proofs.Ytkddaecfljiehaa
