/- Exact laws of chapter 8 over given contracts of the program. Written by gen65.py. -/
import Derived.Test.YtaklmepioeoohaaPlyD
import Derived.Test.YtaklmepioeoohaaDifX
namespace Go.Proofs.Ytaklmepioeoohaa
open Go.RowKit Go.Shelf
set_option linter.unusedVariables false
def NoPlayIn : Prop := ∀ (n s : Int) (W : World), NoPlay n s → Calls Try.prog 12 #[.int .i64 n, .int .i64 s] W (fun e w' => e = .returned (.bool false) ∧ Below W.heap.size W w')
def YesPlayIn : Prop := ∀ (n s : Nat) (W : World), n ≤ 12 → s < 2 ^ n → playB n s = true → Calls Try.prog 12 #[.int .i64 (n:Int), .int .i64 (s:Int)] W (fun e w' => e = .returned (.bool true) ∧ Below W.heap.size W w')
def NoPlayThree : Prop := ∀ (n s : Int) (W : World), NoPlay n s → Calls Try.prog 22 #[.int .i64 n, .int .i64 s] W (fun e w' => e = .returned (.tuple #[.int .i64 0, .bool false]) ∧ Below W.heap.size W w')
def YesPlayThree : Prop := ∀ (n s : Nat) (W : World), n ≤ 12 → s < 2 ^ n → playB n s = true → Calls Try.prog 22 #[.int .i64 (n:Int), .int .i64 (s:Int)] W (fun e w' => e = .returned (.tuple #[.int .i64 ((threeN n s : Nat) : Int), .bool true]) ∧ Below W.heap.size W w')
def NoPlayTwice : Prop := ∀ (n s : Int) (W : World), NoPlay n s → Calls Try.prog 25 #[.int .i64 n, .int .i64 s] W (fun e w' => e = .returned (.tuple #[.int .i64 0, .bool false]) ∧ Below W.heap.size W w')
def YesPlayTwice : Prop := ∀ (n s : Nat) (W : World), n ≤ 12 → s < 2 ^ n → playB n s = true → Calls Try.prog 25 #[.int .i64 (n:Int), .int .i64 (s:Int)] W (fun e w' => e = .returned (.tuple #[.int .i64 ((twiceN n s : Nat) : Int), .bool true]) ∧ Below W.heap.size W w')
def NoPlayEqual : Prop := ∀ (n s : Int) (W : World), NoPlay n s → Calls Try.prog 29 #[.int .i64 n, .int .i64 s] W (fun e w' => e = .returned (.tuple #[.int .i64 0, .bool false]) ∧ Below W.heap.size W w')
def YesPlayEqual : Prop := ∀ (n s : Nat) (W : World), n ≤ 12 → s < 2 ^ n → playB n s = true → Calls Try.prog 29 #[.int .i64 (n:Int), .int .i64 (s:Int)] W (fun e w' => e = .returned (.tuple #[.int .i64 ((evZ n s : Nat) : Int), .bool (evenB n s)]) ∧ Below W.heap.size W w')
def NoPlayAll : Prop := ∀ (n : Int) (W : World), ¬ AllIn n → Calls Try.prog 18 #[.int .i64 n] W (ListRes W [] false)
def YesPlayAll : Prop := ∀ (n : Nat) (W : World), 3 ≤ n → n ≤ 11 → n % 2 = 1 → Calls Try.prog 18 #[.int .i64 (n:Int)] W (ListRes W (playL n (2 ^ (n - 1))) true)
end Go.Proofs.Ytaklmepioeoohaa
