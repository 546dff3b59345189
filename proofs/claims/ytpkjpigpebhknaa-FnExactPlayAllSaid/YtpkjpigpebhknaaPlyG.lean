/- The exact law of PlayClasses over given contracts of the program. Written by gen70.py. -/
import Derived.Test.YtpkjpigpebhknaaPlyF
import Derived.Test.YtpkjpigpebhknaaPlyX
namespace Go.Proofs.Ytpkjpigpebhknaa
open Go.RowKit Go.Shelf
set_option linter.unusedVariables false
def NoPlayClasses : Prop := ∀ (n : Int) (W : World), ¬ AllIn n → Calls Try.prog 24 #[.int .i64 n] W (fun e w' => e = .returned (.tuple #[.int .i64 0, .bool false]) ∧ Below W.heap.size W w')
def YesPlayClasses : Prop := ∀ (n : Nat) (W : World), 3 ≤ n → n ≤ 11 → n % 2 = 1 → Calls Try.prog 24 #[.int .i64 (n:Int)] W (fun e w' => e = .returned (.tuple #[.int .i64 ((clsAll n : Nat) : Int), .bool true]) ∧ Below W.heap.size W w')
theorem lawG_PlayClasses (n : Int) (x : Int) (b : Bool) (w : World) (hS : ∀ W, Calls Try.prog 23 #[.int .i64 n] W fun e w' => e = .returned (.tuple #[.int .i64 x, .bool b]) ∧ Below W.heap.size W w')
    (hI : ∀ W, Calls Try.prog 24 #[.int .i64 n] W fun e w' => e = .returned (.tuple #[.int .i64 x, .bool b]) ∧ Below W.heap.size W w') :
    Calls Try.prog 8 #[.int .i64 n] w fun e w' => e = .returned (.bool true) ∧ Below w.heap.size w w' := by
  have HS := Lib.hid hS
  have HI := Lib.hid hI
  clear hS hI
  cases b
  all_goals
    go_enter Try.func8, Try.ntmps8
    go_wp2_with fail
    refine (HS.out _).mono ?_
    rintro e w1 ⟨rfl, hb1⟩
    go_wp2_with fail
    refine (HI.out _).mono ?_
    rintro e w2 ⟨rfl, hb2⟩
    go_wp2
    go_ret
    exact ⟨rfl, hb1.trans (hb2.mono hb1.size)⟩
theorem lawE_PlayClasses (n : Int) (w : World) (hN : NoPlayClasses) (hY : YesPlayClasses) :
    Calls Try.prog 8 #[.int .i64 n] w fun e w' => e = .returned (.bool true) ∧ Below w.heap.size w w' := by
  by_cases h : AllIn n
  · obtain ⟨m, rfl, h1, h2, h3⟩ := h
    exact lawG_PlayClasses m _ _ w (fun W => specPlayClasses_yes m W h1 h2 h3) (fun W => hY m W h1 h2 h3)
  · exact lawG_PlayClasses n 0 false w (fun W => to_below (specPlayClasses_no n W h)) (fun W => hN n W h)
end Go.Proofs.Ytpkjpigpebhknaa
