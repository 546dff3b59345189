/- Rounds: one step. -/
import Derived.Test.YtfgolkbafnfblaaRndC
import Derived.Test.YtfgolkbafnfblaaGB
namespace Go.Proofs.Ytfgolkbafnfblaa
open Go.RowKit
set_option linter.unusedVariables false
theorem wraps_at' (x : Int) (q : Nat) (h : x = (q : Int)) (hq : q ≤ 1000000) : IntKind.i64.wrap x = (q : Int) ∧ wrap64 x = (q : Int) := by
  subst h
  exact ⟨IntWalk.i64_in _ ⟨by omega, by omega⟩, IntWalk.wrap64_in _ ⟨by omega, by omega⟩⟩
/-- The step k alone. -/
def NoOne (n k : Int) : Prop := ¬ (1 ≤ n ∧ n ≤ 12 ∧ 1 ≤ k ∧ k ≤ n - 1)
theorem specRoundOne_no (n k : Int) (w : World) (h : NoOne n k) :
    Calls Try.prog 18 #[.int .i64 n, .int .i64 k] w fun e w' => e = .returned (.tuple #[.int .i64 0, .bool false]) ∧ w = w' := by
  by_cases hn : 1 ≤ n ∧ n ≤ 12
  · obtain ⟨m, rfl⟩ : ∃ m : Nat, n = (m : Int) := ⟨n.toNat, by omega⟩
    have HR := Lib.hid (specIn_yes m 0 w (by omega) (by omega) (Nat.two_pow_pos m))
    have E := IntWalk.i64_in ((m:Int) - 1) ⟨by omega, by omega⟩
    have HK := Lib.hid (l6In_no k 1 ((m:Int) - 1) w (fun hh => h ⟨hn.1, hn.2, hh.1, hh.2⟩))
    clear h hn
    go_enter Try.func18, Try.ntmps18
    go_wp2_with fail
    refine HR.out.mono ?_
    rintro e w' ⟨rfl, rfl⟩
    go_wp2_with fail
    refine HK.out.mono ?_
    rintro e w' ⟨rfl, rfl⟩
    go_wp2
    go_ret2
    exact ⟨rfl, rfl⟩
  · have HR := Lib.hid (specIn_no n 0 w (fun hh => hn ⟨by have := hh.1; omega, by have := hh.2; omega⟩))
    clear h hn
    go_enter Try.func18, Try.ntmps18
    go_wp2_with fail
    refine HR.out.mono ?_
    rintro e w' ⟨rfl, rfl⟩
    go_wp2
    go_ret2
    exact ⟨rfl, rfl⟩
theorem specRoundOne_yes (n k : Nat) (w : World) (h1 : 1 ≤ n) (h2 : n ≤ 12) (hk1 : 1 ≤ k) (hk : k < n) :
    Calls Try.prog 18 #[.int .i64 (n:Int), .int .i64 (k:Int)] w fun e w' => e = .returned (.tuple #[.int .i64 ((n / Nat.gcd n k : Nat) : Int), .bool true]) ∧ w = w' := by
  have HR := Lib.hid (specIn_yes n 0 w h1 h2 (Nat.two_pow_pos n))
  have E := IntWalk.i64_in ((n:Int) - 1) ⟨by omega, by omega⟩
  have HK := Lib.hid (l6In_yes (k : Int) 1 ((n:Int) - 1) w (by omega) (by omega))
  have HG := Lib.hid (l1Gcd_any n k w (by omega) (by omega))
  have hgp : 1 ≤ Nat.gcd n k := Nat.gcd_pos_of_pos_right _ (by omega)
  have hdl : n / Nat.gcd n k ≤ n := Nat.div_le_self _ _
  have hd1 : Int.tdiv (n : Int) ((Nat.gcd n k : Nat) : Int) = ((n / Nat.gcd n k : Nat) : Int) := rfl
  generalize n / Nat.gcd n k = q at *
  generalize Nat.gcd n k = g at *
  have g1 : ((g : Int) = 0) = False := by simp; omega
  have g2 : ((g : Int) == 0) = false := by simp; omega
  obtain ⟨w1, w2⟩ := wraps_at' _ q hd1 (by omega)
  go_enter Try.func18, Try.ntmps18
  go_wp2_with fail
  refine HR.out.mono ?_
  rintro e w' ⟨rfl, rfl⟩
  go_wp2_with fail
  refine HK.out.mono ?_
  rintro e w' ⟨rfl, rfl⟩
  go_wp2_with fail
  refine HG.out.mono ?_
  rintro e w' ⟨rfl, rfl⟩
  go_wp2
  go_ret2
  exact ⟨rfl, rfl⟩
end Go.Proofs.Ytfgolkbafnfblaa
