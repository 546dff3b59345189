/- The small functions of chapter 1, called at numbers that are in range. -/
import Derived.Test.YthccchelemnnfaaRows
import Derived.Test.YthccchelemnnfaaPure
import Derived.WalkKit
import Derived.ProofKit
import Derived.OpenShut
import Derived.IntWalk
import Derived.Outline
import Derived.RegionTactic
import Derived.ChangeAlike
import Derived.Deep.QuietTactic
import Derived.BigQuiet
import Derived.Lib.Hide
import Derived.WalkSmall
namespace Go.Proofs.Ythccchelemnnfaa
open Go.RowKit
set_option linter.unusedVariables false

theorem has_any (s v : Nat) (w : World) (hs : s < 2 ^ 40) (hv : v < 40) :
    Calls Try.prog 73 #[.int .i64 (s:Int), .int .i64 (v:Int)] w fun e w' => e = .returned (.bool (s.testBit v)) ∧ w = w' := by
  have h := has_nat s v hs
  go_enter Try.func73, Try.ntmps73
  go_wp2
  go_ret
  exact ⟨rfl, rfl⟩
theorem with_any (s v : Nat) (w : World) (hs : s < 2 ^ 40) (hv : v < 40) :
    Calls Try.prog 67 #[.int .i64 (s:Int), .int .i64 (v:Int)] w fun e w' => e = .returned (.int .i64 ((s ||| 2 ^ v : Nat) : Int)) ∧ w = w' := by
  have h := with_nat s v hs hv
  go_enter Try.func67, Try.ntmps67
  go_wp2
  go_ret
  exact ⟨rfl, rfl⟩
theorem all_nat (n : Nat) (hn : n ≤ 12) : wrap64 (wrap64 (2 ^ n) - 1) = ((2 ^ n - 1 : Nat) : Int) := by
  rw [wrap_pow n (by omega)]
  have h := Nat.one_le_two_pow (n := n)
  have := two_pow_lt n (by omega)
  rw [show (((2 ^ n - 1 : Nat) : Int)) = ((2 ^ n : Nat) : Int) - 1 from by omega]
  generalize 2 ^ n = m at *
  exact IntWalk.wrap64_in _ (by omega)
theorem all_any (n : Nat) (w : World) (hn : n ≤ 12) :
    Calls Try.prog 64 #[.agg #[.int .i64 (n:Int)]] w fun e w' => e = .returned (.int .i64 ((2 ^ n - 1 : Nat) : Int)) ∧ Below w.heap.size w w' := by
  have H := Lib.hid (all_nat n hn)
  go_enter Try.func64, Try.ntmps64
  go_wp2
  go_ret
  exact ⟨ret_int H.out, (Below.refl _ _).alloc (Nat.le_refl _) _⟩
theorem rest_any (n : Nat) (v : Int) (w : World) (h1 : 1 ≤ n) (h2 : n ≤ 12) (hv : -1000000 ≤ v ∧ v ≤ 1000000) :
    Calls Try.prog 68 #[.agg #[.int .i64 (n:Int)], .int .i64 v] w fun e w' => e = .returned (.int .i64 ((rest n v : Nat) : Int)) ∧ Below w.heap.size w w' := by
  have hr := rest_eq n v h1
  have hb := rest_in n v h1 h2
  have H := Lib.hid hr
  clear hr
  obtain ⟨hb1, hb2⟩ := hb
  obtain ⟨hv1, hv2⟩ := hv
  go_enter Try.func68, Try.ntmps68
  go_wp2
  go_quiet (fail)
  go_wp2
  go_ret
  exact ⟨ret_int H.out, below_drewN ((Below.refl _ _).alloc (Nat.le_refl _) _) _⟩
theorem moveIn_any (k : Int) (w : World) :
    Calls Try.prog 55 #[.int .i64 k] w fun e w' => e = .returned (.bool (decide (-100 ≤ k ∧ k ≤ 100))) ∧ w = w' := by
  by_cases h1 : -100 ≤ k <;> by_cases h2 : k ≤ 100 <;>
  · go_enter Try.func55, Try.ntmps55
    go_wp2
    go_ret
    exact ⟨ret_bool (by simp [h1, h2]), rfl⟩
theorem l6In_any (n a b : Int) (w : World) :
    Calls Try.prog 66 #[.int .i64 n, .int .i64 a, .int .i64 b] w fun e w' => e = .returned (.bool (decide (a ≤ n ∧ n ≤ b))) ∧ w = w' := by
  by_cases h1 : a ≤ n <;> by_cases h2 : n ≤ b <;>
  · go_enter Try.func66, Try.ntmps66
    go_wp2
    go_ret
    exact ⟨ret_bool (by simp [h1, h2]), rfl⟩
theorem l1Rest_any (n : Nat) (v : Int) (w : World) (h1 : 1 ≤ n) (h2 : n ≤ 12) (hv : -1000000 ≤ v ∧ v ≤ 1000000) :
    Calls Try.prog 69 #[.int .i64 v, .int .i64 (n:Int)] w fun e w' => e = .returned (.int .i64 ((rest n v : Nat) : Int)) ∧ w = w' := by
  have hr := rest_eq n v h1
  have hb := rest_in n v h1 h2
  have H := Lib.hid hr
  clear hr
  obtain ⟨hb1, hb2⟩ := hb
  obtain ⟨hv1, hv2⟩ := hv
  go_enter Try.func69, Try.ntmps69
  go_wp2
  go_ret
  exact ⟨ret_int H.out, rfl⟩
theorem gcd_step (x y : Nat) (h : y ≠ 0) : Nat.gcd y (x % y) = Nat.gcd x y := by
  rw [Nat.gcd_comm x y, Nat.gcd_rec y x, Nat.gcd_comm]
theorem gcd_any (a b : Nat) (w : World) (ha : a < 2 ^ 40) (hb : b < 2 ^ 40) :
    Calls Try.prog 70 #[.int .i64 (a:Int), .int .i64 (b:Int)] w fun e w' => e = .returned (.int .i64 ((Nat.gcd a b : Nat) : Int)) ∧ Below w.heap.size w w' := by
  go_enter Try.func70, Try.ntmps70
  go_wp2
  go_loopw [0, 1] (fun u v wr => ∃ x y : Nat, x < 2 ^ 40 ∧ y < 2 ^ 40 ∧ Hid (Nat.gcd x y = Nat.gcd a b) ∧ u = .int .i64 (x : Int) ∧ v = .int .i64 (y : Int) ∧ Below w.heap.size w wr) (fun _ v _ => (intOf v).toNat)
  case atStart => exact ⟨a, b, ha, hb, rfl, rfl, rfl, Below.refl _ _⟩
  case round =>
    obtain ⟨x, y, hx, hy, hg, rfl, rfl, hB⟩ := hrel
    by_cases h0 : y = 0
    · subst h0
      go_wp2
      go_ret
      exact ⟨ret_int (by rw [← hg.out, Nat.gcd_zero_right]), hB⟩
    · have hp : 0 < y := by omega
      have hlt : x % y < y := Nat.mod_lt _ hp
      have hne : ((y : Int) == 0) = false := by simp; omega
      have hne2 : ((y : Int) != 0) = true := by simp; omega
      have hz : ((y:Int) = 0) = False := by simp; omega
      have hS := Lib.hid (gcd_step x y h0)
      clear h0
      go_wp2
      go_quiet (fail)
      go_wp2
      go_roundw
      case rel => exact ⟨y, x % y, hy, by omega, Lib.hid (by rw [hS.out, hg.out]), rfl, by simp, below_drewN hB _⟩
      case measure => simp [intOf]; omega
theorem l1Gcd_any (a b : Nat) (w : World) (ha : a < 2 ^ 40) (hb : b < 2 ^ 40) :
    Calls Try.prog 71 #[.int .i64 (a:Int), .int .i64 (b:Int)] w fun e w' => e = .returned (.int .i64 ((Nat.gcd a b : Nat) : Int)) ∧ w = w' := by
  go_enter Try.func71, Try.ntmps71
  go_wp2
  go_loop [0, 1] (fun u v => ∃ x y : Nat, x < 2 ^ 40 ∧ y < 2 ^ 40 ∧ Hid (Nat.gcd x y = Nat.gcd a b) ∧ u = .int .i64 (x : Int) ∧ v = .int .i64 (y : Int)) (fun _ v => (intOf v).toNat)
  case atStart => exact ⟨a, b, ha, hb, rfl, rfl, rfl⟩
  case round =>
    obtain ⟨x, y, hx, hy, hg, rfl, rfl⟩ := hrel
    by_cases h0 : y = 0
    · subst h0
      go_wp2
      go_ret
      exact ⟨ret_int (by rw [← hg.out, Nat.gcd_zero_right]), rfl⟩
    · have hp : 0 < y := by omega
      have hlt : x % y < y := Nat.mod_lt _ hp
      have hne : ((y : Int) == 0) = false := by simp; omega
      have hne2 : ((y : Int) != 0) = true := by simp; omega
      have hz : ((y:Int) = 0) = False := by simp; omega
      have hS := Lib.hid (gcd_step x y h0)
      clear h0
      go_wp2
      go_round
      case rel => exact ⟨y, x % y, hy, by omega, Lib.hid (by rw [hS.out, hg.out]), rfl, by simp⟩
      case measure => simp [intOf]; omega
end Go.Proofs.Ythccchelemnnfaa
