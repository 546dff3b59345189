/- Common divisors, as the laws take them. -/
import Derived.Test.YtaomjhkodohkcaaGA
namespace Go.Proofs.Ytaomjhkodohkcaa
open Go.RowKit
set_option linter.unusedVariables false
theorem divisor_any (a b : Nat) (w : World) (ha : a < 2 ^ 40) (hb : b < 2 ^ 40) :
    Calls Try.prog 37 #[.int .i64 (a:Int), .int .i64 (b:Int)] w fun e w' => e = .returned (.int .i64 ((Nat.gcd a b : Nat) : Int)) ∧ w = w' := by
  go_enter Try.func37, Try.ntmps37
  go_wp2
  go_loop [0, 1] (fun u v => ∃ x y : Nat, x < 2 ^ 40 ∧ y < 2 ^ 40 ∧ Hid (Nat.gcd x y = Nat.gcd a b) ∧ u = .int .i64 (x : Int) ∧ v = .int .i64 (y : Int)) (fun _ v => (intOf v).toNat)
  case atStart => exact ⟨a, b, ha, hb, rfl, rfl, rfl⟩
  case round =>
    obtain ⟨x, y, hx, hy, hg, rfl, rfl⟩ := hrel
    by_cases h0 : y = 0
    · subst h0
      go_wp2
      go_ret
      exact ⟨ret_int (by rw [← hg.out, Nat.gcd_zero_right]), rfl⟩
    · have hp : 0 < y := by omega
      have hlt : x % y < y := Nat.mod_lt _ hp
      have hne : ((y : Int) == 0) = false := by simp; omega
      have hne2 : ((y : Int) != 0) = true := by simp; omega
      have hz : ((y:Int) = 0) = False := by simp; omega
      have hS := Lib.hid (gcd_step x y h0)
      clear h0
      go_wp2
      go_round
      case rel => exact ⟨y, x % y, hy, by omega, Lib.hid (by rw [hS.out, hg.out]), rfl, by simp⟩
      case measure => simp [intOf]; omega
end Go.Proofs.Ytaomjhkodohkcaa
