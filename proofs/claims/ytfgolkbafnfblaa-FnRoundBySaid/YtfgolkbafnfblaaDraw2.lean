/- Drawing a ring and sets. -/
import Derived.Test.YtfgolkbafnfblaaDraw
import Derived.WalkSpells
import Derived.Test.YtfgolkbafnfblaaGB
namespace Go.Proofs.Ytfgolkbafnfblaa
open Go.RowKit Go.Shelf
set_option linter.unusedVariables false
def OpenPost (W : World) (B : Nat) (f : Nat → Nat) (e : Ending) (w' : World) : Prop :=
  ∃ R A len cap, e = .returned (.pointer (some ⟨R, 0, none⟩)) ∧ W.heap.size ≤ R ∧ len ≤ 2000 ∧ RdAt w' R A len cap 0 ∧ Code w' B A len f ∧ Below W.heap.size W w'
theorem open_any (W : World) (B len cap : Nat) (A : Option Addr) (f : Nat → Nat) (hC : Code W B A len f) (hB : B ≤ W.heap.size) (hlc : len ≤ cap) (hcap : cap ≤ 9223372036854775807) :
    Calls Try.prog 31 #[.slice A len cap] W (OpenPost W B f) := by
  have HC := Lib.hid hC
  clear hC
  by_cases h : (len : Int) ≤ 2000
  · have h' : ¬ (2000 : Int) < (len : Int) := by omega
    go_enter Try.func31, Try.ntmps31
    go_wp2
    go_ret
    exact ⟨_, _, _, _, rfl, Nat.le_refl _, by omega, World.alloc_heap_new W _, HC.out.below ((Below.refl B W).alloc hB _), (Below.refl _ W).alloc (Nat.le_refl _) _⟩
  · have h' : (2000 : Int) < (len : Int) := by omega
    have i1 : (2000 : Int) ≤ (cap : Int) := by omega
    have i2 : ¬ (cap : Int) < 2000 := by omega
    obtain ⟨ad, rfl, _, _⟩ := HC.out.cell 0 (by omega)
    go_enter Try.func31, Try.ntmps31
    go_wp2
    go_ret
    exact ⟨_, _, _, _, rfl, Nat.le_refl _, by omega, World.alloc_heap_new W _, (HC.out.short (by omega)).below ((Below.refl B W).alloc hB _), (Below.refl _ W).alloc (Nat.le_refl _) _⟩
theorem size_any (s : Nat) (w : World) (hs : s < 2 ^ 40) :
    Calls Try.prog 20 #[.int .i64 (s:Int)] w fun e w' => e = .returned (.int .i64 ((sizeN s : Nat) : Int)) ∧ w = w' := by
  go_enter Try.func20, Try.ntmps20
  go_wp2
  go_loop [0, 3] (fun u v => ∃ f t c : Nat, f ≤ 40 ∧ t < 2 ^ f ∧ c ≤ 40 - f ∧ Hid (c + popF f t = sizeN s) ∧ u = .int .i64 (t : Int) ∧ v = .int .i64 (c : Int)) (fun u _ => (intOf u).toNat)
  case atStart => exact ⟨40, s, 0, Nat.le_refl _, hs, by omega, Lib.hid (by simp [sizeN]), rfl, rfl⟩
  case round =>
    obtain ⟨f, t, c, hf, ht, hc, hp, rfl, rfl⟩ := hrel
    by_cases h0 : t = 0
    · subst h0
      go_wp2
      go_ret
      exact ⟨ret_int (by rw [← hp.out, popF_zero, Nat.add_zero]), rfl⟩
    · obtain ⟨g, rfl⟩ : ∃ g, f = g + 1 := by
        cases f with
        | zero => simp at ht; exact absurd ht h0
        | succ g => exact ⟨g, rfl⟩
      have hpos : (0 : Int) < (t : Int) := by omega
      have ht2 : t / 2 < 2 ^ g := by rw [Nat.pow_succ] at ht; omega
      have ht40 : t < 2 ^ 40 := Nat.lt_of_lt_of_le ht (Nat.pow_le_pow_right (by omega) hf)
      have hm : bits .and .i64 (t : Int) 1 = ((t % 2 : Nat) : Int) := by
        rw [show (1 : Int) = ((1 : Nat) : Int) from rfl, and_nat _ _ (by omega) (by omega), Nat.and_one_is_mod]
      have HP := Lib.hid (show (c + t % 2) + popF g (t / 2) = sizeN s from by
        rw [← hp.out]
        show c + t % 2 + popF g (t / 2) = c + (t % 2 + popF g (t / 2))
        omega)
      have hm2 : t % 2 < 2 := Nat.mod_lt _ (by omega)
      obtain ⟨b, hb⟩ : ∃ b, t % 2 = b := ⟨_, rfl⟩
      rw [hb] at hm hm2 HP
      clear hb h0
      go_wp2
      go_round
      case rel => exact ⟨g, t / 2, c + b, by omega, ht2, by omega, HP, by simp, by go_num⟩
      case measure => simp [intOf]; omega
end Go.Proofs.Ytfgolkbafnfblaa
