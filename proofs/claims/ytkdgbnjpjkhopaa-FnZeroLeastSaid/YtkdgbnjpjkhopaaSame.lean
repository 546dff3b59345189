/- Lists of integers in the laws that say more than that two answers are alike. -/
import Derived.Test.YtkdgbnjpjkhopaaGD
import Derived.Test.YtkdgbnjpjkhopaaGC
namespace Go.Proofs.Ytkdgbnjpjkhopaa
open Go.RowKit
set_option linter.unusedVariables false
theorem sameInts_any (sa sb : Value) (xs : List Int) (w : World) (ba bb : Nat) (ha : IsInts w ba sa xs) (hb : IsInts w bb sb xs) :
    Calls Try.prog 10 #[sa, sb] w fun e w' => e = .returned (.bool true) ∧ Below w.heap.size w w' := by
  by_cases hx : xs = []
  · subst hx
    rcases ha.shape with ⟨rfl, _⟩ | ⟨g, cap, rfl, hg1, hg2, hg3⟩ <;> rcases hb.shape with ⟨rfl, _⟩ | ⟨g', cap', rfl, hg1', hg2', hg3'⟩
    all_goals
      clear ha hb
      (try simp only [List.length_nil])
      go_enter Try.func10, Try.ntmps10
      go_wp2
      go_loopw [5] (fun u wr => u = .int .i64 0 ∧ wr = w) (fun _ _ => 0)
      case atStart => exact ⟨rfl, rfl⟩
      case round =>
        obtain ⟨rfl, rfl⟩ := hrel
        go_wp2
        go_ret
        exact ⟨rfl, Below.refl _ _⟩
  · rcases ha.shape with ⟨rfl, h0⟩ | ⟨g, cap, rfl, hg1, hg2, hg3⟩
    · exact absurd h0 hx
    · rcases hb.shape with ⟨rfl, h0⟩ | ⟨g', cap', rfl, hg1', hg2', hg3'⟩
      · exact absurd h0 hx
      · unfold maxLen at hg3
        have HA := Lib.hid ha
        have HB := Lib.hid hb
        clear ha hb hg3' hx
        go_enter Try.func10, Try.ntmps10
        go_wp2
        go_loopw [5] (fun u wr => ∃ k : Nat, k ≤ xs.length ∧ u = .int .i64 (k : Int) ∧ Below w.heap.size w wr) (fun u _ => xs.length - (intOf u).toNat)
        case atStart => exact ⟨0, Nat.zero_le _, rfl, Below.refl _ _⟩
        case round =>
          obtain ⟨k, hk, rfl, hB⟩ := hrel
          by_cases hlt : k < xs.length
          · have c1 := (hB.cell (p := ⟨g, k, none⟩) hg2).trans (HA.out.cell hlt)
            have c2 := (hB.cell (p := ⟨g', k, none⟩) hg2').trans (HB.out.cell hlt)
            have i1 : (0 : Int) ≤ (k : Int) := by omega
            have i2 : (k : Int) < (xs.length : Int) := by omega
            generalize xs.getD k 0 = z at c1 c2
            go_wp2
            go_quiet (fail)
            go_wp2
            go_roundw
            case rel => exact ⟨k + 1, by omega, by go_num, below_drewN hB _⟩
            case measure => simp [intOf]; omega
          · have e : k = xs.length := by omega
            subst e
            go_wp2
            go_ret
            exact ⟨rfl, hB⟩
/-- The sum of the first k of a list of natural numbers. -/
def sumL (xs : List Int) (k : Nat) : Nat := sumTo (fun i => (xs.getD i 0).toNat) k
theorem sumL_le (xs : List Int) (c k : Nat) (h : ∀ i, i < xs.length → xs.getD i 0 ≤ (c : Int)) : sumL xs k ≤ c * k := by
  unfold sumL
  induction k with
  | zero => simp [sumTo]
  | succ k ih =>
    show sumTo _ k + (xs.getD k 0).toNat ≤ c * (k + 1)
    have hk : (xs.getD k 0).toNat ≤ c := by
      by_cases e : k < xs.length
      · have := h k e; omega
      · rw [List.getD_eq_getElem?_getD, List.getElem?_eq_none (by omega)]; simp
    rw [Nat.mul_succ]
    omega
end Go.Proofs.Ytkdgbnjpjkhopaa
