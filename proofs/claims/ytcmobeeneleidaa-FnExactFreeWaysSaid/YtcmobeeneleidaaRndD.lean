/- Rounds: the model's functions of numbers. -/
import Derived.Test.YtcmobeeneleidaaRndC
import Derived.Test.YtcmobeeneleidaaGB
namespace Go.Proofs.Ytcmobeeneleidaa
open Go.RowKit
set_option linter.unusedVariables false
def anyN (f : Nat → Bool) : Nat → Bool
  | 0 => false
  | i + 1 => anyN f i || f i
def twoD (n a b : Nat) : Nat := Nat.gcd n (rest n ((b : Int) - (a : Int)))
def twoF (n a b d i : Nat) : Bool := Nat.beq (Nat.gcd n ((i * a + (d - i) * b) % n)) d
/-- Whether there is a round of two steps, told by numbers. -/
def twoN (n a b : Nat) : Bool := Nat.beq (Nat.gcd (Nat.gcd n a) b) 1 && anyN (twoF n a b (twoD n a b)) (twoD n a b + 1)
/-- Two steps that are none, or no two. -/
def NoTwo (n a b : Int) : Prop := ¬ (2 ≤ n ∧ n ≤ 12 ∧ 1 ≤ a ∧ a ≤ n - 1 ∧ 1 ≤ b ∧ b ≤ n - 1 ∧ a ≠ b)
theorem not_noTwo {n a b : Int} (h : ¬ NoTwo n a b) : ∃ m x y : Nat, n = (m : Int) ∧ a = (x : Int) ∧ b = (y : Int) ∧ 2 ≤ m ∧ m ≤ 12 ∧ 1 ≤ x ∧ x < m ∧ 1 ≤ y ∧ y < m ∧ x ≠ y := by
  have h' := Decidable.byContradiction h
  obtain ⟨a1, a2, a3, a4, a5, a6, a7⟩ := h'
  exact ⟨n.toNat, a.toNat, b.toNat, by omega, by omega, by omega, by omega, by omega, by omega, by omega, by omega, by omega, by omega⟩
theorem rest_of_nat (n x : Nat) : rest n (x : Int) = x % n := by
  unfold rest
  rw [← Int.natCast_emod]
  exact Int.toNat_natCast _
theorem anyN_false (f : Nat → Bool) (j : Nat) (h : ∀ i, i < j → f i = false) : anyN f j = false := by
  induction j with
  | zero => rfl
  | succ j ih =>
    show (anyN f j || f j) = false
    rw [ih fun i hi => h i (by omega), h j (by omega)]
    rfl
theorem anyN_true (f : Nat → Bool) (j i : Nat) (hi : i < j) (h : f i = true) : anyN f j = true := by
  induction j with
  | zero => omega
  | succ j ih =>
    show (anyN f j || f j) = true
    by_cases e : i = j
    · subst e; rw [h, Bool.or_true]
    · rw [ih (by omega), Bool.true_or]
theorem wraps_at (x : Int) (q : Nat) (h : x = (q : Int)) (hq : q ≤ 1000000) : IntKind.i64.wrap x = (q : Int) ∧ wrap64 x = (q : Int) := by
  subst h
  exact ⟨IntWalk.i64_in _ ⟨by omega, by omega⟩, IntWalk.wrap64_in _ ⟨by omega, by omega⟩⟩
theorem prod_in (a b c : Nat) (hb : a ≤ 12) (hc : b ≤ 12) : a * b ≤ 144 := Nat.mul_le_mul hb hc
/-- What is added up of both steps, in bounds. -/
theorem two_arith (a b d i : Nat) (ha : a ≤ 12) (hb : b ≤ 12) (hd : d ≤ 12) (hi : i ≤ d) : ∃ Q P1 P2 X : Nat, i * a + (d - i) * b = X ∧ X ≤ 1000 ∧
    IntKind.i64.wrap ((d : Int) - (i : Int)) = (Q : Int) ∧ wrap64 ((d : Int) - (i : Int)) = (Q : Int) ∧ IntKind.i64.wrap ((i : Int) * (a : Int)) = (P1 : Int) ∧ wrap64 ((i : Int) * (a : Int)) = (P1 : Int) ∧
    IntKind.i64.wrap ((Q : Int) * (b : Int)) = (P2 : Int) ∧ wrap64 ((Q : Int) * (b : Int)) = (P2 : Int) ∧ IntKind.i64.wrap ((P1 : Int) + (P2 : Int)) = (X : Int) ∧ wrap64 ((P1 : Int) + (P2 : Int)) = (X : Int) := by
  have hi12 : i ≤ 12 := Nat.le_trans hi hd
  have hq12 : d - i ≤ 12 := Nat.le_trans (Nat.sub_le d i) hd
  have hp1 := prod_in i a 0 hi12 ha
  have hp2 := prod_in (d - i) b 0 hq12 hb
  have hx := Nat.add_le_add hp1 hp2
  obtain ⟨w1, w2⟩ := wraps_at _ _ (Int.ofNat_sub hi).symm (Nat.le_trans hq12 (by decide))
  obtain ⟨w3, w4⟩ := wraps_at _ _ (Int.natCast_mul i a).symm (Nat.le_trans hp1 (by decide))
  obtain ⟨w5, w6⟩ := wraps_at _ _ (Int.natCast_mul (d - i) b).symm (Nat.le_trans hp2 (by decide))
  obtain ⟨w7, w8⟩ := wraps_at _ _ (Int.natCast_add (i * a) ((d - i) * b)).symm (Nat.le_trans hx (by decide))
  exact ⟨d - i, i * a, (d - i) * b, _, rfl, Nat.le_trans hx (by decide), w1, w2, w3, w4, w5, w6, w7, w8⟩
end Go.Proofs.Ytcmobeeneleidaa
