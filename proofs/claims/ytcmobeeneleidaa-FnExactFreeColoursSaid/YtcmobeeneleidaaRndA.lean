/- Rounds: what a list is that is a round. -/
import Derived.Test.YtcmobeeneleidaaGC
import Derived.Test.YtcmobeeneleidaaGD
namespace Go.Proofs.Ytcmobeeneleidaa
open Go.RowKit
set_option linter.unusedVariables false
/-- Whether a list is a round of steps. -/
structure IsRnd (n s : Nat) (xs : List Int) : Prop where
  len : xs.length = n
  two : 2 ≤ n
  zero : xs.getD 0 0 = 0
  lo : ∀ i, i < n → 0 ≤ xs.getD i 0
  hi : ∀ i, i < n → xs.getD i 0 < (n : Int)
  arc : ∀ i, i < n → s.testBit (rest n (xs.getD ((i + 1) % n) 0 - xs.getD i 0)) = true
  all : ∀ v : Nat, v < n → ∃ i, i < n ∧ xs.getD i 0 = (v : Int)
noncomputable def isRndB (n s : Nat) (xs : List Int) : Bool := @decide (IsRnd n s xs) (Classical.propDecidable _)
theorem isRnd_yes {n s : Nat} {xs : List Int} (h : IsRnd n s xs) : isRndB n s xs = true := by
  unfold isRndB
  exact @decide_eq_true _ (Classical.propDecidable _) h
theorem isRnd_no {n s : Nat} {xs : List Int} (h : ¬ IsRnd n s xs) : isRndB n s xs = false := by
  unfold isRndB
  exact @decide_eq_false _ (Classical.propDecidable _) h
theorem isRnd_iff {n s : Nat} {xs : List Int} : isRndB n s xs = true ↔ IsRnd n s xs :=
  ⟨fun h => Classical.byContradiction fun c => (by rw [isRnd_no c] at h; cases h), isRnd_yes⟩
/-- The places that the first i numbers are. -/
def seenN (xs : List Int) : Nat → Nat
  | 0 => 0
  | i + 1 => seenN xs i ||| 2 ^ (xs.getD i 0).toNat
theorem seen_lt (n : Nat) (xs : List Int) (i : Nat) (h : ∀ j, j < i → 0 ≤ xs.getD j 0 ∧ xs.getD j 0 < (n : Int)) : seenN xs i < 2 ^ n := by
  induction i with
  | zero => exact Nat.two_pow_pos n
  | succ i ih =>
    refine Nat.or_lt_two_pow (ih fun j hj => h j (by omega)) ?_
    have := h i (by omega)
    exact Nat.pow_lt_pow_right (by omega) (by omega)
theorem seen_bit (xs : List Int) (i v : Nat) (h : ∀ j, j < i → 0 ≤ xs.getD j 0) : (seenN xs i).testBit v = true ↔ ∃ j, j < i ∧ xs.getD j 0 = (v : Int) := by
  induction i with
  | zero =>
    constructor
    · intro h; simp [seenN] at h
    · rintro ⟨j, hj, _⟩; omega
  | succ i ih =>
    have hi := h i (by omega)
    show (seenN xs i ||| 2 ^ (xs.getD i 0).toNat).testBit v = true ↔ _
    rw [Nat.testBit_or, Bool.or_eq_true, ih fun j hj => h j (by omega), Nat.testBit_two_pow]
    constructor
    · rintro (⟨j, hj, e⟩ | e)
      · exact ⟨j, by omega, e⟩
      · exact ⟨i, by omega, by have := of_decide_eq_true e; omega⟩
    · rintro ⟨j, hj, e⟩
      by_cases c : j = i
      · subst c
        exact .inr (decide_eq_true (by omega))
      · exact .inl ⟨j, by omega, e⟩
theorem seen_all (n : Nat) (xs : List Int) (h : ∀ j, j < n → 0 ≤ xs.getD j 0 ∧ xs.getD j 0 < (n : Int)) : seenN xs n = 2 ^ n - 1 ↔ ∀ v : Nat, v < n → ∃ i, i < n ∧ xs.getD i 0 = (v : Int) := by
  constructor
  · intro e v hv
    refine (seen_bit xs n v fun j hj => (h j hj).1).1 ?_
    rw [e, Nat.testBit_two_pow_sub_one]
    exact decide_eq_true hv
  · intro hall
    refine Nat.eq_of_testBit_eq fun v => ?_
    rw [Nat.testBit_two_pow_sub_one]
    by_cases hv : v < n
    · rw [decide_eq_true hv]
      exact (seen_bit xs n v fun j hj => (h j hj).1).2 (hall v hv)
    · rw [decide_eq_false hv]
      exact Nat.testBit_lt_two_pow (Nat.lt_of_lt_of_le (seen_lt n xs n h) (Nat.pow_le_pow_right (by omega) (by omega)))
/-- The arc behind the number i, as it is reckoned of numbers that may be none of the ring. -/
def arcD (n : Nat) (xs : List Int) (i : Nat) : Int := wrap64 (xs.getD ((i + 1) % n) 0 - xs.getD i 0)
theorem arcD_in {n : Nat} {xs : List Int} {i : Nat} (h2 : n ≤ 12) (h : ∀ j, j < n → 0 ≤ xs.getD j 0 ∧ xs.getD j 0 < (n : Int)) (hi : i < n) : arcD n xs i = xs.getD ((i + 1) % n) 0 - xs.getD i 0 := by
  have a := h i hi
  have b := h ((i + 1) % n) (Nat.mod_lt _ (by omega))
  exact IntWalk.wrap64_in _ ⟨by omega, by omega⟩
/-- What a walk along the list has seen. -/
structure Ahead (n s : Nat) (xs : List Int) (i : Nat) : Prop where
  inn : ∀ j, j < i → 0 ≤ xs.getD j 0 ∧ xs.getD j 0 < (n : Int)
  arc : ∀ j, j < i → s.testBit (rest n (arcD n xs j)) = true
theorem ahead_zero (n s : Nat) (xs : List Int) : Ahead n s xs 0 := ⟨fun j h => absurd h (by omega), fun j h => absurd h (by omega)⟩
theorem ahead_succ {n s : Nat} {xs : List Int} {i : Nat} (h : Ahead n s xs i) (hl : 0 ≤ xs.getD i 0) (hh : xs.getD i 0 < (n : Int)) (ha : s.testBit (rest n (arcD n xs i)) = true) : Ahead n s xs (i + 1) :=
  ⟨fun j hj => by by_cases e : j = i; · subst e; exact ⟨hl, hh⟩
                  · exact h.inn j (by omega),
   fun j hj => by by_cases e : j = i; · subst e; exact ha
                  · exact h.arc j (by omega)⟩
theorem rnd_end {n s : Nat} {xs : List Int} (h2 : n ≤ 12) (hlen : xs.length = n) (h : 2 ≤ n) (h0 : xs.getD 0 0 = 0) (ha : Ahead n s xs n) : IsRnd n s xs ↔ seenN xs n = 2 ^ n - 1 := by
  rw [seen_all n xs ha.inn]
  exact ⟨fun hr => hr.all, fun hall => ⟨hlen, h, h0, fun i hi => (ha.inn i hi).1, fun i hi => (ha.inn i hi).2, fun i hi => by rw [← arcD_in h2 ha.inn hi]; exact ha.arc i hi, hall⟩⟩
theorem rnd_arc {n s : Nat} {xs : List Int} {i : Nat} (h2 : n ≤ 12) (hi : i < n) (hb : s.testBit (rest n (arcD n xs i)) = false) : ¬ IsRnd n s xs := fun h => by
  have e := h.arc i hi
  rw [← arcD_in h2 (fun j hj => ⟨h.lo j hj, h.hi j hj⟩) hi, hb] at e
  cases e
end Go.Proofs.Ytcmobeeneleidaa
