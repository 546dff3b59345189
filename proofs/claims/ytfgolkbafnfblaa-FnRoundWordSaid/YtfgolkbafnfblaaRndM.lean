/- Rounds of two steps and of one, on every ring, gone through one by one. -/
import Derived.Test.YtfgolkbafnfblaaRndK
import Derived.Test.YtfgolkbafnfblaaRndD
namespace Go.Proofs.Ytfgolkbafnfblaa
open Go.RowKit
set_option linter.unusedVariables false
def twoB (n a b : Nat) : Bool := !twoN n a b || (twoN n b a && twoN n (n - a) (n - b))
def pairs (n : Nat) (f : Nat → Nat → Bool) : Bool := (List.range n).all fun a => (List.range n).all fun b => Nat.beq a 0 || Nat.beq b 0 || Nat.beq a b || f a b
theorem pairs_at {n : Nat} {f : Nat → Nat → Bool} (h : pairs n f = true) (a b : Nat) (ha1 : 1 ≤ a) (ha : a < n) (hb1 : 1 ≤ b) (hb : b < n) (hab : a ≠ b) : f a b = true := by
  unfold pairs at h
  have h1 := List.all_eq_true.1 h a (List.mem_range.2 ha)
  have h2 := List.all_eq_true.1 h1 b (List.mem_range.2 hb)
  rw [Bool.or_eq_true, Bool.or_eq_true, Bool.or_eq_true] at h2
  rcases h2 with ((h2 | h2) | h2) | h2
  · have := Nat.eq_of_beq_eq_true h2; omega
  · have := Nat.eq_of_beq_eq_true h2; omega
  · exact absurd (Nat.eq_of_beq_eq_true h2) hab
  · exact h2
theorem two_2 : pairs 2 (twoB 2) = true := by decide +kernel
theorem two_3 : pairs 3 (twoB 3) = true := by decide +kernel
theorem two_4 : pairs 4 (twoB 4) = true := by decide +kernel
theorem two_5 : pairs 5 (twoB 5) = true := by decide +kernel
theorem two_6 : pairs 6 (twoB 6) = true := by decide +kernel
theorem two_7 : pairs 7 (twoB 7) = true := by decide +kernel
theorem two_8 : pairs 8 (twoB 8) = true := by decide +kernel
theorem two_9 : pairs 9 (twoB 9) = true := by decide +kernel
theorem two_10 : pairs 10 (twoB 10) = true := by decide +kernel
theorem two_11 : pairs 11 (twoB 11) = true := by decide +kernel
theorem two_12 : pairs 12 (twoB 12) = true := by decide +kernel
/-- Rounds of two steps go both ways. -/
theorem two_both (n a b : Nat) (h2 : 2 ≤ n) (h12 : n ≤ 12) (ha1 : 1 ≤ a) (ha : a < n) (hb1 : 1 ≤ b) (hb : b < n) (hab : a ≠ b) (h : twoN n a b = true) : twoN n b a = true ∧ twoN n (n - a) (n - b) = true := by
  have key : twoB n a b = true := by
    have hc : n = 2 ∨ n = 3 ∨ n = 4 ∨ n = 5 ∨ n = 6 ∨ n = 7 ∨ n = 8 ∨ n = 9 ∨ n = 10 ∨ n = 11 ∨ n = 12 := by omega
    rcases hc with rfl | rfl | rfl | rfl | rfl | rfl | rfl | rfl | rfl | rfl | rfl
    · exact pairs_at two_2 a b ha1 ha hb1 hb hab
    · exact pairs_at two_3 a b ha1 ha hb1 hb hab
    · exact pairs_at two_4 a b ha1 ha hb1 hb hab
    · exact pairs_at two_5 a b ha1 ha hb1 hb hab
    · exact pairs_at two_6 a b ha1 ha hb1 hb hab
    · exact pairs_at two_7 a b ha1 ha hb1 hb hab
    · exact pairs_at two_8 a b ha1 ha hb1 hb hab
    · exact pairs_at two_9 a b ha1 ha hb1 hb hab
    · exact pairs_at two_10 a b ha1 ha hb1 hb hab
    · exact pairs_at two_11 a b ha1 ha hb1 hb hab
    · exact pairs_at two_12 a b ha1 ha hb1 hb hab
  unfold twoB at key
  rw [h] at key
  have : (twoN n b a && twoN n (n - a) (n - b)) = true := key
  rwa [Bool.and_eq_true] at this
/-- One step: as many places as the part has. -/
def oneB (n k : Nat) : Bool := Nat.beq k 0 || (Nat.beq (sizeN (partN n (2 ^ k))) (n / Nat.gcd n k) && (Nat.beq (n / Nat.gcd n k) n == Nat.beq (Nat.gcd n k) 1))
theorem one_all : ((List.range 13).all fun n => (List.range n).all fun k => oneB n k) = true := by decide +kernel
theorem one_says (n k : Nat) (h2 : n ≤ 12) (hk1 : 1 ≤ k) (hk : k < n) : sizeN (partN n (2 ^ k)) = n / Nat.gcd n k ∧ (n / Nat.gcd n k = n ↔ Nat.gcd n k = 1) := by
  have h1 := List.all_eq_true.1 one_all n (List.mem_range.2 (by omega))
  have h3 := List.all_eq_true.1 h1 k (List.mem_range.2 hk)
  unfold oneB at h3
  rw [Bool.or_eq_true, Bool.and_eq_true] at h3
  rcases h3 with h3 | ⟨h3, h4⟩
  · have := Nat.eq_of_beq_eq_true h3; omega
  · refine ⟨Nat.eq_of_beq_eq_true h3, ?_⟩
    have e := eq_of_beq h4
    constructor
    · intro c
      rw [c, Nat.beq_refl] at e
      exact Nat.eq_of_beq_eq_true e.symm
    · intro c
      rw [c] at e ⊢
      exact Nat.eq_of_beq_eq_true e
/-- Whether two steps lead on to a round. -/
def hasT (n a b : Nat) : Nat → Nat → Nat → Bool
  | 0, p, _ => Nat.beq ((p + a) % n) 0 || Nat.beq ((p + b) % n) 0
  | m + 1, p, met => (!met.testBit ((p + a) % n) && !Nat.beq ((p + a) % n) 0 && hasT n a b m ((p + a) % n) (met ||| 2 ^ ((p + a) % n))) ||
      (!met.testBit ((p + b) % n) && !Nat.beq ((p + b) % n) 0 && hasT n a b m ((p + b) % n) (met ||| 2 ^ ((p + b) % n)))
theorem rest_step (n a p v : Nat) (h1 : 1 ≤ n) (h12 : n ≤ 12) (ha : a < n) (hp : p < n) (hv : v < n) : rest n ((v : Int) - (p : Int)) = a ↔ v = (p + a) % n := by
  have e := rest_cast n ((v : Int) - (p : Int)) h1
  generalize rest n ((v : Int) - (p : Int)) = r at *
  rcases twelve h1 h12 with rfl | rfl | rfl | rfl | rfl | rfl | rfl | rfl | rfl | rfl | rfl | rfl <;> omega
theorem two_bit (a b r : Nat) : (2 ^ a ||| 2 ^ b).testBit r = true ↔ r = a ∨ r = b := by
  rw [Nat.testBit_or, Bool.or_eq_true, Nat.testBit_two_pow, Nat.testBit_two_pow, decide_eq_true_eq, decide_eq_true_eq]
  constructor
  · rintro (h | h)
    · exact .inl h.symm
    · exact .inr h.symm
  · rintro (h | h)
    · exact .inl h.symm
    · exact .inr h.symm
theorem has_cnt (n a b m p met : Nat) (h1 : 1 ≤ n) (h12 : n ≤ 12) (ha : a < n) (hb : b < n) (hp : p < n) : 0 < cntN n (2 ^ a ||| 2 ^ b) m p met ↔ hasT n a b m p met = true := by
  induction m generalizing p met with
  | zero =>
    show 0 < b2n _ ↔ (Nat.beq ((p + a) % n) 0 || Nat.beq ((p + b) % n) 0) = true
    have k1 := rest_step n a p 0 h1 h12 ha hp (by omega)
    have k2 := rest_step n b p 0 h1 h12 hb hp (by omega)
    have k3 := two_bit a b (rest n (((0 : Nat) : Int) - (p : Int)))
    have z : ((0 : Nat) : Int) - (p : Int) = 0 - (p : Int) := rfl
    rw [z] at k1 k2 k3
    rw [Bool.or_eq_true]
    have q1 : Nat.beq ((p + a) % n) 0 = true ↔ 0 = (p + a) % n := ⟨fun h => (Nat.eq_of_beq_eq_true h).symm, fun h => by rw [← h]; rfl⟩
    have q2 : Nat.beq ((p + b) % n) 0 = true ↔ 0 = (p + b) % n := ⟨fun h => (Nat.eq_of_beq_eq_true h).symm, fun h => by rw [← h]; rfl⟩
    rw [q1, q2, ← k1, ← k2, ← k3]
    cases (2 ^ a ||| 2 ^ b).testBit (rest n (0 - (p : Int))) <;> simp [b2n]
  | succ m ih =>
    rw [cnt_succ, sumTo_pos]
    show _ ↔ ((!met.testBit ((p + a) % n) && !Nat.beq ((p + a) % n) 0 && hasT n a b m ((p + a) % n) (met ||| 2 ^ ((p + a) % n))) ||
      (!met.testBit ((p + b) % n) && !Nat.beq ((p + b) % n) 0 && hasT n a b m ((p + b) % n) (met ||| 2 ^ ((p + b) % n)))) = true
    have hua : (p + a) % n < n := Nat.mod_lt _ (by omega)
    have hub : (p + b) % n < n := Nat.mod_lt _ (by omega)
    have br : ∀ v, v < n → (0 < brN n (2 ^ a ||| 2 ^ b) m p met v ↔ (v = (p + a) % n ∨ v = (p + b) % n) ∧ v ≠ 0 ∧ met.testBit v = false ∧ hasT n a b m v (met ||| 2 ^ v) = true) := fun v hv => by
      unfold brN
      have k3 := two_bit a b (rest n ((v : Int) - (p : Int)))
      rw [rest_step n a p v h1 h12 ha hp hv, rest_step n b p v h1 h12 hb hp hv] at k3
      constructor
      · intro h
        cases hm : mayN n (2 ^ a ||| 2 ^ b) p met v
        · rw [hm] at h; simp at h
        · rw [hm, if_pos rfl, ih v _ hv] at h
          unfold mayN at hm
          rw [Bool.and_eq_true, Bool.and_eq_true] at hm
          obtain ⟨⟨a1, a2⟩, a3⟩ := hm
          exact ⟨k3.1 a3, by simpa using a1, by simpa using a2, h⟩
      · rintro ⟨a1, a2, a3, a4⟩
        have hm : mayN n (2 ^ a ||| 2 ^ b) p met v = true := by
          unfold mayN
          rw [k3.2 a1, a3, decide_eq_false a2]
          rfl
        rw [hm, if_pos rfl]
        exact (ih v _ hv).2 a4
    rw [Bool.or_eq_true, Bool.and_eq_true, Bool.and_eq_true, Bool.and_eq_true, Bool.and_eq_true]
    have nb : ∀ x : Nat, (!Nat.beq x 0) = true ↔ x ≠ 0 := fun x => by
      cases hb : Nat.beq x 0
      · exact ⟨fun _ => Nat.ne_of_beq_eq_false hb, fun _ => rfl⟩
      · exact ⟨fun h => by simp at h, fun h => absurd (Nat.eq_of_beq_eq_true hb) h⟩
    rw [nb, nb]
    constructor
    · rintro ⟨v, hv, h⟩
      obtain ⟨a1, a2, a3, a4⟩ := (br v hv).1 h
      rcases a1 with rfl | rfl
      · exact .inl ⟨⟨by rw [a3]; rfl, a2⟩, a4⟩
      · exact .inr ⟨⟨by rw [a3]; rfl, a2⟩, a4⟩
    · rintro (⟨⟨a1, a2⟩, a3⟩ | ⟨⟨a1, a2⟩, a3⟩)
      · exact ⟨_, hua, (br _ hua).2 ⟨.inl rfl, a2, by simpa using a1, a3⟩⟩
      · exact ⟨_, hub, (br _ hub).2 ⟨.inr rfl, a2, by simpa using a1, a3⟩⟩
def meetB (n a b : Nat) : Bool := hasT n a b (n - 1) 0 1 == twoN n a b
theorem meet_2 : pairs 2 (meetB 2) = true := by decide +kernel
theorem meet_3 : pairs 3 (meetB 3) = true := by decide +kernel
theorem meet_4 : pairs 4 (meetB 4) = true := by decide +kernel
theorem meet_5 : pairs 5 (meetB 5) = true := by decide +kernel
theorem meet_6 : pairs 6 (meetB 6) = true := by decide +kernel
theorem meet_7 : pairs 7 (meetB 7) = true := by decide +kernel
theorem meet_8 : pairs 8 (meetB 8) = true := by decide +kernel
theorem meet_9 : pairs 9 (meetB 9) = true := by decide +kernel
/-- Rounds of two steps are told by numbers. -/
theorem two_rounds (n a b : Nat) (h2 : 2 ≤ n) (h9 : n ≤ 9) (ha1 : 1 ≤ a) (ha : a < n) (hb1 : 1 ≤ b) (hb : b < n) (hab : a ≠ b) : 0 < manyN n (2 ^ a ||| 2 ^ b) ↔ twoN n a b = true := by
  have key : meetB n a b = true := by
    have hc : n = 2 ∨ n = 3 ∨ n = 4 ∨ n = 5 ∨ n = 6 ∨ n = 7 ∨ n = 8 ∨ n = 9 := by omega
    rcases hc with rfl | rfl | rfl | rfl | rfl | rfl | rfl | rfl
    · exact pairs_at meet_2 a b ha1 ha hb1 hb hab
    · exact pairs_at meet_3 a b ha1 ha hb1 hb hab
    · exact pairs_at meet_4 a b ha1 ha hb1 hb hab
    · exact pairs_at meet_5 a b ha1 ha hb1 hb hab
    · exact pairs_at meet_6 a b ha1 ha hb1 hb hab
    · exact pairs_at meet_7 a b ha1 ha hb1 hb hab
    · exact pairs_at meet_8 a b ha1 ha hb1 hb hab
    · exact pairs_at meet_9 a b ha1 ha hb1 hb hab
  have e : hasT n a b (n - 1) 0 1 = twoN n a b := eq_of_beq key
  unfold manyN
  rw [has_cnt n a b (n - 1) 0 1 (by omega) (by omega) ha hb (by omega), e]
end Go.Proofs.Ytfgolkbafnfblaa
