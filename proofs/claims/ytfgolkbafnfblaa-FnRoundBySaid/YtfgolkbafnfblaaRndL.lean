/- Rounds and their words. -/
import Derived.Test.YtfgolkbafnfblaaRndK
namespace Go.Proofs.Ytfgolkbafnfblaa
open Go.RowKit
set_option linter.unusedVariables false
theorem tab_getD (n : Nat) (f : Nat → Int) (i : Nat) (hi : i < n) : (tabI n f).getD i 0 = f i := by simp [tabI, List.getD_eq_getElem?_getD, hi]
theorem tab_self (xs : List Int) (n : Nat) (f : Nat → Int) (hl : xs.length = n) (h : ∀ i, i < n → f i = xs.getD i 0) : tabI n f = xs := by
  refine List.ext_getElem (by simp [tabI, hl]) fun i h1 h2 => ?_
  have hi : i < n := by rw [← hl]; exact h2
  have a := h i hi
  rw [List.getD_eq_getElem?_getD, List.getElem?_eq_getElem h2] at a
  simp only [tabI, List.getElem_map, List.getElem_range]
  exact a
theorem rword_get (n : Nat) (xs : List Int) (i : Nat) (hi : i < n) : (rwordN n xs n).getD i 0 = ((rest n (xs.getD ((i + 1) % n) 0 - xs.getD i 0) : Nat) : Int) := tab_getD n _ i hi
theorem by_get (n : Nat) (xs : List Int) (i : Nat) (hi : i < n) : (byN n xs n).getD i 0 = ((ratN n xs i : Nat) : Int) := tab_getD n _ i hi
theorem rat_succ (n : Nat) (xs : List Int) (i : Nat) (h1 : 1 ≤ n) : ((ratN n xs (i + 1) : Nat) : Int) = ((ratN n xs i : Int) + xs.getD i 0) % (n : Int) := rest_cast n _ h1
theorem but_zero (n : Nat) : (butN n).testBit 0 = false := by
  unfold butN
  cases n with
  | zero => rfl
  | succ m =>
    have := Nat.two_pow_pos m
    rw [Nat.testBit_zero, Nat.pow_succ]
    exact decide_eq_false (by omega)
theorem lt_of_bit {n s i : Nat} (hs : s < 2 ^ n) (h : s.testBit i = true) : i < n := by
  refine Decidable.byContradiction fun c => ?_
  rw [Nat.testBit_lt_two_pow (Nat.lt_of_lt_of_le hs (Nat.pow_le_pow_right (by omega) (by omega)))] at h
  cases h
/-- Each number of a word is a step. -/
theorem rword_step {n s : Nat} {xs : List Int} (h : IsRnd n s xs) (i : Nat) (hi : i < n) : ∃ r, r < n ∧ (rwordN n xs n).getD i 0 = (r : Int) ∧ s.testBit r = true :=
  ⟨_, rest_lt n _ (by omega), rword_get n xs i hi, h.arc i hi⟩
theorem rword_in {n : Nat} {xs : List Int} (h : IsRnd n (butN n) xs) (i : Nat) (hi : i < n) : 1 ≤ (rwordN n xs n).getD i 0 ∧ (rwordN n xs n).getD i 0 ≤ (n : Int) - 1 := by
  obtain ⟨r, hr, e, hb⟩ := rword_step h i hi
  rw [e]
  have : r ≠ 0 := fun c => by subst c; rw [but_zero] at hb; cases hb
  omega
/-- The word leads along the round. -/
theorem rat_word {n : Nat} {xs : List Int} (h : IsRnd n (butN n) xs) (i : Nat) (hi : i < n) : ((ratN n (rwordN n xs n) i : Nat) : Int) = xs.getD i 0 ∧ ((ratN n (rwordN n xs n) (i + 1) : Nat) : Int) = xs.getD ((i + 1) % n) 0 := by
  have h1 : 1 ≤ n := by omega
  have step : ∀ j, j < n → ((ratN n (rwordN n xs n) j : Nat) : Int) = xs.getD j 0 → ((ratN n (rwordN n xs n) (j + 1) : Nat) : Int) = xs.getD ((j + 1) % n) 0 := fun j hj e => by
    have hm : (j + 1) % n < n := Nat.mod_lt _ (by omega)
    have a := h.lo _ hm
    have b := h.hi _ hm
    rw [rat_succ n _ j h1, e, rword_get n xs j hj, rest_cast n _ h1, Int.add_emod_emod, show xs.getD j 0 + (xs.getD ((j + 1) % n) 0 - xs.getD j 0) = xs.getD ((j + 1) % n) 0 by omega]
    exact Int.emod_eq_of_lt a b
  induction i with
  | zero =>
    have e : ((ratN n (rwordN n xs n) 0 : Nat) : Int) = xs.getD 0 0 := by rw [h.zero]; rfl
    exact ⟨e, step 0 hi e⟩
  | succ i ih =>
    have e := (ih (by omega)).2
    rw [Nat.mod_eq_of_lt hi] at e
    exact ⟨e, step (i + 1) hi e⟩
/-- A round comes back from its word. -/
theorem by_word {n : Nat} {xs : List Int} (h : IsRnd n (butN n) xs) : OkBy n (rwordN n xs n) ∧ byN n (rwordN n xs n) n = xs := by
  have h2 := h.two
  have e : byN n (rwordN n xs n) n = xs := tab_self xs n _ h.len fun i hi => (rat_word h i hi).1
  refine ⟨⟨rword_len n xs n, fun i hi => rword_in h i hi, ?_, by rw [e]; exact h⟩, e⟩
  have := (rat_word h (n - 1) (by omega)).2
  rw [show n - 1 + 1 = n by omega, Nat.mod_self, h.zero] at this
  omega
/-- What a word adds up to. -/
theorem rat_sum (n : Nat) (xs : List Int) (j : Nat) (h1 : 1 ≤ n) (hp : ∀ i, i < j → 0 ≤ xs.getD i 0) : sumTo (fun i => (xs.getD i 0).toNat) j % n = ratN n xs j := by
  induction j with
  | zero => exact Nat.mod_eq_of_lt h1
  | succ j ih =>
    have a := ih fun i hi => hp i (by omega)
    have b := hp j (by omega)
    have c := rat_succ n xs j h1
    show (sumTo (fun i => (xs.getD i 0).toNat) j + (xs.getD j 0).toNat) % n = _
    have d : (((sumTo (fun i => (xs.getD i 0).toNat) j + (xs.getD j 0).toNat) % n : Nat) : Int) = ((ratN n xs (j + 1) : Nat) : Int) := by
      rw [c, ← a, Int.natCast_emod, Int.natCast_add, Int.natCast_emod, Int.toNat_of_nonneg b, Int.emod_add_emod]
    exact Int.ofNat.inj d
/-- A word comes back from its round. -/
theorem word_by {n : Nat} {xs : List Int} (h : OkBy n xs) : rwordN n (byN n xs n) n = xs := by
  have h2 := h.rnd.two
  have h1 : 1 ≤ n := by omega
  refine tab_self xs n _ h.len fun i hi => ?_
  have hb : (byN n xs n).getD ((i + 1) % n) 0 = ((ratN n xs (i + 1) : Nat) : Int) := by
    rw [by_get n xs _ (Nat.mod_lt _ (by omega))]
    by_cases e : i + 1 = n
    · rw [e, Nat.mod_self, h.back]; rfl
    · rw [Nat.mod_eq_of_lt (by omega)]
  obtain ⟨a, b⟩ := h.inn i hi
  rw [hb, by_get n xs i hi, rest_cast n _ h1, rat_succ n xs i h1, Int.emod_sub_emod, show (ratN n xs i : Int) + xs.getD i 0 - (ratN n xs i : Int) = xs.getD i 0 by omega]
  exact Int.emod_eq_of_lt (by omega) (by omega)
/-- Steps that lead back to 0 through all places are a word. -/
theorem ok_of {n : Nat} {zs : List Int} (h2 : 2 ≤ n) (hl : zs.length = n) (hi : ∀ i, i < n → 1 ≤ zs.getD i 0 ∧ zs.getD i 0 ≤ (n : Int) - 1) (hb : ratN n zs n = 0) (ha : ∀ v : Nat, v < n → ∃ i, i < n ∧ ratN n zs i = v) : OkBy n zs := by
  have h1 : 1 ≤ n := by omega
  refine ⟨hl, hi, hb, by_len n zs n, h2, by rw [by_get n zs 0 (by omega)]; rfl, fun i hin => by rw [by_get n zs i hin]; omega, fun i hin => by rw [by_get n zs i hin]; have := ratN_lt n zs i h1; omega, fun i hin => ?_, fun v hv => ?_⟩
  · have e : (byN n zs n).getD ((i + 1) % n) 0 = ((ratN n zs (i + 1) : Nat) : Int) := by
      rw [by_get n zs _ (Nat.mod_lt _ (by omega))]
      by_cases e : i + 1 = n
      · rw [e, Nat.mod_self, hb]; rfl
      · rw [Nat.mod_eq_of_lt (by omega)]
    obtain ⟨a, b⟩ := hi i hin
    have hr := rest_lt n ((byN n zs n).getD ((i + 1) % n) 0 - (byN n zs n).getD i 0) h1
    have hval : ((rest n ((byN n zs n).getD ((i + 1) % n) 0 - (byN n zs n).getD i 0) : Nat) : Int) = zs.getD i 0 := by
      rw [rest_cast n _ h1, e, by_get n zs i hin, rat_succ n zs i h1, Int.emod_sub_emod, show (ratN n zs i : Int) + zs.getD i 0 - (ratN n zs i : Int) = zs.getD i 0 by omega]
      exact Int.emod_eq_of_lt (by omega) (by omega)
    exact but_bit n _ (by omega) hr
  · obtain ⟨i, hin, e⟩ := ha v hv
    exact ⟨i, hin, by rw [by_get n zs i hin, e]⟩
/-- A word turned by one arc is a word. -/
theorem ok_turned {n : Nat} {xs : List Int} (h12 : n ≤ 12) (h : OkBy n xs) : OkBy n (xs.tail ++ [xs.getD 0 0]) := by
  have h2 := h.rnd.two
  have h1 : 1 ≤ n := by omega
  have hlen := h.len
  have htl : xs.tail.length = n - 1 := by simp; omega
  have get : ∀ j, j < n → (xs.tail ++ [xs.getD 0 0]).getD j 0 = xs.getD ((j + 1) % n) 0 := fun j hj => by
    by_cases e : j = n - 1
    · subst e
      rw [show n - 1 + 1 = n by omega, Nat.mod_self]
      have := getD_new xs.tail (xs.getD 0 0)
      rw [htl] at this
      exact this
    · rw [getD_left _ _ j (by omega), Nat.mod_eq_of_lt (by omega)]
      cases xs with
      | nil => simp at hlen; omega
      | cons x l => simp
  have zn : ratN n xs n = 0 := h.back
  have r1 := rat_succ n xs 0 h1
  have main : ∀ j, j < n → ((ratN n (xs.tail ++ [xs.getD 0 0]) j : Nat) : Int) = (((ratN n xs (j + 1) : Nat) : Int) - ((ratN n xs 1 : Nat) : Int)) % (n : Int) := by
    intro j
    induction j with
    | zero => intro _; rw [Int.sub_self]; rfl
    | succ j ih =>
      intro hj
      rw [rat_succ n _ j h1, ih (by omega), get j (by omega), Nat.mod_eq_of_lt hj, Int.emod_add_emod, rat_succ n xs (j + 1) h1, Int.emod_sub_emod]
      congr 1
      omega
  refine ok_of h2 (by simp; omega) (fun i hi => by rw [get i hi]; exact h.inn _ (Nat.mod_lt _ (by omega))) ?_ fun v hv => ?_
  · have a := main (n - 1) (by omega)
    rw [show n - 1 + 1 = n by omega, zn] at a
    have b := rat_succ n (xs.tail ++ [xs.getD 0 0]) (n - 1) h1
    rw [show n - 1 + 1 = n by omega, a, get (n - 1) (by omega), show n - 1 + 1 = n by omega, Nat.mod_self, Int.emod_add_emod, r1] at b
    have z0 : (ratN n xs 0 : Int) = 0 := rfl
    rw [z0, Int.zero_add, show ((0 : Nat) : Int) - xs.getD 0 0 % (n : Int) + xs.getD 0 0 = xs.getD 0 0 - xs.getD 0 0 % (n : Int) by omega, Int.sub_emod, Int.emod_emod, Int.sub_self] at b
    have : ((ratN n (xs.tail ++ [xs.getD 0 0]) n : Nat) : Int) = 0 := by rw [b]; rfl
    omega
  · have hm : (v + ratN n xs 1) % n < n := Nat.mod_lt _ (by omega)
    obtain ⟨k, hk, e⟩ := h.rnd.all _ hm
    rw [by_get n xs k hk] at e
    have e' : ratN n xs k = (v + ratN n xs 1) % n := Int.ofNat.inj e
    have l1 := ratN_lt n xs 1 h1
    have key : ∀ i, i < n → ratN n xs (i + 1) = (v + ratN n xs 1) % n → ratN n (xs.tail ++ [xs.getD 0 0]) i = v := fun i hi ei => by
      have a := main i hi
      rw [ei] at a
      generalize ratN n (xs.tail ++ [xs.getD 0 0]) i = q at *
      generalize ratN n xs 1 = p at *
      clear main get e e' ei zn r1 htl hlen h
      rcases twelve h1 h12 with rfl | rfl | rfl | rfl | rfl | rfl | rfl | rfl | rfl | rfl | rfl | rfl <;> omega
    by_cases c : k = 0
    · subst c
      refine ⟨n - 1, by omega, key (n - 1) (by omega) ?_⟩
      rw [show n - 1 + 1 = n by omega, zn, ← e']
      rfl
    · obtain ⟨i, rfl⟩ : ∃ i, k = i + 1 := ⟨k - 1, by omega⟩
      exact ⟨i, by omega, key i (by omega) e'⟩
end Go.Proofs.Ytfgolkbafnfblaa
