/- Sets that are alike: the least one of them is one and the same. -/
import Derived.Test.YtfgolkbafnfblaaGB
namespace Go.Proofs.Ytfgolkbafnfblaa
open Go.RowKit
set_option linter.unusedVariables false
def act (n s : Nat) (m k : Int) : Nat := mapN n s m k n
theorem act_lt (n s : Nat) (m k : Int) (h1 : 1 ≤ n) : act n s m k < 2 ^ n := mapN_lt n s m k n h1
theorem act_bit (n s : Nat) (m k : Int) (i : Nat) : (act n s m k).testBit i = true ↔ ∃ v, v < n ∧ s.testBit v = true ∧ rest n (m * (v : Int) + k) = i := mapN_bit n s m k n i
theorem rest_congr (n : Nat) (a b : Int) (h : a % (n : Int) = b % (n : Int)) : rest n a = rest n b := by unfold rest; rw [h]
theorem act_congr (n s : Nat) (m m' k k' : Int) (hm : m % (n : Int) = m' % (n : Int)) (hk : k % (n : Int) = k' % (n : Int)) : act n s m k = act n s m' k' := by
  refine Nat.eq_of_testBit_eq fun i => ?_
  rw [Bool.eq_iff_iff, act_bit, act_bit]
  have h : ∀ v : Nat, rest n (m * (v : Int) + k) = rest n (m' * (v : Int) + k') := fun v => rest_congr n _ _ (by
    rw [Int.add_emod, Int.mul_emod, hm, hk, ← Int.mul_emod, ← Int.add_emod])
  simp only [h]
theorem act_act (n s : Nat) (m k m' k' : Int) (h1 : 1 ≤ n) : act n (act n s m k) m' k' = act n s (m' * m) (m' * k + k') := by
  refine Nat.eq_of_testBit_eq fun i => ?_
  rw [Bool.eq_iff_iff, act_bit, act_bit]
  have h : ∀ v : Nat, rest n (m' * ((rest n (m * (v : Int) + k) : Nat) : Int) + k') = rest n (m' * m * (v : Int) + (m' * k + k')) := fun v => rest_congr n _ _ (by
    rw [rest_cast n _ h1, Int.add_emod, Int.mul_emod, Int.emod_emod, ← Int.mul_emod, ← Int.add_emod]
    congr 1
    rw [Int.mul_add, Int.mul_assoc, Int.add_assoc])
  constructor
  · rintro ⟨u, hu, hb, hi⟩
    rw [act_bit] at hb
    obtain ⟨v, hv, hs, hr⟩ := hb
    refine ⟨v, hv, hs, ?_⟩
    rw [← h, hr]; exact hi
  · rintro ⟨v, hv, hs, hr⟩
    refine ⟨rest n (m * (v : Int) + k), rest_lt n _ h1, ?_, by rw [h]; exact hr⟩
    rw [act_bit]
    exact ⟨v, hv, hs, rfl⟩
theorem act_one (n s : Nat) (k : Int) (h1 : 1 ≤ n) (hs : s < 2 ^ n) : act n s 1 k = shiftN n s k := map_shift n s k h1 hs
theorem act_id (n s : Nat) (h1 : 1 ≤ n) (hs : s < 2 ^ n) : act n s 1 0 = s := by rw [act_one n s 0 h1 hs, shift_zero n s h1 hs]
theorem shift_turn (n s u k : Nat) (h1 : 1 ≤ n) : shiftN n (turnN n s u) k = act n s u k := by
  rw [← act_one n _ _ h1 (turnN_lt n s u h1), turn_map]
  show act n (act n s u 0) 1 k = _
  rw [act_act n s _ _ _ _ h1]
  simp
/-- The units of small rings. -/
def unitB (n u : Nat) : Bool := decide (u < n) && (Nat.gcd u n == 1)
theorem unitsN_bit (n u : Nat) : (unitsN n).testBit u = true ↔ u < n ∧ Nat.gcd u n = 1 := by
  have h : ∀ k, k ≤ n → ((upto (unitS n) k 0).testBit u = true ↔ u < k ∧ Nat.gcd u n = 1) := by
    intro k
    induction k with
    | zero => simp [upto]
    | succ k ih =>
      intro hk
      have hs : upto (unitS n) (k + 1) 0 = if Nat.gcd k n = 1 then upto (unitS n) k 0 ||| 2 ^ k else upto (unitS n) k 0 := rfl
      rw [hs]
      by_cases hg : Nat.gcd k n = 1
      · rw [if_pos hg, Nat.testBit_or, Bool.or_eq_true, ih (by omega), Nat.testBit_two_pow]
        constructor
        · rintro (⟨h, h'⟩ | h)
          · exact ⟨by omega, h'⟩
          · have e : k = u := by simpa using h
            subst e; exact ⟨by omega, hg⟩
        · rintro ⟨h, h'⟩
          by_cases e : u = k
          · exact .inr (by simp [e])
          · exact .inl ⟨by omega, h'⟩
      · rw [if_neg hg, ih (by omega)]
        constructor
        · rintro ⟨h, h'⟩; exact ⟨by omega, h'⟩
        · rintro ⟨h, h'⟩
          by_cases e : u = k
          · subst e; exact absurd h' hg
          · exact ⟨by omega, h'⟩
  have := h n (Nat.le_refl n)
  rw [← overAll (unitS n) n n 0 (Nat.le_refl n)] at this
  exact this
theorem unit_mul : ∀ n : Nat, n < 13 → ∀ u : Nat, u < n → ∀ v : Nat, v < n → Nat.gcd u n = 1 → Nat.gcd v n = 1 → Nat.gcd (u * v % n) n = 1 := by decide
theorem unit_inv : ∀ n : Nat, n < 13 → ∀ u : Nat, u < n → Nat.gcd u n = 1 → ∃ v : Nat, v < n ∧ Nat.gcd v n = 1 ∧ u * v % n = 1 % n := by decide
theorem unit_one (n : Nat) (h1 : 1 ≤ n) : ∃ e : Nat, e < n ∧ Nat.gcd e n = 1 ∧ ((e : Int) % (n : Int) = 1 % (n : Int)) := by
  by_cases h : n = 1
  · subst h; exact ⟨0, by omega, by decide, by simp⟩
  · exact ⟨1, by omega, by simp, by simp⟩
theorem min_over (f : Nat → Nat) (k a : Nat) : upto (fun i x => min x (f i)) k a ≤ a ∧ (∀ i, i < k → upto (fun i x => min x (f i)) k a ≤ f i) ∧ (upto (fun i x => min x (f i)) k a = a ∨ ∃ i, i < k ∧ upto (fun i x => min x (f i)) k a = f i) := by
  induction k with
  | zero => exact ⟨Nat.le_refl _, fun i hi => by omega, .inl rfl⟩
  | succ k ih =>
    obtain ⟨h1, h2, h3⟩ := ih
    have hs : upto (fun i x => min x (f i)) (k + 1) a = min (upto (fun i x => min x (f i)) k a) (f k) := rfl
    rw [hs]
    refine ⟨by omega, fun i hi => ?_, ?_⟩
    · by_cases e : i = k
      · subst e; omega
      · have := h2 i (by omega); omega
    · by_cases hle : upto (fun i x => min x (f i)) k a ≤ f k
      · rw [Nat.min_eq_left hle]
        rcases h3 with h3 | ⟨i, hi, h3⟩
        · exact .inl h3
        · exact .inr ⟨i, by omega, h3⟩
      · rw [Nat.min_eq_right (by omega)]
        exact .inr ⟨k, by omega, rfl⟩
theorem least_spec (n s : Nat) (h1 : 1 ≤ n) (hs : s < 2 ^ n) : (∀ k, k < n → leastN n s ≤ shiftN n s (k : Int)) ∧ ∃ k, k < n ∧ leastN n s = shiftN n s (k : Int) := by
  have h := min_over (fun k => shiftN n s (k : Int)) n s
  have e : leastN n s = upto (fun i x => min x (shiftN n s (i : Int))) n s := overAll (leastS n s) n n s (Nat.le_refl n)
  rw [e]
  refine ⟨h.2.1, ?_⟩
  rcases h.2.2 with h3 | h3
  · exact ⟨0, h1, by rw [h3]; exact (shift_zero n s h1 hs).symm⟩
  · exact h3
theorem first_le (n s u k : Nat) (h1 : 1 ≤ n) (hs : s < 2 ^ n) (hu : u < n) (hg : Nat.gcd u n = 1) (hk : k < n) : firstN n s ≤ act n s u k := by
  have h : ∀ j, j ≤ n → u < j → overSet (unitsN n) (firstS n s) j s ≤ leastN n (turnN n s u) := by
    intro j
    induction j with
    | zero => intro _ h; omega
    | succ j ih =>
      intro hj hlt
      have hst : overSet (unitsN n) (firstS n s) (j + 1) s = if (unitsN n).testBit j then firstS n s j (overSet (unitsN n) (firstS n s) j s) else overSet (unitsN n) (firstS n s) j s := rfl
      rw [hst]
      by_cases e : u = j
      · subst e
        rw [if_pos ((unitsN_bit n u).2 ⟨hu, hg⟩)]
        exact Nat.min_le_right _ _
      · have := ih (by omega) (by omega)
        split
        · exact Nat.le_trans (Nat.min_le_left _ _) this
        · exact this
  have h2 := h n (Nat.le_refl n) hu
  have h3 := (least_spec n (turnN n s u) h1 (turnN_lt n s u h1)).1 k hk
  rw [shift_turn n s u k h1] at h3
  exact Nat.le_trans h2 h3
theorem first_is (n s : Nat) (h1 : 1 ≤ n) (hs : s < 2 ^ n) : ∃ u k, u < n ∧ Nat.gcd u n = 1 ∧ k < n ∧ firstN n s = act n s u k := by
  have h : ∀ j, j ≤ n → overSet (unitsN n) (firstS n s) j s = s ∨ ∃ u k, u < n ∧ Nat.gcd u n = 1 ∧ k < n ∧ overSet (unitsN n) (firstS n s) j s = act n s u k := by
    intro j
    induction j with
    | zero => intro _; exact .inl rfl
    | succ j ih =>
      intro hj
      have hst : overSet (unitsN n) (firstS n s) (j + 1) s = if (unitsN n).testBit j then firstS n s j (overSet (unitsN n) (firstS n s) j s) else overSet (unitsN n) (firstS n s) j s := rfl
      rw [hst]
      by_cases hb : (unitsN n).testBit j = true
      · rw [if_pos hb]
        obtain ⟨hj1, hj2⟩ := (unitsN_bit n j).1 hb
        have hf : firstS n s j (overSet (unitsN n) (firstS n s) j s) = min (overSet (unitsN n) (firstS n s) j s) (leastN n (turnN n s (j : Int))) := rfl
        rw [hf]
        by_cases hle : overSet (unitsN n) (firstS n s) j s ≤ leastN n (turnN n s (j : Int))
        · rw [Nat.min_eq_left hle]; exact ih (by omega)
        · rw [Nat.min_eq_right (by omega)]
          obtain ⟨k, hk, he⟩ := (least_spec n (turnN n s (j : Int)) h1 (turnN_lt n s _ h1)).2
          rw [shift_turn n s j k h1] at he
          exact .inr ⟨j, k, hj1, hj2, hk, he⟩
      · rw [if_neg hb]; exact ih (by omega)
  rcases h n (Nat.le_refl n) with h | h
  · obtain ⟨e, he, hg, hm⟩ := unit_one n h1
    refine ⟨e, 0, he, hg, h1, ?_⟩
    show overSet (unitsN n) (firstS n s) n s = _
    rw [h, act_congr n s (e : Int) 1 ((0 : Nat) : Int) 0 hm rfl, act_id n s h1 hs]
  · exact h
/-- Sets in one class have one first set. -/
theorem act_norm (n s : Nat) (m k : Int) (h1 : 1 ≤ n) : act n s m k = act n s ((rest n m : Nat) : Int) ((rest n k : Nat) : Int) :=
  act_congr n s m _ k _ (by rw [rest_cast n m h1, Int.emod_emod]) (by rw [rest_cast n k h1, Int.emod_emod])
theorem rest_mul (n u v : Nat) : rest n ((u : Int) * (v : Int)) = u * v % n := by
  unfold rest
  have : ((u : Int) * (v : Int)) % (n : Int) = ((u * v % n : Nat) : Int) := by simp
  rw [this]; exact Int.toNat_natCast _
theorem act_back (n s u k : Nat) (h1 : 1 ≤ n) (h2 : n ≤ 12) (hs : s < 2 ^ n) (hu : u < n) (hg : Nat.gcd u n = 1) (hk : k < n) :
    ∃ v l, v < n ∧ Nat.gcd v n = 1 ∧ l < n ∧ act n (act n s u k) v l = s := by
  obtain ⟨v, hv, hgv, he⟩ := unit_inv n (by omega) u hu hg
  refine ⟨v, rest n (-((v : Int) * (k : Int))), hv, hgv, rest_lt n _ h1, ?_⟩
  rw [act_act n s _ _ _ _ h1]
  have e1 : ((v : Int) * (u : Int)) % (n : Int) = 1 % (n : Int) := by
    have h : ((u * v % n : Nat) : Int) = ((1 % n : Nat) : Int) := by rw [he]
    rw [Int.mul_comm]
    simpa using h
  have e2 : ((v : Int) * (k : Int) + ((rest n (-((v : Int) * (k : Int))) : Nat) : Int)) % (n : Int) = 0 % (n : Int) := by
    rw [rest_cast n _ h1, Int.add_emod_emod, Int.add_right_neg]
  rw [act_congr n s _ 1 _ 0 e1 e2, act_id n s h1 hs]
theorem first_act (n s u k : Nat) (h1 : 1 ≤ n) (h2 : n ≤ 12) (hs : s < 2 ^ n) (hu : u < n) (hg : Nat.gcd u n = 1) (hk : k < n) : firstN n (act n s u k) = firstN n s := by
  have key : ∀ s u k, s < 2 ^ n → u < n → Nat.gcd u n = 1 → k < n → firstN n s ≤ firstN n (act n s u k) := by
    intro s u k hs hu hg hk
    obtain ⟨v, l, hv, hgv, hl, e⟩ := first_is n (act n s u k) h1 (act_lt n s u k h1)
    rw [e, act_act n s _ _ _ _ h1, act_norm n s _ _ h1, rest_mul]
    exact first_le n s _ _ h1 hs (Nat.mod_lt _ (by omega)) (unit_mul n (by omega) v hv u hu hgv hg) (rest_lt n _ h1)
  obtain ⟨v, l, hv, hgv, hl, e⟩ := act_back n s u k h1 h2 hs hu hg hk
  have a := key s u k hs hu hg hk
  have b := key (act n s u k) v l (act_lt n s u k h1) hv hgv hl
  rw [e] at b
  omega
theorem first_first (n s : Nat) (h1 : 1 ≤ n) (h2 : n ≤ 12) (hs : s < 2 ^ n) : firstN n (firstN n s) = firstN n s := by
  obtain ⟨u, k, hu, hg, hk, e⟩ := first_is n s h1 hs
  have h := first_act n s u k h1 h2 hs hu hg hk
  rw [← e] at h
  exact h
theorem first_self_le (n s : Nat) (h1 : 1 ≤ n) (hs : s < 2 ^ n) : firstN n s ≤ s := by
  obtain ⟨e, he, hg, hm⟩ := unit_one n h1
  have h := first_le n s e 0 h1 hs he hg h1
  rw [act_congr n s (e : Int) 1 ((0 : Nat) : Int) 0 hm rfl, act_id n s h1 hs] at h
  exact h
theorem orbit_iff (n s x : Nat) (h1 : 1 ≤ n) (h2 : n ≤ 12) (hs : s < 2 ^ n) (hx : x < 2 ^ n) (hf : firstN n s = s) :
    firstN n x = s ↔ ∃ u k, u < n ∧ Nat.gcd u n = 1 ∧ k < n ∧ act n s u k = x := by
  constructor
  · intro h
    obtain ⟨u, k, hu, hg, hk, e⟩ := first_is n x h1 hx
    obtain ⟨v, l, hv, hgv, hl, e'⟩ := act_back n x u k h1 h2 hx hu hg hk
    rw [← e, h] at e'
    exact ⟨v, l, hv, hgv, hl, e'⟩
  · rintro ⟨u, k, hu, hg, hk, rfl⟩
    rw [first_act n s u k h1 h2 hs hu hg hk, hf]
end Go.Proofs.Ytfgolkbafnfblaa
