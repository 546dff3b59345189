/- Texts of mine, laid together: MinusM Orbit TurnM. -/
import Derived.Test.YtecjhkpldcmlaaaDoorGB
/- Sums with none, differences: maths. -/
namespace Go.Proofs.YtecjhkpldcmlaaaDoor
open Go.RowKit
set_option linter.unusedVariables false
theorem popF_le (f s : Nat) : popF f s ≤ f := by
  induction f generalizing s with
  | zero => exact Nat.le_refl _
  | succ f ih =>
    have h1 := ih (s / 2)
    have h2 : s % 2 < 2 := Nat.mod_lt _ (by omega)
    show s % 2 + popF f (s / 2) ≤ f + 1
    omega
theorem sum_none (n a : Nat) : sumN n a 0 = 0 := by
  have h : ∀ j, overSet 0 (sumS n a) j 0 = 0 := by
    intro j
    induction j with
    | zero => rfl
    | succ j ih =>
      show (if (0 : Nat).testBit j then sumS n a j (overSet 0 (sumS n a) j 0) else overSet 0 (sumS n a) j 0) = 0
      rw [Nat.zero_testBit]
      simpa using ih
  exact h n
theorem turnN_bit (n b : Nat) (i : Nat) : (turnN n b (-1)).testBit i = true ↔ ∃ v, v < n ∧ b.testBit v = true ∧ rest n (-(v : Int)) = i := by
  rw [turn_map, mapN_bit]
  have e : ∀ v : Nat, (-1 : Int) * (v : Int) + 0 = -(v : Int) := fun v => by omega
  simp only [e]
theorem minus_bit (n a b i : Nat) (h1 : 1 ≤ n) (ha : a < 2 ^ n) : (sumN n a (turnN n b (-1))).testBit i = true ↔ ∃ v w, v < n ∧ b.testBit v = true ∧ w < n ∧ a.testBit w = true ∧ rest n ((w : Int) - (v : Int)) = i := by
  rw [sumN_bit n a _ i h1 ha]
  have e : ∀ v w : Nat, rest n ((w : Int) - (v : Int)) = (rest n (-(v : Int)) + w) % n := fun v w => by
    rw [Nat.add_comm, ← rest_add n w (-(v : Int)) h1, Int.sub_eq_add_neg]
  constructor
  · rintro ⟨u, w, hu, hb, hw, h5, h6⟩
    obtain ⟨v, hv, hbv, rfl⟩ := (turnN_bit n b u).1 hb
    exact ⟨v, w, hv, hbv, hw, h5, by rw [e]; exact h6⟩
  · rintro ⟨v, w, hv, hbv, hw, h5, h6⟩
    exact ⟨rest n (-(v : Int)), w, rest_lt n _ h1, (turnN_bit n b _).2 ⟨v, hv, hbv, rfl⟩, hw, h5, by rw [← e]; exact h6⟩
theorem rest_neg (n : Nat) (x : Int) (h1 : 1 ≤ n) : rest n (-((rest n x : Nat) : Int)) = rest n (-x) := by
  have g : (-((rest n x : Nat) : Int)) % (n : Int) = (-x) % (n : Int) := by
    rw [rest_cast n x h1, ← Int.zero_sub, ← Int.zero_sub, Int.sub_emod, Int.emod_emod, ← Int.sub_emod]
  unfold rest at *
  rw [g]
theorem minus_turn (n a b : Nat) (h1 : 1 ≤ n) (ha : a < 2 ^ n) (hb : b < 2 ^ n) : turnN n (sumN n a (turnN n b (-1))) (-1) = sumN n b (turnN n a (-1)) := by
  refine Nat.eq_of_testBit_eq fun i => ?_
  rw [Bool.eq_iff_iff, turnN_bit, minus_bit n b a i h1 hb]
  constructor
  · rintro ⟨u, hu, hd, rfl⟩
    obtain ⟨v, w, hv, hbv, hw, haw, rfl⟩ := (minus_bit n a b u h1 ha).1 hd
    exact ⟨w, v, hw, haw, hv, hbv, by rw [rest_neg n _ h1, Int.neg_sub]⟩
  · rintro ⟨w, v, hw, haw, hv, hbv, rfl⟩
    exact ⟨rest n ((w : Int) - (v : Int)), rest_lt n _ h1, (minus_bit n a b _ h1 ha).2 ⟨v, w, hv, hbv, hw, haw, rfl⟩, by rw [rest_neg n _ h1, Int.neg_sub]⟩
theorem rest_zero (n v w : Nat) (h1 : 1 ≤ n) (hv : v < n) (hw : w < n) (h : rest n ((w : Int) - (v : Int)) = 0) : w = v := by
  have g := rest_cast n ((w : Int) - (v : Int)) h1
  rw [h] at g
  by_cases hl : v ≤ w
  · rw [Int.emod_eq_of_lt (by omega) (by omega)] at g
    omega
  · rw [← Int.add_emod_right, Int.emod_eq_of_lt (by omega) (by omega)] at g
    omega
theorem minus_zero (n a b : Nat) (h1 : 1 ≤ n) (ha : a < 2 ^ n) (hb : b < 2 ^ n) : sumN n a (turnN n b (-1)) % 2 = 1 ↔ a &&& b ≠ 0 := by
  have h := minus_bit n a b 0 h1 ha
  rw [Nat.testBit_zero, decide_eq_true_eq] at h
  rw [h]
  constructor
  · rintro ⟨v, w, hv, hbv, hw, haw, h6⟩
    obtain rfl := rest_zero n v w h1 hv hw h6
    exact bit_ne (v := w) (by rw [Nat.testBit_and, haw, hbv]; rfl)
  · intro hne
    obtain ⟨v, hv⟩ := some_bit _ hne
    rw [Nat.testBit_and, Bool.and_eq_true] at hv
    have hl := lt_of_bits n b hb v hv.2
    exact ⟨v, v, hl, hv.2, hl, hv.1, by simp [rest]⟩
end Go.Proofs.YtecjhkpldcmlaaaDoor

/- Sets that are alike: the least one of them is one and the same. -/
namespace Go.Proofs.YtecjhkpldcmlaaaDoor
open Go.RowKit
set_option linter.unusedVariables false
def act (n s : Nat) (m k : Int) : Nat := mapN n s m k n
theorem act_lt (n s : Nat) (m k : Int) (h1 : 1 ≤ n) : act n s m k < 2 ^ n := mapN_lt n s m k n h1
theorem act_bit (n s : Nat) (m k : Int) (i : Nat) : (act n s m k).testBit i = true ↔ ∃ v, v < n ∧ s.testBit v = true ∧ rest n (m * (v : Int) + k) = i := mapN_bit n s m k n i
theorem rest_congr (n : Nat) (a b : Int) (h : a % (n : Int) = b % (n : Int)) : rest n a = rest n b := by unfold rest; rw [h]
theorem act_congr (n s : Nat) (m m' k k' : Int) (hm : m % (n : Int) = m' % (n : Int)) (hk : k % (n : Int) = k' % (n : Int)) : act n s m k = act n s m' k' := by
  refine Nat.eq_of_testBit_eq fun i => ?_
  rw [Bool.eq_iff_iff, act_bit, act_bit]
  have h : ∀ v : Nat, rest n (m * (v : Int) + k) = rest n (m' * (v : Int) + k') := fun v => rest_congr n _ _ (by
    rw [Int.add_emod, Int.mul_emod, hm, hk, ← Int.mul_emod, ← Int.add_emod])
  simp only [h]
theorem act_act (n s : Nat) (m k m' k' : Int) (h1 : 1 ≤ n) : act n (act n s m k) m' k' = act n s (m' * m) (m' * k + k') := by
  refine Nat.eq_of_testBit_eq fun i => ?_
  rw [Bool.eq_iff_iff, act_bit, act_bit]
  have h : ∀ v : Nat, rest n (m' * ((rest n (m * (v : Int) + k) : Nat) : Int) + k') = rest n (m' * m * (v : Int) + (m' * k + k')) := fun v => rest_congr n _ _ (by
    rw [rest_cast n _ h1, Int.add_emod, Int.mul_emod, Int.emod_emod, ← Int.mul_emod, ← Int.add_emod]
    congr 1
    rw [Int.mul_add, Int.mul_assoc, Int.add_assoc])
  constructor
  · rintro ⟨u, hu, hb, hi⟩
    rw [act_bit] at hb
    obtain ⟨v, hv, hs, hr⟩ := hb
    refine ⟨v, hv, hs, ?_⟩
    rw [← h, hr]; exact hi
  · rintro ⟨v, hv, hs, hr⟩
    refine ⟨rest n (m * (v : Int) + k), rest_lt n _ h1, ?_, by rw [h]; exact hr⟩
    rw [act_bit]
    exact ⟨v, hv, hs, rfl⟩
theorem act_one (n s : Nat) (k : Int) (h1 : 1 ≤ n) (hs : s < 2 ^ n) : act n s 1 k = shiftN n s k := map_shift n s k h1 hs
theorem act_id (n s : Nat) (h1 : 1 ≤ n) (hs : s < 2 ^ n) : act n s 1 0 = s := by rw [act_one n s 0 h1 hs, shift_zero n s h1 hs]
theorem shift_turn (n s u k : Nat) (h1 : 1 ≤ n) : shiftN n (turnN n s u) k = act n s u k := by
  rw [← act_one n _ _ h1 (turnN_lt n s u h1), turn_map]
  show act n (act n s u 0) 1 k = _
  rw [act_act n s _ _ _ _ h1]
  simp
/-- The units of small rings. -/
def unitB (n u : Nat) : Bool := decide (u < n) && (Nat.gcd u n == 1)
theorem unitsN_bit (n u : Nat) : (unitsN n).testBit u = true ↔ u < n ∧ Nat.gcd u n = 1 := by
  have h : ∀ k, k ≤ n → ((upto (unitS n) k 0).testBit u = true ↔ u < k ∧ Nat.gcd u n = 1) := by
    intro k
    induction k with
    | zero => simp [upto]
    | succ k ih =>
      intro hk
      have hs : upto (unitS n) (k + 1) 0 = if Nat.gcd k n = 1 then upto (unitS n) k 0 ||| 2 ^ k else upto (unitS n) k 0 := rfl
      rw [hs]
      by_cases hg : Nat.gcd k n = 1
      · rw [if_pos hg, Nat.testBit_or, Bool.or_eq_true, ih (by omega), Nat.testBit_two_pow]
        constructor
        · rintro (⟨h, h'⟩ | h)
          · exact ⟨by omega, h'⟩
          · have e : k = u := by simpa using h
            subst e; exact ⟨by omega, hg⟩
        · rintro ⟨h, h'⟩
          by_cases e : u = k
          · exact .inr (by simp [e])
          · exact .inl ⟨by omega, h'⟩
      · rw [if_neg hg, ih (by omega)]
        constructor
        · rintro ⟨h, h'⟩; exact ⟨by omega, h'⟩
        · rintro ⟨h, h'⟩
          by_cases e : u = k
          · subst e; exact absurd h' hg
          · exact ⟨by omega, h'⟩
  have := h n (Nat.le_refl n)
  rw [← overAll (unitS n) n n 0 (Nat.le_refl n)] at this
  exact this
theorem unit_mul : ∀ n : Nat, n < 13 → ∀ u : Nat, u < n → ∀ v : Nat, v < n → Nat.gcd u n = 1 → Nat.gcd v n = 1 → Nat.gcd (u * v % n) n = 1 := by decide
theorem unit_inv : ∀ n : Nat, n < 13 → ∀ u : Nat, u < n → Nat.gcd u n = 1 → ∃ v : Nat, v < n ∧ Nat.gcd v n = 1 ∧ u * v % n = 1 % n := by decide
theorem unit_one (n : Nat) (h1 : 1 ≤ n) : ∃ e : Nat, e < n ∧ Nat.gcd e n = 1 ∧ ((e : Int) % (n : Int) = 1 % (n : Int)) := by
  by_cases h : n = 1
  · subst h; exact ⟨0, by omega, by decide, by simp⟩
  · exact ⟨1, by omega, by simp, by simp⟩
theorem min_over (f : Nat → Nat) (k a : Nat) : upto (fun i x => min x (f i)) k a ≤ a ∧ (∀ i, i < k → upto (fun i x => min x (f i)) k a ≤ f i) ∧ (upto (fun i x => min x (f i)) k a = a ∨ ∃ i, i < k ∧ upto (fun i x => min x (f i)) k a = f i) := by
  induction k with
  | zero => exact ⟨Nat.le_refl _, fun i hi => by omega, .inl rfl⟩
  | succ k ih =>
    obtain ⟨h1, h2, h3⟩ := ih
    have hs : upto (fun i x => min x (f i)) (k + 1) a = min (upto (fun i x => min x (f i)) k a) (f k) := rfl
    rw [hs]
    refine ⟨by omega, fun i hi => ?_, ?_⟩
    · by_cases e : i = k
      · subst e; omega
      · have := h2 i (by omega); omega
    · by_cases hle : upto (fun i x => min x (f i)) k a ≤ f k
      · rw [Nat.min_eq_left hle]
        rcases h3 with h3 | ⟨i, hi, h3⟩
        · exact .inl h3
        · exact .inr ⟨i, by omega, h3⟩
      · rw [Nat.min_eq_right (by omega)]
        exact .inr ⟨k, by omega, rfl⟩
theorem least_spec (n s : Nat) (h1 : 1 ≤ n) (hs : s < 2 ^ n) : (∀ k, k < n → leastN n s ≤ shiftN n s (k : Int)) ∧ ∃ k, k < n ∧ leastN n s = shiftN n s (k : Int) := by
  have h := min_over (fun k => shiftN n s (k : Int)) n s
  have e : leastN n s = upto (fun i x => min x (shiftN n s (i : Int))) n s := overAll (leastS n s) n n s (Nat.le_refl n)
  rw [e]
  refine ⟨h.2.1, ?_⟩
  rcases h.2.2 with h3 | h3
  · exact ⟨0, h1, by rw [h3]; exact (shift_zero n s h1 hs).symm⟩
  · exact h3
theorem first_le (n s u k : Nat) (h1 : 1 ≤ n) (hs : s < 2 ^ n) (hu : u < n) (hg : Nat.gcd u n = 1) (hk : k < n) : firstN n s ≤ act n s u k := by
  have h : ∀ j, j ≤ n → u < j → overSet (unitsN n) (firstS n s) j s ≤ leastN n (turnN n s u) := by
    intro j
    induction j with
    | zero => intro _ h; omega
    | succ j ih =>
      intro hj hlt
      have hst : overSet (unitsN n) (firstS n s) (j + 1) s = if (unitsN n).testBit j then firstS n s j (overSet (unitsN n) (firstS n s) j s) else overSet (unitsN n) (firstS n s) j s := rfl
      rw [hst]
      by_cases e : u = j
      · subst e
        rw [if_pos ((unitsN_bit n u).2 ⟨hu, hg⟩)]
        exact Nat.min_le_right _ _
      · have := ih (by omega) (by omega)
        split
        · exact Nat.le_trans (Nat.min_le_left _ _) this
        · exact this
  have h2 := h n (Nat.le_refl n) hu
  have h3 := (least_spec n (turnN n s u) h1 (turnN_lt n s u h1)).1 k hk
  rw [shift_turn n s u k h1] at h3
  exact Nat.le_trans h2 h3
theorem first_is (n s : Nat) (h1 : 1 ≤ n) (hs : s < 2 ^ n) : ∃ u k, u < n ∧ Nat.gcd u n = 1 ∧ k < n ∧ firstN n s = act n s u k := by
  have h : ∀ j, j ≤ n → overSet (unitsN n) (firstS n s) j s = s ∨ ∃ u k, u < n ∧ Nat.gcd u n = 1 ∧ k < n ∧ overSet (unitsN n) (firstS n s) j s = act n s u k := by
    intro j
    induction j with
    | zero => intro _; exact .inl rfl
    | succ j ih =>
      intro hj
      have hst : overSet (unitsN n) (firstS n s) (j + 1) s = if (unitsN n).testBit j then firstS n s j (overSet (unitsN n) (firstS n s) j s) else overSet (unitsN n) (firstS n s) j s := rfl
      rw [hst]
      by_cases hb : (unitsN n).testBit j = true
      · rw [if_pos hb]
        obtain ⟨hj1, hj2⟩ := (unitsN_bit n j).1 hb
        have hf : firstS n s j (overSet (unitsN n) (firstS n s) j s) = min (overSet (unitsN n) (firstS n s) j s) (leastN n (turnN n s (j : Int))) := rfl
        rw [hf]
        by_cases hle : overSet (unitsN n) (firstS n s) j s ≤ leastN n (turnN n s (j : Int))
        · rw [Nat.min_eq_left hle]; exact ih (by omega)
        · rw [Nat.min_eq_right (by omega)]
          obtain ⟨k, hk, he⟩ := (least_spec n (turnN n s (j : Int)) h1 (turnN_lt n s _ h1)).2
          rw [shift_turn n s j k h1] at he
          exact .inr ⟨j, k, hj1, hj2, hk, he⟩
      · rw [if_neg hb]; exact ih (by omega)
  rcases h n (Nat.le_refl n) with h | h
  · obtain ⟨e, he, hg, hm⟩ := unit_one n h1
    refine ⟨e, 0, he, hg, h1, ?_⟩
    show overSet (unitsN n) (firstS n s) n s = _
    rw [h, act_congr n s (e : Int) 1 ((0 : Nat) : Int) 0 hm rfl, act_id n s h1 hs]
  · exact h
/-- Sets in one class have one first set. -/
theorem act_norm (n s : Nat) (m k : Int) (h1 : 1 ≤ n) : act n s m k = act n s ((rest n m : Nat) : Int) ((rest n k : Nat) : Int) :=
  act_congr n s m _ k _ (by rw [rest_cast n m h1, Int.emod_emod]) (by rw [rest_cast n k h1, Int.emod_emod])
theorem rest_mul (n u v : Nat) : rest n ((u : Int) * (v : Int)) = u * v % n := by
  unfold rest
  have : ((u : Int) * (v : Int)) % (n : Int) = ((u * v % n : Nat) : Int) := by simp
  rw [this]; exact Int.toNat_natCast _
theorem act_back (n s u k : Nat) (h1 : 1 ≤ n) (h2 : n ≤ 12) (hs : s < 2 ^ n) (hu : u < n) (hg : Nat.gcd u n = 1) (hk : k < n) :
    ∃ v l, v < n ∧ Nat.gcd v n = 1 ∧ l < n ∧ act n (act n s u k) v l = s := by
  obtain ⟨v, hv, hgv, he⟩ := unit_inv n (by omega) u hu hg
  refine ⟨v, rest n (-((v : Int) * (k : Int))), hv, hgv, rest_lt n _ h1, ?_⟩
  rw [act_act n s _ _ _ _ h1]
  have e1 : ((v : Int) * (u : Int)) % (n : Int) = 1 % (n : Int) := by
    have h : ((u * v % n : Nat) : Int) = ((1 % n : Nat) : Int) := by rw [he]
    rw [Int.mul_comm]
    simpa using h
  have e2 : ((v : Int) * (k : Int) + ((rest n (-((v : Int) * (k : Int))) : Nat) : Int)) % (n : Int) = 0 % (n : Int) := by
    rw [rest_cast n _ h1, Int.add_emod_emod, Int.add_right_neg]
  rw [act_congr n s _ 1 _ 0 e1 e2, act_id n s h1 hs]
theorem first_act (n s u k : Nat) (h1 : 1 ≤ n) (h2 : n ≤ 12) (hs : s < 2 ^ n) (hu : u < n) (hg : Nat.gcd u n = 1) (hk : k < n) : firstN n (act n s u k) = firstN n s := by
  have key : ∀ s u k, s < 2 ^ n → u < n → Nat.gcd u n = 1 → k < n → firstN n s ≤ firstN n (act n s u k) := by
    intro s u k hs hu hg hk
    obtain ⟨v, l, hv, hgv, hl, e⟩ := first_is n (act n s u k) h1 (act_lt n s u k h1)
    rw [e, act_act n s _ _ _ _ h1, act_norm n s _ _ h1, rest_mul]
    exact first_le n s _ _ h1 hs (Nat.mod_lt _ (by omega)) (unit_mul n (by omega) v hv u hu hgv hg) (rest_lt n _ h1)
  obtain ⟨v, l, hv, hgv, hl, e⟩ := act_back n s u k h1 h2 hs hu hg hk
  have a := key s u k hs hu hg hk
  have b := key (act n s u k) v l (act_lt n s u k h1) hv hgv hl
  rw [e] at b
  omega
theorem first_first (n s : Nat) (h1 : 1 ≤ n) (h2 : n ≤ 12) (hs : s < 2 ^ n) : firstN n (firstN n s) = firstN n s := by
  obtain ⟨u, k, hu, hg, hk, e⟩ := first_is n s h1 hs
  have h := first_act n s u k h1 h2 hs hu hg hk
  rw [← e] at h
  exact h
theorem first_self_le (n s : Nat) (h1 : 1 ≤ n) (hs : s < 2 ^ n) : firstN n s ≤ s := by
  obtain ⟨e, he, hg, hm⟩ := unit_one n h1
  have h := first_le n s e 0 h1 hs he hg h1
  rw [act_congr n s (e : Int) 1 ((0 : Nat) : Int) 0 hm rfl, act_id n s h1 hs] at h
  exact h
theorem orbit_iff (n s x : Nat) (h1 : 1 ≤ n) (h2 : n ≤ 12) (hs : s < 2 ^ n) (hx : x < 2 ^ n) (hf : firstN n s = s) :
    firstN n x = s ↔ ∃ u k, u < n ∧ Nat.gcd u n = 1 ∧ k < n ∧ act n s u k = x := by
  constructor
  · intro h
    obtain ⟨u, k, hu, hg, hk, e⟩ := first_is n x h1 hx
    obtain ⟨v, l, hv, hgv, hl, e'⟩ := act_back n x u k h1 h2 hx hu hg hk
    rw [← e, h] at e'
    exact ⟨v, l, hv, hgv, hl, e'⟩
  · rintro ⟨u, k, hu, hg, hk, rfl⟩
    rw [first_act n s u k h1 h2 hs hu hg hk, hf]
end Go.Proofs.YtecjhkpldcmlaaaDoor

/- The sizes of turned sets. -/
namespace Go.Proofs.YtecjhkpldcmlaaaDoor
open Go.RowKit
set_option linter.unusedVariables false
theorem size_turn_le (n s : Nat) (m : Int) (h1 : 1 ≤ n) (h2 : n ≤ 12) (hs : s < 2 ^ n) : sizeN (turnN n s m) ≤ sizeN s := by
  have h : ∀ j, sizeN (overSet s (turnS n m) j 0) ≤ cntB s j := by
    intro j
    induction j with
    | zero => simp [overSet, upto, sizeN, popF_zero, cntB]
    | succ j ih =>
      have e : overSet s (turnS n m) (j + 1) 0 = if s.testBit j then overSet s (turnS n m) j 0 ||| 2 ^ rest n ((j : Int) * m) else overSet s (turnS n m) j 0 := rfl
      have e' : cntB s (j + 1) = cntB s j + if s.testBit j then 1 else 0 := rfl
      rw [e, e']
      split
      · have := popF_or 40 (overSet s (turnS n m) j 0) (2 ^ rest n ((j : Int) * m))
        have hr := rest_lt n ((j : Int) * m) h1
        have hs := one_size (rest n ((j : Int) * m)) (by omega)
        unfold sizeN at *
        omega
      · simpa using ih
  have := h n
  rw [← popF_cnt, ← sizeN_of n s h2 hs] at this
  exact this
theorem turn_act (n s : Nat) (m : Int) : turnN n s m = act n s m 0 := turn_map n s m
def gcdB : Bool := (List.range 13).all fun n => (List.range 101).all fun a => n == 0 || Nat.gcd a n != 1 || (Nat.gcd (rest n (a : Int)) n == 1 && Nat.gcd (rest n (-(a : Int))) n == 1)
theorem gcd_all : gcdB = true := by decide +kernel
theorem gcd_rest (n a : Nat) (h1 : 1 ≤ n) (hn : n ≤ 12) (ha : a ≤ 100) (h : Nat.gcd a n = 1) : Nat.gcd (rest n (a : Int)) n = 1 ∧ Nat.gcd (rest n (-(a : Int))) n = 1 := by
  have g := gcd_all
  unfold gcdB at g
  rw [List.all_eq_true] at g
  have g1 := g n (List.mem_range.2 (by omega))
  rw [List.all_eq_true] at g1
  have g2 := g1 a (List.mem_range.2 (by omega))
  have hz : (n == 0) = false := by simp; omega
  rw [h, hz] at g2
  simpa using g2
theorem turn_unit (n s : Nat) (m : Int) (h1 : 1 ≤ n) (h2 : n ≤ 12) (hs : s < 2 ^ n) (hg : Nat.gcd (rest n m) n = 1) : sizeN (turnN n s m) = sizeN s := by
  have hu := rest_lt n m h1
  obtain ⟨v, hv, hgv, hi⟩ := unit_inv n (by omega) (rest n m) hu hg
  have hb : turnN n (turnN n s m) (v : Int) = s := by
    rw [turn_act, turn_act, act_act n s _ _ _ _ h1]
    have e : ((v : Int) * m) % (n : Int) = 1 % (n : Int) := by
      have hc := rest_cast n m h1
      have hi2 : (((rest n m * v % n : Nat)) : Int) = ((1 % n : Nat) : Int) := by rw [hi]
      rw [Int.natCast_emod, Int.natCast_mul, hc, Int.natCast_emod] at hi2
      rw [Int.mul_comm, Int.mul_emod, ← Int.emod_emod m, ← Int.mul_emod]
      exact hi2
    rw [act_congr n s _ 1 _ 0 e (by simp)]
    exact act_id n s h1 hs
  have a1 := size_turn_le n s m h1 h2 hs
  have a2 := size_turn_le n (turnN n s m) (v : Int) h1 h2 (turnN_lt n s m h1)
  rw [hb] at a2
  omega
theorem turn_few (n s : Nat) (m : Int) (h1 : 1 ≤ n) (h2 : n ≤ 12) (hs : s < 2 ^ n) (hf : sizeN s ≤ 1) : sizeN (turnN n s m) = sizeN s := by
  have a1 := size_turn_le n s m h1 h2 hs
  have hp := pow_le n h2
  by_cases h0 : s = 0
  · subst h0
    have : sizeN 0 = 0 := popF_zero 40
    omega
  · have hp1 := size_pos s (by omega) h0
    obtain ⟨v, hv⟩ := some_bit s h0
    have hl := lt_of_bits n s hs v hv
    have hb : (turnN n s m).testBit (rest n (m * (v : Int) + 0)) = true := by
      rw [turn_map, mapN_bit]
      exact ⟨v, hl, hv, rfl⟩
    have ht := turnN_lt n s m h1
    have := size_pos (turnN n s m) (by omega) (bit_ne hb)
    omega
end Go.Proofs.YtecjhkpldcmlaaaDoor
