/- Rows of places: sums of choices (the maths of chapter 9). -/
import Derived.Test.YtkddaecfljiehaaGP
namespace Go.Proofs.Ytkddaecfljiehaa
set_option linter.unusedVariables false
/-- The sum of the places of a choice of the first k positions. -/
def sumC (r : Nat → Nat) (c k : Nat) : Nat := sumTo (fun i => b2n (c.testBit i) * r i) k
def zsum (n : Nat) (r : Nat → Nat) (k c : Nat) : Nat := sumC r c k % n
theorem sumC_zero (r : Nat → Nat) (k : Nat) : sumC r 0 k = 0 := by
  unfold sumC
  induction k with
  | zero => rfl
  | succ k ih =>
    show sumTo (fun i => b2n ((0 : Nat).testBit i) * r i) k + b2n ((0 : Nat).testBit k) * r k = 0
    rw [ih, Nat.zero_testBit]
    simp [b2n]
theorem sumC_congr (r r' : Nat → Nat) (c c' k : Nat) (h : ∀ i, i < k → c.testBit i = c'.testBit i ∧ (c.testBit i = true → r i = r' i)) : sumC r c k = sumC r' c' k :=
  sumTo_congr _ _ k fun i hi => by
    obtain ⟨a, b⟩ := h i hi
    show b2n (c.testBit i) * r i = b2n (c'.testBit i) * r' i
    rw [← a]
    cases hb : c.testBit i
    · simp [b2n]
    · rw [b hb]
theorem sumC_lo (r : Nat → Nat) (c k : Nat) (hc : c < 2 ^ k) : sumC r c (k + 1) = sumC r c k := by
  show sumC r c k + b2n (c.testBit k) * r k = sumC r c k
  rw [Nat.testBit_lt_two_pow hc]
  simp [b2n]
theorem sumC_hi (r : Nat → Nat) (c k : Nat) (hc : c < 2 ^ k) : sumC r (2 ^ k + c) (k + 1) = sumC r c k + r k := by
  show sumC r (2 ^ k + c) k + b2n ((2 ^ k + c).testBit k) * r k = _
  rw [Nat.testBit_two_pow_add_eq, Nat.testBit_lt_two_pow hc, sumC_congr r r (2 ^ k + c) c k fun i hi => ⟨Nat.testBit_two_pow_add_gt hi c, fun _ => rfl⟩]
  simp [b2n]
theorem sumC_far (r : Nat → Nat) (c j k : Nat) (hc : c < 2 ^ j) (hjk : j ≤ k) : sumC r c k = sumC r c j := by
  induction k with
  | zero => obtain rfl : j = 0 := by omega
            rfl
  | succ k ih =>
    by_cases e : j = k + 1
    · rw [e]
    · rw [sumC_lo r c k (Nat.lt_of_lt_of_le hc (Nat.pow_le_pow_right (by omega) (by omega))), ih (by omega)]
/-- Sums of parts without a common position add up. -/
theorem sumC_or (r : Nat → Nat) (c d k : Nat) (h : c &&& d = 0) : sumC r (c ||| d) k = sumC r c k + sumC r d k := by
  unfold sumC
  rw [← sumTo_add]
  refine sumTo_congr _ _ k fun i hi => ?_
  have hb : (c &&& d).testBit i = false := by rw [h, Nat.zero_testBit]
  rw [Nat.testBit_and] at hb
  rw [Nat.testBit_or]
  cases hc : c.testBit i <;> cases hd : d.testBit i
  · simp [b2n]
  · simp [b2n]
  · simp [b2n]
  · rw [hc, hd] at hb; cases hb
theorem row_hit (n v w i : Nat) (h1 : 1 ≤ n) (h2 : n ≤ 12) (hv : v < n) (hw : w < n) (hi : i < n) : (w + v) % n = i ↔ w = rest n ((i : Int) - (v : Int)) := by
  have e := rest_cast n ((i : Int) - (v : Int)) h1
  generalize rest n ((i : Int) - (v : Int)) = a at *
  have h : n = 1 ∨ n = 2 ∨ n = 3 ∨ n = 4 ∨ n = 5 ∨ n = 6 ∨ n = 7 ∨ n = 8 ∨ n = 9 ∨ n = 10 ∨ n = 11 ∨ n = 12 := by omega
  rcases h with rfl | rfl | rfl | rfl | rfl | rfl | rfl | rfl | rfl | rfl | rfl | rfl <;> omega
/-- The choices of the first k positions with a sum. -/
def countN (n : Nat) (r : Nat → Nat) (k v : Nat) : Nat := cntP (fun c => Nat.beq (zsum n r k c) v) (2 ^ k)
theorem cnt_add (p : Nat → Bool) (a b : Nat) : cntP p (a + b) = cntP p a + cntP (fun i => p (a + i)) b := by
  induction b with
  | zero => rfl
  | succ b ih =>
    show (if p (a + b) then cntP p (a + b) + 1 else cntP p (a + b)) = cntP p a + (if p (a + b) then cntP (fun i => p (a + i)) b + 1 else cntP (fun i => p (a + i)) b)
    rw [ih]
    split <;> omega
theorem count_step (n : Nat) (r : Nat → Nat) (k v : Nat) (h1 : 1 ≤ n) (h2 : n ≤ 12) (hv : v < n) (hr : r k < n) :
    countN n r (k + 1) v = countN n r k v + countN n r k (rest n ((v : Int) - (r k : Int))) := by
  unfold countN
  rw [show 2 ^ (k + 1) = 2 ^ k + 2 ^ k by rw [Nat.pow_succ, Nat.mul_two], cnt_add]
  congr 1
  · exact cnt_congr _ _ _ fun c hc => by unfold zsum; rw [sumC_lo r c k hc]
  · refine cnt_congr _ _ _ fun c hc => ?_
    show Nat.beq (zsum n r (k + 1) (2 ^ k + c)) v = Nat.beq (zsum n r k c) (rest n ((v : Int) - (r k : Int)))
    have e : zsum n r (k + 1) (2 ^ k + c) = (zsum n r k c + r k) % n := by
      unfold zsum
      rw [sumC_hi r c k hc, Nat.mod_add_mod]
    rw [e]
    have hz : zsum n r k c < n := Nat.mod_lt _ h1
    have := row_hit n (r k) (zsum n r k c) v h1 h2 hr hz hv
    rw [Bool.eq_iff_iff]
    exact ⟨fun h => by rw [← this.1 (Nat.eq_of_beq_eq_true h)]; exact Nat.beq_refl _, fun h => by rw [this.2 (Nat.eq_of_beq_eq_true h)]; exact Nat.beq_refl _⟩
theorem count_none (n : Nat) (r : Nat → Nat) (v : Nat) (h1 : 1 ≤ n) : countN n r 0 v = if v = 0 then 1 else 0 := by
  show (if Nat.beq (0 % n) v then 0 + 1 else 0) = _
  rw [Nat.zero_mod]
  by_cases hv : v = 0
  · subst hv; rfl
  · rw [if_neg hv]
    have : Nat.beq 0 v = false := by
      cases hc : Nat.beq 0 v
      · rfl
      · exact absurd (Nat.eq_of_beq_eq_true hc).symm hv
    rw [this]; rfl
theorem cntP_sum (p : Nat → Bool) (k : Nat) : cntP p k = sumTo (fun c => b2n (p c)) k := by
  induction k with
  | zero => rfl
  | succ k ih =>
    show (if p k then cntP p k + 1 else cntP p k) = sumTo (fun c => b2n (p c)) k + b2n (p k)
    rw [ih]
    cases p k <;> simp [b2n]
theorem beq_once (n p : Nat) (hp : p < n) : sumTo (fun i => b2n (Nat.beq p i)) n = 1 := by
  rw [sum_at _ p n fun w hw hn => ?_, if_pos hp, Nat.beq_refl]
  · rfl
  · show b2n (Nat.beq p w) = 0
    cases hc : Nat.beq p w
    · rfl
    · exact absurd (Nat.eq_of_beq_eq_true hc).symm hn
theorem count_total (n : Nat) (r : Nat → Nat) (k : Nat) (h1 : 1 ≤ n) : sumTo (fun v => countN n r k v) n = 2 ^ k := by
  have e : sumTo (fun v => countN n r k v) n = sumTo (fun v => sumTo (fun c => b2n (Nat.beq (zsum n r k c) v)) (2 ^ k)) n := sumTo_congr _ _ n fun v hv => cntP_sum _ _
  rw [e, sumTo_swap]
  have e2 : sumTo (fun c => sumTo (fun v => b2n (Nat.beq (zsum n r k c) v)) n) (2 ^ k) = sumTo (fun _ => 1) (2 ^ k) := sumTo_congr _ _ _ fun c hc => beq_once n _ (Nat.mod_lt _ h1)
  rw [e2]
  have : ∀ N, sumTo (fun _ => 1) N = N := by
    intro N
    induction N with
    | zero => rfl
    | succ N ih => show sumTo (fun _ => 1) N + 1 = N + 1; rw [ih]
  exact this _
/-- The least choice that is not empty and has the sum 0; 0 if there is none. -/
def zeroP (n : Nat) (r : Nat → Nat) (k c : Nat) : Bool := Nat.beq (zsum n r k c) 0
def zfirst (n : Nat) (r : Nat → Nat) (k : Nat) : Nat := firstP (zeroP n r k) (2 ^ k)
def plainB (n : Nat) (r : Nat → Nat) (k : Nat) : Bool := Nat.beq (zfirst n r k) 0
theorem zeroP_iff (n : Nat) (r : Nat → Nat) (k c : Nat) : zeroP n r k c = true ↔ zsum n r k c = 0 := ⟨fun h => Nat.eq_of_beq_eq_true h, fun h => by unfold zeroP; rw [h]; rfl⟩
theorem cnt_only (p : Nat → Bool) (N : Nat) (h1 : 1 ≤ N) (h0 : p 0 = true) : (cntP p N = 1 ↔ firstP p N = 0) ∧ 1 ≤ cntP p N := by
  induction N with
  | zero => omega
  | succ N ih =>
    by_cases hN : N = 0
    · subst hN
      have e1 : cntP p 1 = 1 := by show (if p 0 then 0 + 1 else 0) = 1; rw [h0]; rfl
      have e2 : firstP p 1 = 0 := by show (if (0 : Nat) = 0 then (if p 0 then 0 else 0) else 0) = 0; simp
      exact ⟨⟨fun _ => e2, fun _ => e1⟩, by rw [e1]; exact Nat.le_refl _⟩
    · obtain ⟨a, b⟩ := ih (by omega)
      have e1 : cntP p (N + 1) = if p N then cntP p N + 1 else cntP p N := rfl
      have e2 : firstP p (N + 1) = if firstP p N = 0 then (if p N then N else 0) else firstP p N := rfl
      cases hp : p N
      · rw [hp] at e1 e2
        have e3 : firstP p (N + 1) = firstP p N := by
          rw [e2]
          by_cases hf : firstP p N = 0
          · rw [if_pos hf, hf]; rfl
          · rw [if_neg hf]
        have e4 : cntP p (N + 1) = cntP p N := e1
        rw [e3, e4]
        exact ⟨a, b⟩
      · rw [hp] at e1 e2
        have e4 : cntP p (N + 1) = cntP p N + 1 := e1
        refine ⟨⟨fun h => by omega, fun h => ?_⟩, by omega⟩
        rw [e2] at h
        by_cases hf : firstP p N = 0
        · rw [if_pos hf, if_pos rfl] at h; omega
        · rw [if_neg hf] at h; exact absurd h hf
theorem count_plain (n : Nat) (r : Nat → Nat) (k : Nat) (h1 : 1 ≤ n) : countN n r k 0 = 1 ↔ zfirst n r k = 0 :=
  (cnt_only (zeroP n r k) (2 ^ k) (Nat.two_pow_pos k) ((zeroP_iff n r k 0).2 (by unfold zsum; rw [sumC_zero, Nat.zero_mod]))).1
theorem zfirst_none (n : Nat) (r : Nat → Nat) (k c : Nat) (h : zfirst n r k = 0) (hc : c < 2 ^ k) (h0 : c ≠ 0) : zsum n r k c ≠ 0 := fun e =>
  firstP_some (zeroP n r k) (2 ^ k) c hc h0 ((zeroP_iff n r k c).2 e) h
theorem firstP_le (p : Nat → Bool) (i j : Nat) (hj : j < i) (h0 : j ≠ 0) (hp : p j = true) : firstP p i ≤ j := by
  induction i with
  | zero => omega
  | succ i ih =>
    have e : firstP p (i + 1) = if firstP p i = 0 then (if p i then i else 0) else firstP p i := rfl
    rw [e]
    by_cases hji : j = i
    · subst hji
      by_cases hz : firstP p j = 0
      · rw [if_pos hz, if_pos hp]; exact Nat.le_refl _
      · rw [if_neg hz]
        have := (firstP_is p j hz).2
        omega
    · have := ih (by omega)
      have h2 := firstP_some p i j (by omega) h0 hp
      rw [if_neg h2]; exact this
/-- The sums of all choices of the positions of m below j. -/
def spanM (n : Nat) (r : Nat → Nat) (m : Nat) : Nat → Nat
  | 0 => 1
  | j + 1 => if m.testBit j then spanM n r m j ||| shiftN n (spanM n r m j) (r j : Int) else spanM n r m j
theorem span_lt (n : Nat) (r : Nat → Nat) (m j : Nat) (h1 : 1 ≤ n) : spanM n r m j < 2 ^ n := by
  induction j with
  | zero =>
    have := Nat.pow_le_pow_right (n := 2) (by omega) h1
    show 1 < 2 ^ n
    omega
  | succ j ih =>
    unfold spanM
    split
    · exact Nat.or_lt_two_pow ih (shiftN_lt n _ _)
    · exact ih
/-- A choice within m, of positions below j, with the sum v. -/
def HasC (n : Nat) (r : Nat → Nat) (m j v : Nat) : Prop := ∃ c, c < 2 ^ j ∧ (∀ i, c.testBit i = true → m.testBit i = true) ∧ zsum n r j c = v
theorem has_step (n : Nat) (r : Nat → Nat) (m j v : Nat) (h1 : 1 ≤ n) (h2 : n ≤ 12) (hr : r j < n) (hv : v < n) (hm : m.testBit j = true) :
    HasC n r m j v ∨ HasC n r m j (rest n ((v : Int) - (r j : Int))) → HasC n r m (j + 1) v := by
  have hp : 2 ^ (j + 1) = 2 ^ j + 2 ^ j := by rw [Nat.pow_succ, Nat.mul_two]
  rintro (⟨c, hc, hs, hz⟩ | ⟨c, hc, hs, hz⟩)
  · exact ⟨c, by omega, hs, by unfold zsum at hz ⊢; rw [sumC_lo r c j hc]; exact hz⟩
  · refine ⟨2 ^ j + c, by omega, fun i hi => ?_, ?_⟩
    · by_cases e : i < j
      · rw [Nat.testBit_two_pow_add_gt e] at hi
        exact hs i hi
      · by_cases e2 : i = j
        · subst e2; exact hm
        · rw [Nat.testBit_lt_two_pow (Nat.lt_of_lt_of_le (show 2 ^ j + c < 2 ^ (j + 1) by omega) (Nat.pow_le_pow_right (by omega) (by omega)))] at hi
          cases hi
    · unfold zsum
      rw [sumC_hi r c j hc, ← Nat.mod_add_mod]
      exact (row_hit n (r j) _ v h1 h2 hr (Nat.mod_lt _ h1) hv).2 hz
theorem has_more (n : Nat) (r : Nat → Nat) (m j v : Nat) : HasC n r m j v → HasC n r m (j + 1) v := by
  rintro ⟨c, hc, hs, hz⟩
  refine ⟨c, Nat.lt_of_lt_of_le hc (Nat.pow_le_pow_right (by omega) (by omega)), hs, ?_⟩
  unfold zsum at hz ⊢
  rw [sumC_lo r c j hc]; exact hz
theorem span_has (n : Nat) (r : Nat → Nat) (m j v : Nat) (h1 : 1 ≤ n) (h2 : n ≤ 12) (hr : ∀ i, r i < n) (hv : v < n) (h : (spanM n r m j).testBit v = true) : HasC n r m j v := by
  induction j generalizing v with
  | zero =>
    have h' : (1 : Nat).testBit v = true := h
    have hv0 : v = 0 := by
      cases v with
      | zero => rfl
      | succ v => rw [Nat.testBit_succ] at h'; simp at h'
    exact ⟨0, by omega, fun i hi => (by rw [Nat.zero_testBit] at hi; cases hi), by unfold zsum; rw [sumC_zero, Nat.zero_mod, hv0]⟩
  | succ j ih =>
    unfold spanM at h
    by_cases hm : m.testBit j = true
    · rw [if_pos hm, Nat.testBit_or, Bool.or_eq_true, shift_mem n _ _ h1 (span_lt n r m j h1) v hv] at h
      refine has_step n r m j v h1 h2 (hr j) hv hm ?_
      rcases h with h | h
      · exact .inl (ih v hv h)
      · exact .inr (ih _ (rest_lt n _ h1) h)
    · rw [if_neg hm] at h
      exact has_more n r m j v (ih v hv h)
theorem span_zero (n : Nat) (r : Nat → Nat) (m j : Nat) : (spanM n r m j).testBit 0 = true := by
  induction j with
  | zero => show (1 : Nat).testBit 0 = true; decide
  | succ j ih =>
    unfold spanM
    split
    · rw [Nat.testBit_or, ih]; rfl
    · exact ih
theorem turn_round (n x j : Nat) (S : Nat) (h1 : 1 ≤ n) (h2 : n ≤ 12) (hx : x < n) (hS : S < 2 ^ n) (h0 : S.testBit 0 = true) (hc : ∀ v, v < n → S.testBit (rest n ((v : Int) - (x : Int))) = true → S.testBit v = true) : S.testBit (j * x % n) = true := by
  induction j with
  | zero => rw [Nat.zero_mul, Nat.zero_mod]; exact h0
  | succ j ih =>
    refine hc _ (Nat.mod_lt _ h1) ?_
    have e := (row_hit n x (j * x % n) ((j + 1) * x % n) h1 h2 hx (Nat.mod_lt _ h1) (Nat.mod_lt _ h1)).1 (by rw [Nat.mod_add_mod, Nat.succ_mul])
    rw [← e]; exact ih
theorem back_round (n x : Nat) (h1 : 1 ≤ n) (h2 : n ≤ 12) (hx : x < n) : ((n - 1) * x % n + x) % n = 0 := by
  rw [Nat.mod_add_mod, ← Nat.succ_mul, show (n - 1).succ = n by omega, Nat.mul_comm, Nat.mul_mod_left]
theorem cntB_step (b j : Nat) : cntB b (j + 1) = cntB b j + if b.testBit j then 1 else 0 := rfl
/-- Where no part of m but the empty one has the sum 0, each position has a sum more. -/
theorem span_grow (n : Nat) (r : Nat → Nat) (m k : Nat) (h1 : 1 ≤ n) (h2 : n ≤ 12) (hr : ∀ i, r i < n) (hp : ∀ c, c < 2 ^ k → c ≠ 0 → (∀ i, c.testBit i = true → m.testBit i = true) → zsum n r k c ≠ 0) :
    cntB m k + 1 ≤ sizeN (spanM n r m k) := by
  induction k with
  | zero => show 0 + 1 ≤ sizeN 1; decide
  | succ k ih =>
    have hpow : 2 ^ (k + 1) = 2 ^ k + 2 ^ k := by rw [Nat.pow_succ, Nat.mul_two]
    have hi := ih fun c hc h0 hs hz => hp c (by omega) h0 hs (by unfold zsum at hz ⊢; rw [sumC_lo r c k hc]; exact hz)
    have hS := span_lt n r m k h1
    have hT := span_lt n r m (k + 1) h1
    rw [cntB_step]
    by_cases hm : m.testBit k = true
    · rw [if_pos hm]
      have e : spanM n r m (k + 1) = spanM n r m k ||| shiftN n (spanM n r m k) (r k : Int) := by
        show (if m.testBit k then _ else _) = _
        rw [if_pos hm]
      by_cases hlt : sizeN (spanM n r m k) < sizeN (spanM n r m (k + 1))
      · omega
      · exfalso
        have hsame : spanM n r m k = spanM n r m (k + 1) := popF_same n _ _ hS hT (fun i hi => by rw [e, Nat.testBit_or, hi]; rfl) (by rw [← sizeN_of n _ h2 hS, ← sizeN_of n _ h2 hT]; omega)
        have hc : ∀ v, v < n → (spanM n r m k).testBit (rest n ((v : Int) - (r k : Int))) = true → (spanM n r m k).testBit v = true := fun v hv hb => by
          rw [hsame, e, Nat.testBit_or, shift_mem n _ _ h1 hS v hv, hb, Bool.or_true]
        have hb := turn_round n (r k) (n - 1) _ h1 h2 (hr k) hS (span_zero n r m k) hc
        obtain ⟨c, hc1, hc2, hc3⟩ := span_has n r m k _ h1 h2 hr (Nat.mod_lt _ h1) hb
        refine hp (2 ^ k + c) (by omega) (by have := Nat.two_pow_pos k; omega) (fun i hi => ?_) ?_
        · by_cases e : i < k
          · rw [Nat.testBit_two_pow_add_gt e] at hi
            exact hc2 i hi
          · by_cases e2 : i = k
            · subst e2; exact hm
            · rw [Nat.testBit_lt_two_pow (Nat.lt_of_lt_of_le (show 2 ^ k + c < 2 ^ (k + 1) by omega) (Nat.pow_le_pow_right (by omega) (by omega)))] at hi
              cases hi
        · unfold zsum at hc3 ⊢
          rw [sumC_hi r c k hc1, ← Nat.mod_add_mod, hc3]
          exact back_round n (r k) h1 h2 (hr k)
    · have e : spanM n r m (k + 1) = spanM n r m k := by
        show (if m.testBit k then _ else _) = _
        rw [if_neg hm]
      rw [if_neg hm, e, Nat.add_zero]
      exact hi
/-- n positions have a part with the sum 0. -/
theorem row_zero (n : Nat) (r : Nat → Nat) (m k : Nat) (h1 : 1 ≤ n) (h2 : n ≤ 12) (hr : ∀ i, r i < n) (hm : n ≤ cntB m k) :
    ∃ c, c < 2 ^ k ∧ c ≠ 0 ∧ (∀ i, c.testBit i = true → m.testBit i = true) ∧ zsum n r k c = 0 := by
  by_cases h : ∃ c, c < 2 ^ k ∧ c ≠ 0 ∧ (∀ i, c.testBit i = true → m.testBit i = true) ∧ zsum n r k c = 0
  · exact h
  · exfalso
    have a := span_grow n r m k h1 h2 hr fun c hc h0 hs hz => h ⟨c, hc, h0, hs, hz⟩
    have b := sizeN_le n _ h2 (span_lt n r m k h1)
    omega
end Go.Proofs.Ytkddaecfljiehaa
