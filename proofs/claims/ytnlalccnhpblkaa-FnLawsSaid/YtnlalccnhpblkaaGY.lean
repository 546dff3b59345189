/- Texts of mine, laid together: ZerM ZerE ZerL ZerR ZerA ZerB. -/
import Derived.Test.YtnlalccnhpblkaaGP
import Derived.Test.YtnlalccnhpblkaaGC
import Derived.Test.YtnlalccnhpblkaaGG
/- Rows of places: sums of choices (the maths of chapter 9). -/
namespace Go.Proofs.Ytnlalccnhpblkaa
set_option linter.unusedVariables false
/-- The sum of the places of a choice of the first k positions. -/
def sumC (r : Nat → Nat) (c k : Nat) : Nat := sumTo (fun i => b2n (c.testBit i) * r i) k
def zsum (n : Nat) (r : Nat → Nat) (k c : Nat) : Nat := sumC r c k % n
theorem sumC_zero (r : Nat → Nat) (k : Nat) : sumC r 0 k = 0 := by
  unfold sumC
  induction k with
  | zero => rfl
  | succ k ih =>
    show sumTo (fun i => b2n ((0 : Nat).testBit i) * r i) k + b2n ((0 : Nat).testBit k) * r k = 0
    rw [ih, Nat.zero_testBit]
    simp [b2n]
theorem sumC_congr (r r' : Nat → Nat) (c c' k : Nat) (h : ∀ i, i < k → c.testBit i = c'.testBit i ∧ (c.testBit i = true → r i = r' i)) : sumC r c k = sumC r' c' k :=
  sumTo_congr _ _ k fun i hi => by
    obtain ⟨a, b⟩ := h i hi
    show b2n (c.testBit i) * r i = b2n (c'.testBit i) * r' i
    rw [← a]
    cases hb : c.testBit i
    · simp [b2n]
    · rw [b hb]
theorem sumC_lo (r : Nat → Nat) (c k : Nat) (hc : c < 2 ^ k) : sumC r c (k + 1) = sumC r c k := by
  show sumC r c k + b2n (c.testBit k) * r k = sumC r c k
  rw [Nat.testBit_lt_two_pow hc]
  simp [b2n]
theorem sumC_hi (r : Nat → Nat) (c k : Nat) (hc : c < 2 ^ k) : sumC r (2 ^ k + c) (k + 1) = sumC r c k + r k := by
  show sumC r (2 ^ k + c) k + b2n ((2 ^ k + c).testBit k) * r k = _
  rw [Nat.testBit_two_pow_add_eq, Nat.testBit_lt_two_pow hc, sumC_congr r r (2 ^ k + c) c k fun i hi => ⟨Nat.testBit_two_pow_add_gt hi c, fun _ => rfl⟩]
  simp [b2n]
theorem sumC_far (r : Nat → Nat) (c j k : Nat) (hc : c < 2 ^ j) (hjk : j ≤ k) : sumC r c k = sumC r c j := by
  induction k with
  | zero => obtain rfl : j = 0 := by omega
            rfl
  | succ k ih =>
    by_cases e : j = k + 1
    · rw [e]
    · rw [sumC_lo r c k (Nat.lt_of_lt_of_le hc (Nat.pow_le_pow_right (by omega) (by omega))), ih (by omega)]
/-- Sums of parts without a common position add up. -/
theorem sumC_or (r : Nat → Nat) (c d k : Nat) (h : c &&& d = 0) : sumC r (c ||| d) k = sumC r c k + sumC r d k := by
  unfold sumC
  rw [← sumTo_add]
  refine sumTo_congr _ _ k fun i hi => ?_
  have hb : (c &&& d).testBit i = false := by rw [h, Nat.zero_testBit]
  rw [Nat.testBit_and] at hb
  rw [Nat.testBit_or]
  cases hc : c.testBit i <;> cases hd : d.testBit i
  · simp [b2n]
  · simp [b2n]
  · simp [b2n]
  · rw [hc, hd] at hb; cases hb
theorem row_hit (n v w i : Nat) (h1 : 1 ≤ n) (h2 : n ≤ 12) (hv : v < n) (hw : w < n) (hi : i < n) : (w + v) % n = i ↔ w = rest n ((i : Int) - (v : Int)) := by
  have e := rest_cast n ((i : Int) - (v : Int)) h1
  generalize rest n ((i : Int) - (v : Int)) = a at *
  have h : n = 1 ∨ n = 2 ∨ n = 3 ∨ n = 4 ∨ n = 5 ∨ n = 6 ∨ n = 7 ∨ n = 8 ∨ n = 9 ∨ n = 10 ∨ n = 11 ∨ n = 12 := by omega
  rcases h with rfl | rfl | rfl | rfl | rfl | rfl | rfl | rfl | rfl | rfl | rfl | rfl <;> omega
/-- The choices of the first k positions with a sum. -/
def countN (n : Nat) (r : Nat → Nat) (k v : Nat) : Nat := cntP (fun c => Nat.beq (zsum n r k c) v) (2 ^ k)
theorem cnt_add (p : Nat → Bool) (a b : Nat) : cntP p (a + b) = cntP p a + cntP (fun i => p (a + i)) b := by
  induction b with
  | zero => rfl
  | succ b ih =>
    show (if p (a + b) then cntP p (a + b) + 1 else cntP p (a + b)) = cntP p a + (if p (a + b) then cntP (fun i => p (a + i)) b + 1 else cntP (fun i => p (a + i)) b)
    rw [ih]
    split <;> omega
theorem count_step (n : Nat) (r : Nat → Nat) (k v : Nat) (h1 : 1 ≤ n) (h2 : n ≤ 12) (hv : v < n) (hr : r k < n) :
    countN n r (k + 1) v = countN n r k v + countN n r k (rest n ((v : Int) - (r k : Int))) := by
  unfold countN
  rw [show 2 ^ (k + 1) = 2 ^ k + 2 ^ k by rw [Nat.pow_succ, Nat.mul_two], cnt_add]
  congr 1
  · exact cnt_congr _ _ _ fun c hc => by unfold zsum; rw [sumC_lo r c k hc]
  · refine cnt_congr _ _ _ fun c hc => ?_
    show Nat.beq (zsum n r (k + 1) (2 ^ k + c)) v = Nat.beq (zsum n r k c) (rest n ((v : Int) - (r k : Int)))
    have e : zsum n r (k + 1) (2 ^ k + c) = (zsum n r k c + r k) % n := by
      unfold zsum
      rw [sumC_hi r c k hc, Nat.mod_add_mod]
    rw [e]
    have hz : zsum n r k c < n := Nat.mod_lt _ h1
    have := row_hit n (r k) (zsum n r k c) v h1 h2 hr hz hv
    rw [Bool.eq_iff_iff]
    exact ⟨fun h => by rw [← this.1 (Nat.eq_of_beq_eq_true h)]; exact Nat.beq_refl _, fun h => by rw [this.2 (Nat.eq_of_beq_eq_true h)]; exact Nat.beq_refl _⟩
theorem count_none (n : Nat) (r : Nat → Nat) (v : Nat) (h1 : 1 ≤ n) : countN n r 0 v = if v = 0 then 1 else 0 := by
  show (if Nat.beq (0 % n) v then 0 + 1 else 0) = _
  rw [Nat.zero_mod]
  by_cases hv : v = 0
  · subst hv; rfl
  · rw [if_neg hv]
    have : Nat.beq 0 v = false := by
      cases hc : Nat.beq 0 v
      · rfl
      · exact absurd (Nat.eq_of_beq_eq_true hc).symm hv
    rw [this]; rfl
theorem cntP_sum (p : Nat → Bool) (k : Nat) : cntP p k = sumTo (fun c => b2n (p c)) k := by
  induction k with
  | zero => rfl
  | succ k ih =>
    show (if p k then cntP p k + 1 else cntP p k) = sumTo (fun c => b2n (p c)) k + b2n (p k)
    rw [ih]
    cases p k <;> simp [b2n]
theorem beq_once (n p : Nat) (hp : p < n) : sumTo (fun i => b2n (Nat.beq p i)) n = 1 := by
  rw [sum_at _ p n fun w hw hn => ?_, if_pos hp, Nat.beq_refl]
  · rfl
  · show b2n (Nat.beq p w) = 0
    cases hc : Nat.beq p w
    · rfl
    · exact absurd (Nat.eq_of_beq_eq_true hc).symm hn
theorem count_total (n : Nat) (r : Nat → Nat) (k : Nat) (h1 : 1 ≤ n) : sumTo (fun v => countN n r k v) n = 2 ^ k := by
  have e : sumTo (fun v => countN n r k v) n = sumTo (fun v => sumTo (fun c => b2n (Nat.beq (zsum n r k c) v)) (2 ^ k)) n := sumTo_congr _ _ n fun v hv => cntP_sum _ _
  rw [e, sumTo_swap]
  have e2 : sumTo (fun c => sumTo (fun v => b2n (Nat.beq (zsum n r k c) v)) n) (2 ^ k) = sumTo (fun _ => 1) (2 ^ k) := sumTo_congr _ _ _ fun c hc => beq_once n _ (Nat.mod_lt _ h1)
  rw [e2]
  have : ∀ N, sumTo (fun _ => 1) N = N := by
    intro N
    induction N with
    | zero => rfl
    | succ N ih => show sumTo (fun _ => 1) N + 1 = N + 1; rw [ih]
  exact this _
/-- The least choice that is not empty and has the sum 0; 0 if there is none. -/
def zeroP (n : Nat) (r : Nat → Nat) (k c : Nat) : Bool := Nat.beq (zsum n r k c) 0
def zfirst (n : Nat) (r : Nat → Nat) (k : Nat) : Nat := firstP (zeroP n r k) (2 ^ k)
def plainB (n : Nat) (r : Nat → Nat) (k : Nat) : Bool := Nat.beq (zfirst n r k) 0
theorem zeroP_iff (n : Nat) (r : Nat → Nat) (k c : Nat) : zeroP n r k c = true ↔ zsum n r k c = 0 := ⟨fun h => Nat.eq_of_beq_eq_true h, fun h => by unfold zeroP; rw [h]; rfl⟩
theorem cnt_only (p : Nat → Bool) (N : Nat) (h1 : 1 ≤ N) (h0 : p 0 = true) : (cntP p N = 1 ↔ firstP p N = 0) ∧ 1 ≤ cntP p N := by
  induction N with
  | zero => omega
  | succ N ih =>
    by_cases hN : N = 0
    · subst hN
      have e1 : cntP p 1 = 1 := by show (if p 0 then 0 + 1 else 0) = 1; rw [h0]; rfl
      have e2 : firstP p 1 = 0 := by show (if (0 : Nat) = 0 then (if p 0 then 0 else 0) else 0) = 0; simp
      exact ⟨⟨fun _ => e2, fun _ => e1⟩, by rw [e1]; exact Nat.le_refl _⟩
    · obtain ⟨a, b⟩ := ih (by omega)
      have e1 : cntP p (N + 1) = if p N then cntP p N + 1 else cntP p N := rfl
      have e2 : firstP p (N + 1) = if firstP p N = 0 then (if p N then N else 0) else firstP p N := rfl
      cases hp : p N
      · rw [hp] at e1 e2
        have e3 : firstP p (N + 1) = firstP p N := by
          rw [e2]
          by_cases hf : firstP p N = 0
          · rw [if_pos hf, hf]; rfl
          · rw [if_neg hf]
        have e4 : cntP p (N + 1) = cntP p N := e1
        rw [e3, e4]
        exact ⟨a, b⟩
      · rw [hp] at e1 e2
        have e4 : cntP p (N + 1) = cntP p N + 1 := e1
        refine ⟨⟨fun h => by omega, fun h => ?_⟩, by omega⟩
        rw [e2] at h
        by_cases hf : firstP p N = 0
        · rw [if_pos hf, if_pos rfl] at h; omega
        · rw [if_neg hf] at h; exact absurd h hf
theorem count_plain (n : Nat) (r : Nat → Nat) (k : Nat) (h1 : 1 ≤ n) : countN n r k 0 = 1 ↔ zfirst n r k = 0 :=
  (cnt_only (zeroP n r k) (2 ^ k) (Nat.two_pow_pos k) ((zeroP_iff n r k 0).2 (by unfold zsum; rw [sumC_zero, Nat.zero_mod]))).1
theorem zfirst_none (n : Nat) (r : Nat → Nat) (k c : Nat) (h : zfirst n r k = 0) (hc : c < 2 ^ k) (h0 : c ≠ 0) : zsum n r k c ≠ 0 := fun e =>
  firstP_some (zeroP n r k) (2 ^ k) c hc h0 ((zeroP_iff n r k c).2 e) h
theorem firstP_le (p : Nat → Bool) (i j : Nat) (hj : j < i) (h0 : j ≠ 0) (hp : p j = true) : firstP p i ≤ j := by
  induction i with
  | zero => omega
  | succ i ih =>
    have e : firstP p (i + 1) = if firstP p i = 0 then (if p i then i else 0) else firstP p i := rfl
    rw [e]
    by_cases hji : j = i
    · subst hji
      by_cases hz : firstP p j = 0
      · rw [if_pos hz, if_pos hp]; exact Nat.le_refl _
      · rw [if_neg hz]
        have := (firstP_is p j hz).2
        omega
    · have := ih (by omega)
      have h2 := firstP_some p i j (by omega) h0 hp
      rw [if_neg h2]; exact this
/-- The sums of all choices of the positions of m below j. -/
def spanM (n : Nat) (r : Nat → Nat) (m : Nat) : Nat → Nat
  | 0 => 1
  | j + 1 => if m.testBit j then spanM n r m j ||| shiftN n (spanM n r m j) (r j : Int) else spanM n r m j
theorem span_lt (n : Nat) (r : Nat → Nat) (m j : Nat) (h1 : 1 ≤ n) : spanM n r m j < 2 ^ n := by
  induction j with
  | zero =>
    have := Nat.pow_le_pow_right (n := 2) (by omega) h1
    show 1 < 2 ^ n
    omega
  | succ j ih =>
    unfold spanM
    split
    · exact Nat.or_lt_two_pow ih (shiftN_lt n _ _)
    · exact ih
/-- A choice within m, of positions below j, with the sum v. -/
def HasC (n : Nat) (r : Nat → Nat) (m j v : Nat) : Prop := ∃ c, c < 2 ^ j ∧ (∀ i, c.testBit i = true → m.testBit i = true) ∧ zsum n r j c = v
theorem has_step (n : Nat) (r : Nat → Nat) (m j v : Nat) (h1 : 1 ≤ n) (h2 : n ≤ 12) (hr : r j < n) (hv : v < n) (hm : m.testBit j = true) :
    HasC n r m j v ∨ HasC n r m j (rest n ((v : Int) - (r j : Int))) → HasC n r m (j + 1) v := by
  have hp : 2 ^ (j + 1) = 2 ^ j + 2 ^ j := by rw [Nat.pow_succ, Nat.mul_two]
  rintro (⟨c, hc, hs, hz⟩ | ⟨c, hc, hs, hz⟩)
  · exact ⟨c, by omega, hs, by unfold zsum at hz ⊢; rw [sumC_lo r c j hc]; exact hz⟩
  · refine ⟨2 ^ j + c, by omega, fun i hi => ?_, ?_⟩
    · by_cases e : i < j
      · rw [Nat.testBit_two_pow_add_gt e] at hi
        exact hs i hi
      · by_cases e2 : i = j
        · subst e2; exact hm
        · rw [Nat.testBit_lt_two_pow (Nat.lt_of_lt_of_le (show 2 ^ j + c < 2 ^ (j + 1) by omega) (Nat.pow_le_pow_right (by omega) (by omega)))] at hi
          cases hi
    · unfold zsum
      rw [sumC_hi r c j hc, ← Nat.mod_add_mod]
      exact (row_hit n (r j) _ v h1 h2 hr (Nat.mod_lt _ h1) hv).2 hz
theorem has_more (n : Nat) (r : Nat → Nat) (m j v : Nat) : HasC n r m j v → HasC n r m (j + 1) v := by
  rintro ⟨c, hc, hs, hz⟩
  refine ⟨c, Nat.lt_of_lt_of_le hc (Nat.pow_le_pow_right (by omega) (by omega)), hs, ?_⟩
  unfold zsum at hz ⊢
  rw [sumC_lo r c j hc]; exact hz
theorem span_has (n : Nat) (r : Nat → Nat) (m j v : Nat) (h1 : 1 ≤ n) (h2 : n ≤ 12) (hr : ∀ i, r i < n) (hv : v < n) (h : (spanM n r m j).testBit v = true) : HasC n r m j v := by
  induction j generalizing v with
  | zero =>
    have h' : (1 : Nat).testBit v = true := h
    have hv0 : v = 0 := by
      cases v with
      | zero => rfl
      | succ v => rw [Nat.testBit_succ] at h'; simp at h'
    exact ⟨0, by omega, fun i hi => (by rw [Nat.zero_testBit] at hi; cases hi), by unfold zsum; rw [sumC_zero, Nat.zero_mod, hv0]⟩
  | succ j ih =>
    unfold spanM at h
    by_cases hm : m.testBit j = true
    · rw [if_pos hm, Nat.testBit_or, Bool.or_eq_true, shift_mem n _ _ h1 (span_lt n r m j h1) v hv] at h
      refine has_step n r m j v h1 h2 (hr j) hv hm ?_
      rcases h with h | h
      · exact .inl (ih v hv h)
      · exact .inr (ih _ (rest_lt n _ h1) h)
    · rw [if_neg hm] at h
      exact has_more n r m j v (ih v hv h)
theorem span_zero (n : Nat) (r : Nat → Nat) (m j : Nat) : (spanM n r m j).testBit 0 = true := by
  induction j with
  | zero => show (1 : Nat).testBit 0 = true; decide
  | succ j ih =>
    unfold spanM
    split
    · rw [Nat.testBit_or, ih]; rfl
    · exact ih
theorem turn_round (n x j : Nat) (S : Nat) (h1 : 1 ≤ n) (h2 : n ≤ 12) (hx : x < n) (hS : S < 2 ^ n) (h0 : S.testBit 0 = true) (hc : ∀ v, v < n → S.testBit (rest n ((v : Int) - (x : Int))) = true → S.testBit v = true) : S.testBit (j * x % n) = true := by
  induction j with
  | zero => rw [Nat.zero_mul, Nat.zero_mod]; exact h0
  | succ j ih =>
    refine hc _ (Nat.mod_lt _ h1) ?_
    have e := (row_hit n x (j * x % n) ((j + 1) * x % n) h1 h2 hx (Nat.mod_lt _ h1) (Nat.mod_lt _ h1)).1 (by rw [Nat.mod_add_mod, Nat.succ_mul])
    rw [← e]; exact ih
theorem back_round (n x : Nat) (h1 : 1 ≤ n) (h2 : n ≤ 12) (hx : x < n) : ((n - 1) * x % n + x) % n = 0 := by
  rw [Nat.mod_add_mod, ← Nat.succ_mul, show (n - 1).succ = n by omega, Nat.mul_comm, Nat.mul_mod_left]
theorem cntB_step (b j : Nat) : cntB b (j + 1) = cntB b j + if b.testBit j then 1 else 0 := rfl
/-- Where no part of m but the empty one has the sum 0, each position has a sum more. -/
theorem span_grow (n : Nat) (r : Nat → Nat) (m k : Nat) (h1 : 1 ≤ n) (h2 : n ≤ 12) (hr : ∀ i, r i < n) (hp : ∀ c, c < 2 ^ k → c ≠ 0 → (∀ i, c.testBit i = true → m.testBit i = true) → zsum n r k c ≠ 0) :
    cntB m k + 1 ≤ sizeN (spanM n r m k) := by
  induction k with
  | zero => show 0 + 1 ≤ sizeN 1; decide
  | succ k ih =>
    have hpow : 2 ^ (k + 1) = 2 ^ k + 2 ^ k := by rw [Nat.pow_succ, Nat.mul_two]
    have hi := ih fun c hc h0 hs hz => hp c (by omega) h0 hs (by unfold zsum at hz ⊢; rw [sumC_lo r c k hc]; exact hz)
    have hS := span_lt n r m k h1
    have hT := span_lt n r m (k + 1) h1
    rw [cntB_step]
    by_cases hm : m.testBit k = true
    · rw [if_pos hm]
      have e : spanM n r m (k + 1) = spanM n r m k ||| shiftN n (spanM n r m k) (r k : Int) := by
        show (if m.testBit k then _ else _) = _
        rw [if_pos hm]
      by_cases hlt : sizeN (spanM n r m k) < sizeN (spanM n r m (k + 1))
      · omega
      · exfalso
        have hsame : spanM n r m k = spanM n r m (k + 1) := popF_same n _ _ hS hT (fun i hi => by rw [e, Nat.testBit_or, hi]; rfl) (by rw [← sizeN_of n _ h2 hS, ← sizeN_of n _ h2 hT]; omega)
        have hc : ∀ v, v < n → (spanM n r m k).testBit (rest n ((v : Int) - (r k : Int))) = true → (spanM n r m k).testBit v = true := fun v hv hb => by
          rw [hsame, e, Nat.testBit_or, shift_mem n _ _ h1 hS v hv, hb, Bool.or_true]
        have hb := turn_round n (r k) (n - 1) _ h1 h2 (hr k) hS (span_zero n r m k) hc
        obtain ⟨c, hc1, hc2, hc3⟩ := span_has n r m k _ h1 h2 hr (Nat.mod_lt _ h1) hb
        refine hp (2 ^ k + c) (by omega) (by have := Nat.two_pow_pos k; omega) (fun i hi => ?_) ?_
        · by_cases e : i < k
          · rw [Nat.testBit_two_pow_add_gt e] at hi
            exact hc2 i hi
          · by_cases e2 : i = k
            · subst e2; exact hm
            · rw [Nat.testBit_lt_two_pow (Nat.lt_of_lt_of_le (show 2 ^ k + c < 2 ^ (k + 1) by omega) (Nat.pow_le_pow_right (by omega) (by omega)))] at hi
              cases hi
        · unfold zsum at hc3 ⊢
          rw [sumC_hi r c k hc1, ← Nat.mod_add_mod, hc3]
          exact back_round n (r k) h1 h2 (hr k)
    · have e : spanM n r m (k + 1) = spanM n r m k := by
        show (if m.testBit k then _ else _) = _
        rw [if_neg hm]
      rw [if_neg hm, e, Nat.add_zero]
      exact hi
/-- n positions have a part with the sum 0. -/
theorem row_zero (n : Nat) (r : Nat → Nat) (m k : Nat) (h1 : 1 ≤ n) (h2 : n ≤ 12) (hr : ∀ i, r i < n) (hm : n ≤ cntB m k) :
    ∃ c, c < 2 ^ k ∧ c ≠ 0 ∧ (∀ i, c.testBit i = true → m.testBit i = true) ∧ zsum n r k c = 0 := by
  by_cases h : ∃ c, c < 2 ^ k ∧ c ≠ 0 ∧ (∀ i, c.testBit i = true → m.testBit i = true) ∧ zsum n r k c = 0
  · exact h
  · exfalso
    have a := span_grow n r m k h1 h2 hr fun c hc h0 hs hz => h ⟨c, hc, h0, hs, hz⟩
    have b := sizeN_le n _ h2 (span_lt n r m k h1)
    omega
end Go.Proofs.Ytnlalccnhpblkaa

/- Rows of places: one less than twice as many places have n of the sum 0 (promise 80), by sorted rows of at most six places' rings gone through by the kernel. -/
namespace Go.Proofs.Ytnlalccnhpblkaa
set_option linter.unusedVariables false
/-- A set of places turned on by x. -/
def rotE (n m x : Nat) : Nat := (((m &&& (2 ^ n - 1)) <<< x) ||| ((m &&& (2 ^ n - 1)) >>> (n - x))) &&& (2 ^ n - 1)
theorem full_lt (n m : Nat) : m &&& (2 ^ n - 1) < 2 ^ n := Nat.and_lt_two_pow m (by have := Nat.two_pow_pos n; omega)
theorem rotE_shift (n m x : Nat) (hx : x < n) : rotE n m x = shiftN n (m &&& (2 ^ n - 1)) (x : Int) := by
  unfold rotE shiftN
  rw [rest_self n x hx]
  rfl
theorem rotE_bit (n m x v : Nat) (h1 : 1 ≤ n) (hx : x < n) (hv : v < n) : (rotE n m x).testBit v = m.testBit (rest n ((v : Int) - (x : Int))) := by
  have hr := rest_lt n ((v : Int) - (x : Int)) h1
  rw [rotE_shift n m x hx, shift_mem n _ _ h1 (full_lt n m) v hv, Nat.testBit_and, Nat.testBit_two_pow_sub_one, decide_eq_true hr, Bool.and_true]
theorem rotE_lt (n m x : Nat) : rotE n m x < 2 ^ n := full_lt n _
theorem rotE_or (n a b x : Nat) (h1 : 1 ≤ n) (hx : x < n) : rotE n (a ||| b) x = rotE n a x ||| rotE n b x := by
  refine ext_bits (rotE_lt n _ _) (Nat.or_lt_two_pow (rotE_lt n _ _) (rotE_lt n _ _)) fun v hv => ?_
  rw [rotE_bit n _ x v h1 hx hv, Nat.testBit_or, Nat.testBit_or, rotE_bit n a x v h1 hx hv, rotE_bit n b x v h1 hx hv]
theorem rotE_comm (n m x y : Nat) (h1 : 1 ≤ n) (hx : x < n) (hy : y < n) : rotE n (rotE n m x) y = rotE n (rotE n m y) x := by
  refine ext_bits (rotE_lt n _ _) (rotE_lt n _ _) fun v hv => ?_
  have r1 := rest_lt n ((v : Int) - (y : Int)) h1
  have r2 := rest_lt n ((v : Int) - (x : Int)) h1
  rw [rotE_bit n _ y v h1 hy hv, rotE_bit n _ x _ h1 hx r1, rotE_bit n _ x v h1 hx hv, rotE_bit n _ y _ h1 hy r2, rest_mix n _ _ h1, rest_mix n _ _ h1]
  congr 2
  omega
/-- One place more: p is the set of one position less. -/
def stepE (n x : Nat) : Nat → List Nat → List Nat
  | _, [] => []
  | p, m :: ms => match m ||| rotE n p x with
    | 0 => 0 :: stepE n x m ms
    | q + 1 => (q + 1) :: stepE n x m ms
theorem stepE_cons (n x p m : Nat) (ms : List Nat) : stepE n x p (m :: ms) = (m ||| rotE n p x) :: stepE n x m ms := by
  conv => lhs; unfold stepE
  cases m ||| rotE n p x <;> rfl
theorem rotE_zero (n x : Nat) : rotE n 0 x = 0 := by unfold rotE; simp
theorem stepE_len (n x p : Nat) (S : List Nat) : (stepE n x p S).length = S.length := by
  induction S generalizing p with
  | nil => rfl
  | cons m ms ih => rw [stepE_cons, List.length_cons, ih, List.length_cons]
theorem stepE_get (n x p : Nat) (S : List Nat) (t : Nat) (ht : t < S.length) : (stepE n x p S).getD t 0 = S.getD t 0 ||| rotE n (if t = 0 then p else S.getD (t - 1) 0) x := by
  induction S generalizing p t with
  | nil => simp at ht
  | cons m ms ih =>
    rw [stepE_cons]
    cases t with
    | zero => simp
    | succ t =>
      have e := ih m t (by simpa using ht)
      rw [List.getD_cons_succ, List.getD_cons_succ, e, if_neg (show ¬ t + 1 = 0 by omega)]
      cases t with
      | zero => rfl
      | succ t => rfl
def stE (n : Nat) (S : List Nat) (x : Nat) : List Nat := stepE n x 0 S
theorem list_ext {xs ys : List Nat} (hl : xs.length = ys.length) (h : ∀ t, t < xs.length → xs.getD t 0 = ys.getD t 0) : xs = ys := by
  refine List.ext_getElem hl fun i h1 h2 => ?_
  have a := h i h1
  rw [List.getD_eq_getElem?_getD, List.getElem?_eq_getElem h1, List.getD_eq_getElem?_getD, List.getElem?_eq_getElem h2] at a
  exact a
theorem stE_comm (n : Nat) (h1 : 1 ≤ n) (S : List Nat) (x y : Nat) (hx : x < n) (hy : y < n) : stE n (stE n S x) y = stE n (stE n S y) x := by
  unfold stE
  refine list_ext (by rw [stepE_len, stepE_len, stepE_len, stepE_len]) fun t ht => ?_
  rw [stepE_len, stepE_len] at ht
  rw [stepE_get n y 0 (stepE n x 0 S) t (by rw [stepE_len]; exact ht), stepE_get n x 0 (stepE n y 0 S) t (by rw [stepE_len]; exact ht), stepE_get n x 0 S t ht, stepE_get n y 0 S t ht]
  by_cases h0 : t = 0
  · subst h0
    simp only [if_true, rotE_zero, Nat.or_zero]
  · rw [if_neg h0, if_neg h0, if_neg h0, stepE_get n x 0 S (t - 1) (by omega), stepE_get n y 0 S (t - 1) (by omega), rotE_or n _ _ y h1 hy, rotE_or n _ _ x h1 hx]
    generalize S.getD t 0 = a
    generalize S.getD (t - 1) 0 = b
    rw [rotE_comm n _ x y h1 hx hy]
    generalize rotE n (rotE n (if t - 1 = 0 then 0 else S.getD (t - 1 - 1) 0) y) x = c
    generalize rotE n b x = d
    generalize rotE n b y = e
    rw [Nat.or_assoc, ← Nat.or_assoc d e c, Nat.or_comm d e, Nat.or_assoc e d c, ← Nat.or_assoc]
def initE (n : Nat) : List Nat := 1 :: List.replicate n 0
theorem initE_len (n : Nat) : (initE n).length = n + 1 := by simp [initE]
theorem initE_get (n t : Nat) : (initE n).getD t 0 = if t = 0 then 1 else 0 := by
  unfold initE
  cases t with
  | zero => rfl
  | succ t =>
    rw [List.getD_cons_succ, if_neg (by omega), List.getD_eq_getElem?_getD, List.getElem?_replicate]
    split <;> rfl
def goodE (n : Nat) (S : List Nat) : Bool := Nat.beq (S.getD n 0 % 2) 1
theorem good_bit (n : Nat) (S : List Nat) : goodE n S = (S.getD n 0).testBit 0 := by
  unfold goodE
  rw [Nat.testBit_zero]
  rw [Bool.eq_iff_iff, decide_eq_true_iff]
  exact ⟨fun h => Nat.eq_of_beq_eq_true h, fun h => by rw [h]; rfl⟩
theorem good_step (n : Nat) (S : List Nat) (x : Nat) (hl : S.length = n + 1) (h : goodE n S = true) : goodE n (stE n S x) = true := by
  rw [good_bit] at h ⊢
  unfold stE
  rw [stepE_get n x 0 S n (by omega), Nat.testBit_or, h]; rfl
theorem good_fold (n : Nat) (xs : List Nat) (S : List Nat) (hl : S.length = n + 1) (h : goodE n S = true) : goodE n (xs.foldl (stE n) S) = true := by
  induction xs generalizing S with
  | nil => exact h
  | cons x xs ih => exact ih _ (by unfold stE; rw [stepE_len]; exact hl) (good_step n S x hl h)
/-- Whether all sorted rows of k places more, from lo on, come to n positions of the sum 0. -/
def chkE (n : Nat) : Nat → Nat → List Nat → Bool
  | 0, _, S => goodE n S
  | k + 1, lo, S => goodE n S || (List.range n).all fun x => Nat.blt x lo || chkE n k x (stE n S x)
theorem chk_sound (n k lo : Nat) (S : List Nat) (hl : S.length = n + 1) (h : chkE n k lo S = true) (xs : List Nat) (hk : xs.length = k) (hs : xs.Pairwise (· ≤ ·)) (hb : ∀ x, x ∈ xs → lo ≤ x ∧ x < n) :
    goodE n (xs.foldl (stE n) S) = true := by
  induction k generalizing lo S xs with
  | zero =>
    obtain rfl : xs = [] := List.eq_nil_of_length_eq_zero hk
    exact h
  | succ k ih =>
    cases xs with
    | nil => simp at hk
    | cons x xs =>
      rcases (Bool.or_eq_true _ _).mp (show (goodE n S || (List.range n).all fun x => Nat.blt x lo || chkE n k x (stE n S x)) = true from h) with c | c
      · exact good_fold n (x :: xs) S hl c
      · obtain ⟨hx1, hx2⟩ := hb x (by simp)
        have d := List.all_eq_true.1 c x (List.mem_range.2 hx2)
        rcases (Bool.or_eq_true _ _).mp d with e | e
        · have := (blt_iff _ _).1 e; omega
        · obtain ⟨p1, p2⟩ := List.pairwise_cons.1 hs
          exact ih x (stE n S x) (by unfold stE; rw [stepE_len]; exact hl) e xs (by simpa using hk) p2 fun y hy => ⟨p1 y hy, (hb y (by simp [hy])).2⟩
def egzAll : Bool := (List.range 7).all fun n => Nat.beq n 0 || chkE n (2 * n - 1) 0 (initE n)
theorem egz_all : egzAll = true := by decide +kernel
/-- What the first j places of a row make. -/
def runE (n : Nat) (r : Nat → Nat) (j : Nat) : List Nat := ((List.range j).map r).foldl (stE n) (initE n)
theorem runE_len (n : Nat) (r : Nat → Nat) (j : Nat) : (runE n r j).length = n + 1 := by
  have h : ∀ (xs S : List Nat), S.length = n + 1 → (xs.foldl (stE n) S).length = n + 1 := by
    intro xs
    induction xs with
    | nil => exact fun S h => h
    | cons x xs ih => exact fun S h => ih _ (by unfold stE; rw [stepE_len]; exact h)
  exact h _ _ (initE_len n)
theorem runE_step (n : Nat) (r : Nat → Nat) (j : Nat) : runE n r (j + 1) = stE n (runE n r j) (r j) := by
  unfold runE
  rw [List.range_succ, List.map_append, List.foldl_append]
  rfl
theorem cntB_hi (c j : Nat) (hc : c < 2 ^ j) : cntB (2 ^ j + c) (j + 1) = cntB c j + 1 := by
  have h : ∀ i, i ≤ j → cntB (2 ^ j + c) i = cntB c i := by
    intro i
    induction i with
    | zero => intro _; rfl
    | succ i ih =>
      intro hi
      rw [cntB_step, cntB_step, ih (by omega), Nat.testBit_two_pow_add_gt (by omega)]
  rw [cntB_step, h j (Nat.le_refl _), Nat.testBit_two_pow_add_eq, Nat.testBit_lt_two_pow hc]
  rfl
theorem cntB_lo (c j : Nat) (hc : c < 2 ^ j) : cntB c (j + 1) = cntB c j := by
  rw [cntB_step, Nat.testBit_lt_two_pow hc]; rfl
theorem run_sound (n : Nat) (r : Nat → Nat) (h1 : 1 ≤ n) (h2 : n ≤ 12) (hr : ∀ i, r i < n) (j t v : Nat) (ht : t ≤ n) (hv : v < n) (h : ((runE n r j).getD t 0).testBit v = true) :
    ∃ c, c < 2 ^ j ∧ cntB c j = t ∧ zsum n r j c = v := by
  induction j generalizing t v with
  | zero =>
    have e : (runE n r 0).getD t 0 = if t = 0 then 1 else 0 := initE_get n t
    rw [e] at h
    by_cases h0 : t = 0
    · subst h0
      rw [if_pos rfl] at h
      have hv0 : v = 0 := by
        cases v with
        | zero => rfl
        | succ v => rw [Nat.testBit_succ] at h; simp at h
      exact ⟨0, by omega, rfl, by unfold zsum; rw [sumC_zero, Nat.zero_mod, hv0]⟩
    · rw [if_neg h0, Nat.zero_testBit] at h; cases h
  | succ j ih =>
    have hp : 2 ^ (j + 1) = 2 ^ j + 2 ^ j := by rw [Nat.pow_succ, Nat.mul_two]
    rw [runE_step] at h
    unfold stE at h
    rw [stepE_get n (r j) 0 _ t (by rw [runE_len]; omega), Nat.testBit_or, Bool.or_eq_true, rotE_bit n _ (r j) v h1 (hr j) hv] at h
    rcases h with h | h
    · obtain ⟨c, hc, hn, hz⟩ := ih t v ht hv h
      exact ⟨c, by omega, by rw [cntB_lo c j hc]; exact hn, by unfold zsum at hz ⊢; rw [sumC_lo r c j hc]; exact hz⟩
    · by_cases h0 : t = 0
      · rw [if_pos h0, Nat.zero_testBit] at h; cases h
      · rw [if_neg h0] at h
        obtain ⟨c, hc, hn, hz⟩ := ih (t - 1) _ (by omega) (rest_lt n _ h1) h
        refine ⟨2 ^ j + c, by omega, by rw [cntB_hi c j hc, hn]; omega, ?_⟩
        unfold zsum
        rw [sumC_hi r c j hc, ← Nat.mod_add_mod]
        exact (row_hit n (r j) _ v h1 h2 (hr j) (Nat.mod_lt _ h1) hv).2 hz
theorem egz (n : Nat) (r : Nat → Nat) (h1 : 1 ≤ n) (h6 : n ≤ 6) (hr : ∀ i, r i < n) : ∃ c, c < 2 ^ (2 * n - 1) ∧ cntB c (2 * n - 1) = n ∧ zsum n r (2 * n - 1) c = 0 := by
  have ha := List.all_eq_true.1 egz_all n (List.mem_range.2 (by omega))
  have hc : chkE n (2 * n - 1) 0 (initE n) = true := by
    rcases (Bool.or_eq_true _ _).mp ha with c | c
    · have := Nat.eq_of_beq_eq_true c; omega
    · exact c
  refine run_sound n r h1 (by omega) hr (2 * n - 1) n 0 (Nat.le_refl _) (by omega) ?_
  rw [← good_bit]
  unfold runE
  have hperm := List.mergeSort_perm ((List.range (2 * n - 1)).map r) (fun a b => decide (a ≤ b))
  have hmem : ∀ x, x ∈ (List.range (2 * n - 1)).map r → x < n := fun x hx => by
    obtain ⟨i, _, e⟩ := List.mem_map.1 hx
    rw [← e]; exact hr i
  rw [List.Perm.foldl_eq' hperm.symm (fun x hx y hy z => stE_comm n h1 z x y (hmem x hx) (hmem y hy)) (initE n)]
  refine chk_sound n (2 * n - 1) 0 (initE n) (initE_len n) hc _ (by rw [hperm.length_eq]; simp) ?_ fun x hx => ⟨Nat.zero_le _, hmem x (hperm.mem_iff.1 hx)⟩
  have hp := List.pairwise_mergeSort (le := fun a b : Nat => decide (a ≤ b)) (fun a b c h1 h2 => by simp at *; omega) (fun a b => by simp; omega) ((List.range (2 * n - 1)).map r)
  exact hp.imp fun h => by simpa using h
end Go.Proofs.Ytnlalccnhpblkaa

/- Rows of places: least choices and parts (promises 82 and 83). -/
namespace Go.Proofs.Ytnlalccnhpblkaa
set_option linter.unusedVariables false
/-- d has positions of c alone. -/
def SubM (d c : Nat) : Prop := ∀ i, d.testBit i = true → c.testBit i = true
theorem sub_iff (d c : Nat) : SubM d c ↔ d &&& c = d := by
  constructor
  · intro h
    refine Nat.eq_of_testBit_eq fun i => ?_
    rw [Nat.testBit_and]
    cases hd : d.testBit i
    · rfl
    · rw [h i hd]; rfl
  · intro h i hi
    rw [← h, Nat.testBit_and, Bool.and_eq_true] at hi
    exact hi.2
theorem SubM.le {d c : Nat} (h : SubM d c) : d ≤ c := by
  rw [sub_iff] at h
  rw [← h]; exact Nat.and_le_right
theorem SubM.trans {a b c : Nat} (h : SubM a b) (k : SubM b c) : SubM a c := fun i hi => k i (h i hi)
theorem SubM.refl (a : Nat) : SubM a a := fun _ h => h
theorem and_mod2 (a b : Nat) : (a &&& b) % 2 = a % 2 * (b % 2) := by
  have h := Nat.testBit_and a b 0
  rw [Nat.testBit_zero, Nat.testBit_zero, Nat.testBit_zero] at h
  rcases Nat.mod_two_eq_zero_or_one a with ha | ha <;> rcases Nat.mod_two_eq_zero_or_one b with hb | hb <;> rcases Nat.mod_two_eq_zero_or_one (a &&& b) with hc | hc <;> simp [ha, hb, hc] at h ⊢
/-- Behind a part of c the next one is found by taking 1 away. -/
theorem sub_next (c p q : Nat) (hp : p &&& c = p) (h0 : 0 < p) (hq : q &&& c = q) (hlt : q < p) : q ≤ (p - 1) &&& c := by
  induction p using Nat.strongRecOn generalizing c q with
  | ind p ih =>
    have p1 := congrArg (· / 2) hp
    have p2 := congrArg (· % 2) hp
    have q1 := congrArg (· / 2) hq
    have q2 := congrArg (· % 2) hq
    simp only [Nat.and_div_two, and_mod2] at p1 p2 q1 q2
    have hx := and_mod2 (p - 1) c
    have hy : ((p - 1) &&& c) / 2 = (p - 1) / 2 &&& c / 2 := Nat.and_div_two
    by_cases hb : p % 2 = 1
    · have e1 : (p - 1) / 2 = p / 2 := by omega
      have e2 : (p - 1) % 2 = 0 := by omega
      rw [e1, p1] at hy
      rw [e2, Nat.zero_mul] at hx
      omega
    · have hb : p % 2 = 0 := by omega
      have e1 : (p - 1) / 2 = p / 2 - 1 := by omega
      have e2 : (p - 1) % 2 = 1 := by omega
      have hi := ih (p / 2) (by omega) (c / 2) (q / 2) p1 (by omega) q1 (by omega)
      rw [e1] at hy
      rw [e2, Nat.one_mul] at hx
      have hqc : q % 2 ≤ c % 2 := by
        rcases Nat.mod_two_eq_zero_or_one c with h | h
        · rw [h, Nat.mul_zero] at q2; omega
        · omega
      omega
/-- How many positions below k a part has: no more than the whole. -/
theorem cntB_sub (d c k : Nat) (h : SubM d c) : cntB d k ≤ cntB c k := by
  rw [← popF_cnt, ← popF_cnt]
  exact popF_mono k d c h
theorem cntB_all (c j k : Nat) (hc : c < 2 ^ j) (hjk : j ≤ k) : cntB c k = cntB c j := by
  induction k with
  | zero => obtain rfl : j = 0 := by omega
            rfl
  | succ k ih =>
    by_cases e : j = k + 1
    · rw [e]
    · rw [cntB_step, Nat.testBit_lt_two_pow (Nat.lt_of_lt_of_le hc (Nat.pow_le_pow_right (by omega) (by omega))), ih (by omega)]
      rfl
theorem cntB_reach (c k n : Nat) (h : n ≤ cntB c k) : ∃ i, i ≤ k ∧ cntB c i = n := by
  induction k with
  | zero => exact ⟨0, Nat.le_refl _, by have : cntB c 0 = 0 := rfl
                                        omega⟩
  | succ k ih =>
    rw [cntB_step] at h
    by_cases e : n ≤ cntB c k
    · obtain ⟨i, hi, he⟩ := ih e
      exact ⟨i, by omega, he⟩
    · refine ⟨k + 1, Nat.le_refl _, ?_⟩
      rw [cntB_step]
      split at h <;> split <;> omega
/-- A choice of n positions or more has a part of at most n that has the sum 0. -/
theorem small_zero (n : Nat) (r : Nat → Nat) (m k : Nat) (h1 : 1 ≤ n) (h2 : n ≤ 12) (hr : ∀ i, r i < n) (hm : n ≤ cntB m k) :
    ∃ c, c < 2 ^ k ∧ c ≠ 0 ∧ SubM c m ∧ cntB c k ≤ n ∧ zsum n r k c = 0 := by
  obtain ⟨i, hi, he⟩ := cntB_reach m k n hm
  obtain ⟨c, hc, h0, hs, hz⟩ := row_zero n r m i h1 h2 hr (by omega)
  refine ⟨c, Nat.lt_of_lt_of_le hc (Nat.pow_le_pow_right (by omega) hi), h0, hs, ?_, ?_⟩
  · rw [cntB_all c i k hc hi, ← he]
    exact cntB_sub c m i hs
  · unfold zsum at hz ⊢
    rw [sumC_far r c i k hc hi]; exact hz
/-- A choice that is not empty, has the sum 0, and no smaller part that does. -/
def leastC (n : Nat) (r : Nat → Nat) (k c : Nat) : Bool := !Nat.beq c 0 && (zeroP n r k c && (List.range c).all fun d => Nat.beq d 0 || (!Nat.beq (d &&& c) d || !zeroP n r k d))
theorem least_what (n : Nat) (r : Nat → Nat) (k c : Nat) : leastC n r k c = true ↔ c ≠ 0 ∧ zsum n r k c = 0 ∧ ∀ d, d < c → d ≠ 0 → SubM d c → zsum n r k d ≠ 0 := by
  unfold leastC
  rw [Bool.and_eq_true, Bool.and_eq_true, zeroP_iff, List.all_eq_true]
  constructor
  · rintro ⟨a, b, h⟩
    refine ⟨fun e => by subst e; simp at a, b, fun d hd h0 hs hz => ?_⟩
    have e := h d (List.mem_range.2 hd)
    have e1 : Nat.beq d 0 = false := by
      cases hc : Nat.beq d 0
      · rfl
      · exact absurd (Nat.eq_of_beq_eq_true hc) h0
    have e2 : Nat.beq (d &&& c) d = true := by rw [(sub_iff d c).1 hs]; exact Nat.beq_refl d
    rw [e1, e2, (zeroP_iff n r k d).2 hz] at e
    cases e
  · rintro ⟨a, b, h⟩
    refine ⟨?_, b, fun d hd => ?_⟩
    · cases hc : Nat.beq c 0
      · rfl
      · exact absurd (Nat.eq_of_beq_eq_true hc) a
    · cases e1 : Nat.beq d 0
      · cases e2 : Nat.beq (d &&& c) d
        · rfl
        · cases e3 : zeroP n r k d
          · rfl
          · exact absurd ((zeroP_iff n r k d).1 e3) (h d (List.mem_range.1 hd) (fun e => by subst e; cases e1) ((sub_iff d c).2 (Nat.eq_of_beq_eq_true e2)))
      · rfl
theorem least_small (n : Nat) (r : Nat → Nat) (k c : Nat) (h1 : 1 ≤ n) (h2 : n ≤ 12) (hr : ∀ i, r i < n) (hc : c < 2 ^ k) (h : leastC n r k c = true) : cntB c k ≤ n := by
  obtain ⟨a, b, hl⟩ := (least_what n r k c).1 h
  by_cases hn : cntB c k ≤ n
  · exact hn
  · exfalso
    obtain ⟨d, hd, h0, hs, hk, hz⟩ := small_zero n r c k h1 h2 hr (by omega)
    have hle := hs.le
    by_cases e : d = c
    · subst e; omega
    · exact hl d (by omega) h0 hs hz
theorem least_apart (n : Nat) (r : Nat → Nat) (k c d : Nat) (hc : leastC n r k c = true) (hd : leastC n r k d = true) (hs : SubM d c) : d = c := by
  obtain ⟨_, _, hl⟩ := (least_what n r k c).1 hc
  obtain ⟨a, b, _⟩ := (least_what n r k d).1 hd
  by_cases e : d = c
  · exact e
  · have := hs.le
    exact absurd b (hl d (by omega) a hs)
theorem least_first (n : Nat) (r : Nat → Nat) (k : Nat) (h : zfirst n r k ≠ 0) : zfirst n r k < 2 ^ k ∧ leastC n r k (zfirst n r k) = true := by
  obtain ⟨a, b⟩ := firstP_is _ _ h
  refine ⟨b, (least_what n r k _).2 ⟨h, (zeroP_iff n r k _).1 a, fun d hd h0 hs hz => ?_⟩⟩
  have e : zfirst n r k ≤ d := firstP_le _ _ d (Nat.lt_trans hd b) h0 ((zeroP_iff n r k d).2 hz)
  omega
/-- The numbers below k that p lets by, in ascending order. -/
def pickL (p : Nat → Bool) : Nat → List Int
  | 0 => []
  | i + 1 => if p i then pickL p i ++ [(i : Int)] else pickL p i
theorem pick_len (p : Nat → Bool) (k : Nat) : (pickL p k).length ≤ k := by
  induction k with
  | zero => exact Nat.le_refl _
  | succ k ih =>
    unfold pickL
    split
    · simp; omega
    · omega
theorem pick_mem (p : Nat → Bool) (k : Nat) (z : Int) : z ∈ pickL p k ↔ ∃ x : Nat, z = (x : Int) ∧ x < k ∧ p x = true := by
  induction k with
  | zero => exact ⟨fun h => by simp [pickL] at h, fun ⟨x, _, h, _⟩ => by omega⟩
  | succ k ih =>
    have e : pickL p (k + 1) = if p k then pickL p k ++ [(k : Int)] else pickL p k := rfl
    rw [e]
    cases hp : p k
    · rw [if_neg (by simp), ih]
      constructor
      · rintro ⟨x, a, b, c⟩; exact ⟨x, a, by omega, c⟩
      · rintro ⟨x, a, b, c⟩
        refine ⟨x, a, ?_, c⟩
        have : x ≠ k := fun e => by subst e; rw [hp] at c; cases c
        omega
    · rw [if_pos rfl, List.mem_append, ih, List.mem_singleton]
      constructor
      · rintro (⟨x, a, b, c⟩ | h)
        · exact ⟨x, a, by omega, c⟩
        · exact ⟨k, h, by omega, hp⟩
      · rintro ⟨x, a, b, c⟩
        by_cases e : x = k
        · subst e; exact .inr a
        · exact .inl ⟨x, a, by omega, c⟩
theorem pick_at (p : Nat → Bool) (k i : Nat) (hi : i < (pickL p k).length) : ∃ x : Nat, (pickL p k).getD i 0 = (x : Int) ∧ x < k ∧ p x = true := by
  refine (pick_mem p k _).1 ?_
  rw [List.getD_eq_getElem?_getD, List.getElem?_eq_getElem hi]
  exact List.getElem_mem hi
theorem pick_up (p : Nat → Bool) (k i j : Nat) (hij : i < j) (hj : j < (pickL p k).length) : (pickL p k).getD i 0 < (pickL p k).getD j 0 := by
  induction k generalizing i j with
  | zero => simp [pickL] at hj
  | succ k ih =>
    have e : pickL p (k + 1) = if p k then pickL p k ++ [(k : Int)] else pickL p k := rfl
    rw [e] at hj ⊢
    cases hp : p k
    · rw [hp, if_neg (by simp)] at hj
      rw [if_neg (by simp)]
      exact ih i j hij hj
    · rw [hp, if_pos rfl, List.length_append, List.length_singleton] at hj
      rw [if_pos rfl]
      have hget : ∀ t, t < (pickL p k).length → (pickL p k ++ [(k : Int)]).getD t 0 = (pickL p k).getD t 0 := fun t ht => by
        rw [List.getD_eq_getElem?_getD, List.getElem?_append_left ht, ← List.getD_eq_getElem?_getD]
      by_cases ej : j < (pickL p k).length
      · rw [hget i (by omega), hget j ej]
        exact ih i j hij ej
      · obtain rfl : j = (pickL p k).length := by omega
        rw [hget i hij]
        obtain ⟨x, hx, hlt, _⟩ := pick_at p k i hij
        rw [hx, List.getD_eq_getElem?_getD, List.getElem?_append_right (Nat.le_refl _), Nat.sub_self]
        simp; omega
def leastL (n : Nat) (r : Nat → Nat) (k : Nat) : List Int := pickL (leastC n r k) (2 ^ k)
theorem leastL_none (n : Nat) (r : Nat → Nat) (k : Nat) : leastL n r k = [] ↔ zfirst n r k = 0 := by
  constructor
  · intro h
    by_cases hz : zfirst n r k = 0
    · exact hz
    · obtain ⟨a, b⟩ := least_first n r k hz
      have : ((zfirst n r k : Nat) : Int) ∈ leastL n r k := (pick_mem _ _ _).2 ⟨_, rfl, a, b⟩
      rw [h] at this; simp at this
  · intro h
    cases hl : leastL n r k with
    | nil => rfl
    | cons z zs =>
      have : z ∈ leastL n r k := by rw [hl]; simp
      obtain ⟨x, _, hx, hb⟩ := (pick_mem _ _ _).1 this
      obtain ⟨a, b, _⟩ := (least_what n r k x).1 hb
      exact absurd b (zfirst_none n r k x h hx a)
/-- The positions but those of d. -/
theorem less_sub (c d : Nat) : SubM (lessN c d) c := fun i h => by
  rw [lessN_bit, Bool.and_eq_true] at h; exact h.1
theorem less_small (c d : Nat) (hd : d ≠ 0) (hs : SubM d c) : lessN c d < c := by
  have hle := (less_sub c d).le
  by_cases e : lessN c d = c
  · exfalso
    obtain ⟨i, hi⟩ := some_bit d hd
    have hc := hs i hi
    have := lessN_bit c d i
    rw [e, hc, hi] at this; cases this
  · omega
theorem less_cnt (c d k : Nat) (hs : SubM d c) : cntB (lessN c d) k + cntB d k = cntB c k := by
  induction k with
  | zero => rfl
  | succ k ih =>
    rw [cntB_step, cntB_step, cntB_step, lessN_bit, ← ih]
    cases hd : d.testBit k
    · simp; omega
    · rw [hs k hd]; simp; omega
/-- A family of choices within a set of positions, no two with a common one. -/
structure Fam (n : Nat) (r : Nat → Nat) (k left : Nat) (F : List Nat) : Prop where
  each : ∀ c, c ∈ F → c ≠ 0 ∧ SubM c left ∧ zsum n r k c = 0
  apart : F.Pairwise fun c d => ∀ i, c.testBit i = true → d.testBit i = false
/-- The lowest position. -/
def lowB (left : Nat) : Nat := lessN left (left - 1)
theorem low_sub (left : Nat) : SubM (lowB left) left := less_sub left (left - 1)
theorem low_ne (left : Nat) (h : left ≠ 0) : lowB left ≠ 0 := fun e => by
  have hs : SubM left (left - 1) := fun i hi => by
    have := lessN_bit left (left - 1) i
    rw [show lessN left (left - 1) = 0 from e, Nat.zero_testBit, hi, Bool.true_and] at this
    simpa using this.symm
  have := hs.le
  omega
/-- Whether a choice may be one of the parts: it has the lowest position, and the sum 0. -/
def partP (n : Nat) (r : Nat → Nat) (k left c : Nat) : Bool := Nat.beq (c &&& left) c && (!Nat.beq (c &&& lowB left) 0 && zeroP n r k c)
/-- The most with the choices left, left - 1 .. gone through, j of them; B: the most of fewer positions. -/
def bestG (n : Nat) (r : Nat → Nat) (k : Nat) (B : Nat → Nat) (left : Nat) : Nat → Nat
  | 0 => B (lessN left (lowB left))
  | j + 1 => if partP n r k left (left - j) then max (bestG n r k B left j) (1 + B (lessN left (left - j))) else bestG n r k B left j
/-- The most parts. -/
def bestF (n : Nat) (r : Nat → Nat) (k : Nat) : Nat → Nat → Nat
  | 0, _ => 0
  | f + 1, left => if left = 0 then 0 else bestG n r k (bestF n r k f) left left
theorem bestG_low (n : Nat) (r : Nat → Nat) (k : Nat) (B : Nat → Nat) (left j : Nat) : B (lessN left (lowB left)) ≤ bestG n r k B left j := by
  induction j with
  | zero => exact Nat.le_refl _
  | succ j ih =>
    unfold bestG
    split
    · exact Nat.le_trans ih (Nat.le_max_left _ _)
    · exact ih
theorem bestG_part (n : Nat) (r : Nat → Nat) (k : Nat) (B : Nat → Nat) (left j c : Nat) (h1 : left - j < c) (h2 : c ≤ left) (hp : partP n r k left c = true) : 1 + B (lessN left c) ≤ bestG n r k B left j := by
  induction j with
  | zero => omega
  | succ j ih =>
    unfold bestG
    by_cases e : c = left - j
    · subst e
      rw [if_pos hp]
      exact Nat.le_max_right _ _
    · have := ih (by omega)
      split
      · exact Nat.le_trans this (Nat.le_max_left _ _)
      · exact this
theorem bestG_at (n : Nat) (r : Nat → Nat) (k : Nat) (B : Nat → Nat) (left j : Nat) : bestG n r k B left j = B (lessN left (lowB left)) ∨ ∃ c, c ≤ left ∧ partP n r k left c = true ∧ bestG n r k B left j = 1 + B (lessN left c) := by
  induction j with
  | zero => exact .inl rfl
  | succ j ih =>
    unfold bestG
    by_cases hp : partP n r k left (left - j) = true
    · rw [if_pos hp]
      rcases Nat.le_total (bestG n r k B left j) (1 + B (lessN left (left - j))) with h | h
      · rw [Nat.max_eq_right h]
        exact .inr ⟨left - j, by omega, hp, rfl⟩
      · rw [Nat.max_eq_left h]; exact ih
    · rw [if_neg hp]; exact ih
theorem partP_iff (n : Nat) (r : Nat → Nat) (k left c : Nat) : partP n r k left c = true ↔ SubM c left ∧ c &&& lowB left ≠ 0 ∧ zsum n r k c = 0 := by
  unfold partP
  rw [Bool.and_eq_true, Bool.and_eq_true, zeroP_iff, sub_iff]
  constructor
  · rintro ⟨a, b, z⟩
    exact ⟨Nat.eq_of_beq_eq_true a, (fun e => by rw [e] at b; cases b), z⟩
  · rintro ⟨a, b, z⟩
    refine ⟨by rw [a]; exact Nat.beq_refl _, ?_, z⟩
    cases h : Nat.beq (c &&& lowB left) 0
    · rfl
    · exact absurd (Nat.eq_of_beq_eq_true h) b
theorem fam_off {n : Nat} {r : Nat → Nat} {k left : Nat} {F : List Nat} (h : Fam n r k left F) {c : Nat} (hc : ∀ d, d ∈ F → ∀ i, c.testBit i = true → d.testBit i = false) : Fam n r k (lessN left c) F :=
  ⟨fun d hd => ⟨(h.each d hd).1, (fun i hi => by
    rw [lessN_bit, (h.each d hd).2.1 i hi]
    cases hci : c.testBit i
    · rfl
    · rw [hc d hd i hci] at hi; cases hi), (h.each d hd).2.2⟩, h.apart⟩
theorem fam_take {n : Nat} {r : Nat → Nat} {k left : Nat} {F : List Nat} (h : Fam n r k left F) {c : Nat} (hc : c ∈ F) : ∃ F', F.length = F'.length + 1 ∧ Fam n r k (lessN left c) F' := by
  obtain ⟨A, B, rfl⟩ := List.append_of_mem hc
  have hp := h.apart
  rw [List.pairwise_append] at hp
  obtain ⟨p1, p2, p3⟩ := hp
  obtain ⟨p4, p5⟩ := List.pairwise_cons.1 p2
  have hF : Fam n r k left (A ++ B) := ⟨fun d hd => h.each d (by
    rcases List.mem_append.1 hd with hd | hd
    · exact List.mem_append_left _ hd
    · exact List.mem_append_right _ (List.mem_cons_of_mem _ hd)), List.pairwise_append.2 ⟨p1, p5, fun a ha b hb => p3 a ha b (List.mem_cons_of_mem _ hb)⟩⟩
  refine ⟨A ++ B, by simp; omega, fam_off hF fun d hd i hi => ?_⟩
  rcases List.mem_append.1 hd with hd | hd
  · have := p3 d hd c (by simp)
    cases hdi : d.testBit i
    · rfl
    · rw [this i hdi] at hi; cases hi
  · exact p4 d hd i hi
theorem fam_put {n : Nat} {r : Nat → Nat} {k left c : Nat} {F : List Nat} (h : Fam n r k (lessN left c) F) (h0 : c ≠ 0) (hs : SubM c left) (hz : zsum n r k c = 0) : Fam n r k left (c :: F) := by
  refine ⟨fun d hd => ?_, List.pairwise_cons.2 ⟨fun d hd i hi => ?_, h.apart⟩⟩
  · rcases List.mem_cons.1 hd with rfl | hd
    · exact ⟨h0, hs, hz⟩
    · exact ⟨(h.each d hd).1, (h.each d hd).2.1.trans (less_sub left c), (h.each d hd).2.2⟩
  · cases hdi : d.testBit i
    · rfl
    · have := (h.each d hd).2.1 i hdi
      rw [lessN_bit, hi] at this
      simp at this
theorem fam_more {n : Nat} {r : Nat → Nat} {k a b : Nat} {F : List Nat} (h : Fam n r k a F) (hs : SubM a b) : Fam n r k b F :=
  ⟨fun d hd => ⟨(h.each d hd).1, (h.each d hd).2.1.trans hs, (h.each d hd).2.2⟩, h.apart⟩
theorem fam_none (n : Nat) (r : Nat → Nat) (k left : Nat) : Fam n r k left [] := ⟨fun d hd => by simp at hd, List.Pairwise.nil⟩
/-- No family is greater than the most. -/
theorem best_ub (n : Nat) (r : Nat → Nat) (k f left : Nat) (hf : left ≤ f) (F : List Nat) (h : Fam n r k left F) : F.length ≤ bestF n r k f left := by
  induction f generalizing left F with
  | zero =>
    cases F with
    | nil => exact Nat.le_refl _
    | cons c F =>
      obtain ⟨a, b, _⟩ := h.each c (by simp)
      have := b.le
      omega
  | succ f ih =>
    have e : bestF n r k (f + 1) left = if left = 0 then 0 else bestG n r k (bestF n r k f) left left := rfl
    rw [e]
    by_cases h0 : left = 0
    · rw [if_pos h0]
      cases F with
      | nil => exact Nat.le_refl _
      | cons c F =>
        obtain ⟨a, b, _⟩ := h.each c (by simp)
        have := b.le
        omega
    · rw [if_neg h0]
      by_cases hc : ∃ c, c ∈ F ∧ c &&& lowB left ≠ 0
      · obtain ⟨c, hcF, hl⟩ := hc
        obtain ⟨F', hlen, hF'⟩ := fam_take h hcF
        obtain ⟨a, b, z⟩ := h.each c hcF
        have hsm := less_small left c a b
        have h1 := ih (lessN left c) (by omega) F' hF'
        have h2 := bestG_part n r k (bestF n r k f) left left c (by omega) b.le ((partP_iff n r k left c).2 ⟨b, hl, z⟩)
        omega
      · have hF : Fam n r k (lessN left (lowB left)) F := fam_off h fun d hd i hi => by
          cases hdi : d.testBit i
          · rfl
          · exfalso
            refine hc ⟨d, hd, fun e => ?_⟩
            have : (d &&& lowB left).testBit i = true := by rw [Nat.testBit_and, hdi, hi]; rfl
            rw [e, Nat.zero_testBit] at this; cases this
        have hsm := less_small left (lowB left) (low_ne left h0) (low_sub left)
        exact Nat.le_trans (ih _ (by omega) F hF) (bestG_low n r k _ left left)
/-- Some family is as great. -/
theorem bestF_is (n : Nat) (r : Nat → Nat) (k f left : Nat) (hf : left ≤ f) : ∃ F, Fam n r k left F ∧ F.length = bestF n r k f left := by
  induction f generalizing left with
  | zero => exact ⟨[], fam_none n r k left, rfl⟩
  | succ f ih =>
    have e : bestF n r k (f + 1) left = if left = 0 then 0 else bestG n r k (bestF n r k f) left left := rfl
    rw [e]
    by_cases h0 : left = 0
    · rw [if_pos h0]; exact ⟨[], fam_none n r k left, rfl⟩
    · rw [if_neg h0]
      rcases bestG_at n r k (bestF n r k f) left left with hg | ⟨c, hc, hp, hg⟩
      · rw [hg]
        have hsm := less_small left (lowB left) (low_ne left h0) (low_sub left)
        obtain ⟨F, hF, hl⟩ := ih (lessN left (lowB left)) (by omega)
        exact ⟨F, fam_more hF (less_sub _ _), hl⟩
      · rw [hg]
        obtain ⟨hs, hl, hz⟩ := (partP_iff n r k left c).1 hp
        have hc0 : c ≠ 0 := fun e => hl (by rw [e]; exact Nat.zero_and _)
        have hsm := less_small left c hc0 hs
        obtain ⟨F, hF, hlen⟩ := ih (lessN left c) (by omega)
        exact ⟨c :: F, fam_put hF hc0 hs hz, by rw [List.length_cons, hlen, Nat.add_comm]⟩
/-- The most parts of a row. -/
def partsZ (n : Nat) (r : Nat → Nat) (k : Nat) : Nat := bestF n r k (2 ^ k) (2 ^ k - 1)
theorem greedy (n : Nat) (r : Nat → Nat) (k : Nat) (h1 : 1 ≤ n) (h2 : n ≤ 12) (hr : ∀ i, r i < n) (left : Nat) : ∃ F, Fam n r k left F ∧ cntB left k ≤ n * F.length + (n - 1) := by
  induction left using Nat.strongRecOn with
  | ind left ih =>
    by_cases hn : n ≤ cntB left k
    · obtain ⟨c, hc, h0, hs, hk, hz⟩ := small_zero n r left k h1 h2 hr hn
      obtain ⟨F, hF, hl⟩ := ih (lessN left c) (less_small left c h0 hs)
      refine ⟨c :: F, fam_put hF h0 hs hz, ?_⟩
      have := less_cnt left c k hs
      rw [List.length_cons, Nat.mul_succ]
      omega
    · exact ⟨[], fam_none n r k left, by simp; omega⟩
theorem cntB_full (k : Nat) : cntB (2 ^ k - 1) k = k := by
  have h : ∀ j, j ≤ k → cntB (2 ^ k - 1) j = j := by
    intro j
    induction j with
    | zero => intro _; rfl
    | succ j ih =>
      intro hj
      rw [cntB_step, ih (by omega), Nat.testBit_two_pow_sub_one, if_pos (decide_eq_true (by omega))]
  exact h k (Nat.le_refl _)
theorem p_parts (n : Nat) (r : Nat → Nat) (k : Nat) (h1 : 1 ≤ n) (h2 : n ≤ 12) (hr : ∀ i, r i < n) : k ≤ n * partsZ n r k + (n - 1) ∧ (partsZ n r k = 0 ↔ zfirst n r k = 0) := by
  have hp := Nat.two_pow_pos k
  obtain ⟨F, hF, hl⟩ := greedy n r k h1 h2 hr (2 ^ k - 1)
  have hu := best_ub n r k (2 ^ k) (2 ^ k - 1) (by omega) F hF
  have hu : F.length ≤ partsZ n r k := hu
  rw [cntB_full] at hl
  refine ⟨Nat.le_trans hl (Nat.add_le_add_right (Nat.mul_le_mul_left n hu) _), fun h => ?_, fun h => ?_⟩
  · by_cases hz : zfirst n r k = 0
    · exact hz
    · exfalso
      obtain ⟨a, b⟩ := firstP_is _ _ hz
      have hs : SubM (zfirst n r k) (2 ^ k - 1) := fun i hi => by
        rw [Nat.testBit_two_pow_sub_one]
        refine decide_eq_true ?_
        by_cases hik : i < k
        · exact hik
        · rw [Nat.testBit_lt_two_pow (x := zfirst n r k) (Nat.lt_of_lt_of_le b (Nat.pow_le_pow_right (by omega) (by omega)))] at hi; cases hi
      have hF : Fam n r k (2 ^ k - 1) [zfirst n r k] := ⟨fun c hc => by
        rw [List.mem_singleton.1 hc]; exact ⟨hz, hs, (zeroP_iff n r k _).1 a⟩, List.pairwise_singleton _ _⟩
      have hu : 1 ≤ partsZ n r k := best_ub n r k (2 ^ k) (2 ^ k - 1) (by omega) _ hF
      omega
  · obtain ⟨F, hF, hl⟩ := bestF_is n r k (2 ^ k) (2 ^ k - 1) (by omega)
    have hl : F.length = partsZ n r k := hl
    rw [← hl]
    cases F with
    | nil => rfl
    | cons c F =>
      obtain ⟨a, b, z⟩ := hF.each c (by simp)
      have := b.le
      exact absurd z (zfirst_none n r k c h (by omega) a)
end Go.Proofs.Ytnlalccnhpblkaa

/- Rows of places: a row is a list of numbers of the ring, at most 12 (what promises 74 to 83 want of it). -/
namespace Go.Proofs.Ytnlalccnhpblkaa
set_option linter.unusedVariables false
/-- The places of a list. -/
def rowZ (xs : List Int) (i : Nat) : Nat := (xs.getD i 0).toNat
def RowIn (n : Int) (xs : List Int) : Prop := (1 ≤ n ∧ n ≤ 12) ∧ xs.length ≤ 12 ∧ ∀ i, i < xs.length → 0 ≤ xs.getD i 0 ∧ xs.getD i 0 < n
theorem row_past (xs : List Int) (i : Nat) (h : xs.length ≤ i) : rowZ xs i = 0 := by
  unfold rowZ
  rw [List.getD_eq_getElem?_getD, List.getElem?_eq_none h]
  rfl
theorem row_lt {n : Nat} {xs : List Int} (h : RowIn (n : Int) xs) (i : Nat) : rowZ xs i < n := by
  obtain ⟨⟨h1, h2⟩, _, h3⟩ := h
  by_cases hi : i < xs.length
  · have := h3 i hi
    unfold rowZ; omega
  · rw [row_past xs i (by omega)]; omega
theorem row_val {n : Nat} {xs : List Int} (h : RowIn (n : Int) xs) (i : Nat) (hi : i < xs.length) : xs.getD i 0 = ((rowZ xs i : Nat) : Int) := by
  have := h.2.2 i hi
  unfold rowZ; omega
theorem row_nat {n : Int} {xs : List Int} (h : RowIn n xs) : ∃ m : Nat, n = (m : Int) ∧ 1 ≤ m ∧ m ≤ 12 := ⟨n.toNat, by have := h.1; omega, by have := h.1; omega, by have := h.1; omega⟩
theorem zsum_congr (n : Nat) (r r' : Nat → Nat) (k c : Nat) (h : ∀ i, i < k → r i = r' i) : zsum n r k c = zsum n r' k c := by
  unfold zsum
  rw [sumC_congr r r' c c k fun i hi => ⟨rfl, fun _ => h i hi⟩]
theorem count_congr (n : Nat) (r r' : Nat → Nat) (k v : Nat) (h : ∀ i, i < k → r i = r' i) : countN n r k v = countN n r' k v :=
  cnt_congr _ _ _ fun c hc => by rw [zsum_congr n r r' k c h]
theorem zsum_lt (n : Nat) (r : Nat → Nat) (k c : Nat) (h1 : 1 ≤ n) : zsum n r k c < n := Nat.mod_lt _ h1
theorem sumC_le (r : Nat → Nat) (c k b : Nat) (hr : ∀ i, r i ≤ b) : sumC r c k ≤ b * k := dsum_le _ b k fun i => by
  show b2n (c.testBit i) * r i ≤ b
  have := hr i
  cases c.testBit i <;> simp [b2n]
  exact this
theorem sumC_step (r : Nat → Nat) (c i : Nat) : sumC r c (i + 1) = sumC r c i + b2n (c.testBit i) * r i := rfl
/-- All positions. -/
theorem sumC_all (r : Nat → Nat) (k : Nat) : sumC r (2 ^ k - 1) k = sumTo r k := sumTo_congr _ _ k fun i hi => by
  show b2n ((2 ^ k - 1).testBit i) * r i = r i
  rw [Nat.testBit_two_pow_sub_one, decide_eq_true hi]
  simp [b2n]
theorem sumTo_head (f : Nat → Nat) (k : Nat) : sumTo f (k + 1) = f 0 + sumTo (fun i => f (i + 1)) k := by
  induction k with
  | zero => show 0 + f 0 = f 0 + 0; omega
  | succ k ih =>
    show sumTo f (k + 1) + f (k + 1) = f 0 + (sumTo (fun i => f (i + 1)) k + f (k + 1))
    rw [ih]; omega
theorem sumTo_back (f : Nat → Nat) (k : Nat) : sumTo (fun i => f (k - 1 - i)) k = sumTo f k := by
  induction k generalizing f with
  | zero => rfl
  | succ k ih =>
    rw [sumTo_head f k, ← ih (fun i => f (i + 1))]
    show sumTo (fun i => f (k + 1 - 1 - i)) k + f (k + 1 - 1 - k) = _
    rw [show k + 1 - 1 - k = 0 by omega, Nat.add_comm]
    congr 1
    exact sumTo_congr _ _ k fun i hi => by
      show f (k + 1 - 1 - i) = f (k - 1 - i + 1)
      congr 1; omega
theorem row_back (xs : List Int) : sumTo (rowZ xs.reverse) xs.length = sumTo (rowZ xs) xs.length := by
  rw [← sumTo_back (rowZ xs)]
  refine sumTo_congr _ _ _ fun i hi => ?_
  unfold rowZ
  rw [List.getD_eq_getElem?_getD, List.getElem?_reverse hi, ← List.getD_eq_getElem?_getD]
/-- Davenport: rows of n places and more have a first choice, of the first n positions. -/
theorem p_davenport (n : Nat) (r : Nat → Nat) (k : Nat) (h1 : 1 ≤ n) (h2 : n ≤ 12) (hr : ∀ i, r i < n) (hk : n ≤ k) : zfirst n r k ≠ 0 ∧ zfirst n r k < 2 ^ n := by
  obtain ⟨c, hc, h0, _, hz⟩ := row_zero n r (2 ^ n - 1) n h1 h2 hr (by rw [cntB_full]; exact Nat.le_refl _)
  have hc2 : c < 2 ^ k := Nat.lt_of_lt_of_le hc (Nat.pow_le_pow_right (by omega) hk)
  have hz2 : zsum n r k c = 0 := by
    unfold zsum at hz ⊢
    rw [sumC_far r c n k hc hk]; exact hz
  have hp := (zeroP_iff n r k c).2 hz2
  have := firstP_le (zeroP n r k) (2 ^ k) c hc2 h0 hp
  exact ⟨firstP_some _ _ c hc2 h0 hp, Nat.lt_of_le_of_lt this hc⟩
theorem first_zero (n : Nat) (r : Nat → Nat) (k : Nat) (h : zfirst n r k ≠ 0) : zfirst n r k < 2 ^ k ∧ sumC r (zfirst n r k) k % n = 0 := by
  obtain ⟨a, b⟩ := firstP_is _ _ h
  exact ⟨b, (zeroP_iff n r k _).1 a⟩
theorem first_lt (n : Nat) (r : Nat → Nat) (k : Nat) : zfirst n r k < 2 ^ k := by
  by_cases h : zfirst n r k = 0
  · rw [h]; exact Nat.two_pow_pos k
  · exact (first_zero n r k h).1
/-- The least choice of just n positions with the sum 0; 0 if there is none. -/
def ofP (n : Nat) (r : Nat → Nat) (k c : Nat) : Bool := Nat.beq (sizeN c) n && zeroP n r k c
def zeroOfN (n : Nat) (r : Nat → Nat) (k : Nat) : Nat := firstP (ofP n r k) (2 ^ k)
theorem ofP_iff (n : Nat) (r : Nat → Nat) (k c : Nat) : ofP n r k c = true ↔ sizeN c = n ∧ zsum n r k c = 0 := by
  unfold ofP
  rw [Bool.and_eq_true, zeroP_iff]
  exact ⟨fun h => ⟨Nat.eq_of_beq_eq_true h.1, h.2⟩, fun h => ⟨by rw [h.1]; exact Nat.beq_refl _, h.2⟩⟩
theorem zeroOf_is (n : Nat) (r : Nat → Nat) (k : Nat) (h : zeroOfN n r k ≠ 0) : zeroOfN n r k < 2 ^ k ∧ sizeN (zeroOfN n r k) = n ∧ sumC r (zeroOfN n r k) k % n = 0 := by
  obtain ⟨a, b⟩ := firstP_is _ _ h
  exact ⟨b, (ofP_iff n r k _).1 a⟩
theorem zeroOf_lt (n : Nat) (r : Nat → Nat) (k : Nat) : zeroOfN n r k < 2 ^ k := by
  by_cases h : zeroOfN n r k = 0
  · rw [h]; exact Nat.two_pow_pos k
  · exact (zeroOf_is n r k h).1
theorem size_cnt (c j : Nat) (hc : c < 2 ^ j) (hj : j ≤ 40) : sizeN c = cntB c j := by
  unfold sizeN
  rw [popF_cnt, cntB_all c j 40 hc hj]
theorem p_egz (n : Nat) (r : Nat → Nat) (k : Nat) (h1 : 1 ≤ n) (hr : ∀ i, r i < n) (hk : 2 * n - 1 ≤ k) (hk2 : k ≤ 12) : zeroOfN n r k ≠ 0 := by
  obtain ⟨c, hc, hs, hz⟩ := egz n r h1 (by omega) hr
  have hc2 : c < 2 ^ k := Nat.lt_of_lt_of_le hc (Nat.pow_le_pow_right (by omega) hk)
  have h0 : c ≠ 0 := fun e => by
    subst e
    have : cntB 0 (2 * n - 1) = 0 := by rw [← popF_cnt]; exact popF_zero _
    omega
  refine firstP_some _ _ c hc2 h0 ((ofP_iff n r k c).2 ⟨by rw [size_cnt c _ hc (by omega)]; exact hs, ?_⟩)
  unfold zsum at hz ⊢
  rw [sumC_far r c _ k hc hk]; exact hz
theorem sumTo_least (f g : Nat → Nat) (k : Nat) (h : ∀ v, v < k → f v ≤ g v) : sumTo f k ≤ sumTo g k := by
  induction k with
  | zero => exact Nat.le_refl _
  | succ k ih => exact Nat.add_le_add (ih fun v hv => h v (by omega)) (h k (by omega))
theorem cnt_some (p : Nat → Bool) (N i : Nat) (hi : i < N) (hp : p i = true) : 0 < cntP p N := by
  induction N with
  | zero => omega
  | succ N ih =>
    rw [cnt_step]
    by_cases e : i = N
    · subst e; rw [if_pos hp]; omega
    · have := ih (by omega)
      split <;> omega
/-- Where a row is plain, it is short and has many sums. -/
theorem p_plain (n : Nat) (r : Nat → Nat) (k : Nat) (h1 : 1 ≤ n) (h2 : n ≤ 12) (hr : ∀ i, r i < n) (hp : zfirst n r k = 0) : k < n ∧ k + 1 ≤ sumTo (fun v => b2n (Nat.blt 0 (countN n r k v))) n := by
  have hg := span_grow n r (2 ^ k - 1) k h1 h2 hr fun c hc h0 _ => zfirst_none n r k c hp hc h0
  rw [cntB_full] at hg
  have hlt := span_lt n r (2 ^ k - 1) k h1
  have hle := sizeN_le n _ h2 hlt
  refine ⟨by omega, Nat.le_trans hg ?_⟩
  rw [size_sum n _ h2 hlt]
  refine sumTo_least _ _ n fun v hv => ?_
  cases hb : (spanM n r (2 ^ k - 1) k).testBit v
  · exact Nat.zero_le _
  · obtain ⟨c, hc, _, hz⟩ := span_has n r _ k v h1 h2 hr hv hb
    have : 0 < countN n r k v := by
      have h3 := cnt_some (fun c => Nat.beq (zsum n r k c) v) (2 ^ k) c hc (by rw [hz]; exact Nat.beq_refl _)
      exact h3
    rw [(blt_iff _ _).2 this]
    exact Nat.le_refl _
theorem count_last (n : Nat) (r : Nat → Nat) (k v : Nat) (h1 : 1 ≤ n) (h2 : n ≤ 12) (hr : ∀ i, r i < n) (hv : v < n) :
    countN n r (k + 1) ((v + r k) % n) = countN n r k ((v + r k) % n) + countN n r k v := by
  rw [count_step n r k _ h1 h2 (Nat.mod_lt _ h1) (hr k), ← (row_hit n (r k) v ((v + r k) % n) h1 h2 (hr k) hv (Nat.mod_lt _ h1)).1 rfl]
theorem count_le (n : Nat) (r : Nat → Nat) (k v : Nat) : countN n r k v ≤ 2 ^ k := cnt_le _ _
/-- For each place, the choices with this sum. -/
def cntL (n : Nat) (r : Nat → Nat) (k : Nat) : List Int := tabI n fun v => ((countN n r k v : Nat) : Int)
theorem cntL_len (n : Nat) (r : Nat → Nat) (k : Nat) : (cntL n r k).length = n := tabI_len n _
theorem cntL_get (n : Nat) (r : Nat → Nat) (k v : Nat) (hv : v < n) : (cntL n r k).getD v 0 = ((countN n r k v : Nat) : Int) := tabI_get n _ v hv
end Go.Proofs.Ytnlalccnhpblkaa

/- Rows of places: the model's test of a row, its sums and first choices. Written by gen83.py. -/
namespace Go.Proofs.Ytnlalccnhpblkaa
open Go.RowKit Go.Shelf
set_option linter.unusedVariables false
theorem ringIn_dec (n : Int) (W : World) : Calls Try.prog 50 #[.int .i64 n, .int .i64 0] W fun e w' => e = .returned (.bool (decide (1 ≤ n ∧ n ≤ 12))) ∧ W = w' := by
  by_cases h : 1 ≤ n ∧ n ≤ 12
  · obtain ⟨m, rfl⟩ : ∃ m : Nat, n = (m : Int) := ⟨n.toNat, by omega⟩
    rw [decide_eq_true h]
    exact specIn_yes m 0 W (by omega) (by omega) (Nat.two_pow_pos m)
  · rw [decide_eq_false h]
    exact specIn_no n 0 W (fun hh => h ⟨hh.1, hh.2.1⟩)
theorem given_no {n : Int} {xs : List Int} {q : Bool} (hq : q = true ↔ RowIn n xs) (h : ¬ RowIn n xs) : q = false := by
  cases hc : q
  · rfl
  · exact absurd (hq.1 hc) h
theorem tmod_nat (a n : Nat) : Int.tmod (a : Int) (n : Int) = ((a % n : Nat) : Int) := (Int.ofNat_tmod a n).symm
end Go.Proofs.Ytnlalccnhpblkaa

/- Rows of places: the model's ZeroSum, ZeroFirst, ZeroOf, ZeroPlain. Written by gen84.py. -/
namespace Go.Proofs.Ytnlalccnhpblkaa
open Go.RowKit Go.Shelf
set_option linter.unusedVariables false
theorem IsInts.slice {W : World} {b : Nat} {v : Value} {xs : List Int} (h : IsInts W b v xs) : ∃ A cap, v = .slice A xs.length cap := by
  rcases h.shape with ⟨rfl, rfl⟩ | ⟨g, cap, rfl, _⟩
  · exact ⟨none, 0, rfl⟩
  · exact ⟨_, cap, rfl⟩
theorem IsInts.belowAll' {W W' : World} {b : Nat} {v : Value} {xs : List Int} (h : IsInts W b v xs) (hb : Below W.heap.size W W') : IsInts W' b v xs := h.belowAll hb
theorem pow12L {L : Nat} (h : L ≤ 12) : ∃ N : Nat, 2 ^ L = N ∧ 1 ≤ N ∧ N ≤ 4096 ∧ wrap64 (2 ^ L) = (N : Int) ∧ IntKind.i64.wrap (2 ^ L) = (N : Int) ∧ wrap64 ((N : Int) - 1) = ((N - 1 : Nat) : Int) ∧ IntKind.i64.wrap ((N : Int) - 1) = ((N - 1 : Nat) : Int) := by
  have hp := pow_le L h
  have hp1 := Nat.two_pow_pos L
  have hw := wrap_pow L (by omega)
  have hw2 : IntKind.i64.wrap (2 ^ L) = ((2 ^ L : Nat) : Int) := by rw [IntWalk.i64_left]; exact hw
  obtain ⟨N, hN⟩ : ∃ N, 2 ^ L = N := ⟨_, rfl⟩
  rw [hN] at hp hp1 hw hw2
  exact ⟨N, hN, hp1, hp, hw, hw2, by rw [IntWalk.wrap64_in _ (by omega)]; omega, by rw [IntWalk.i64_in _ (by omega)]; omega⟩
theorem row_dec (n : Int) (xs : List Int) : ∃ q : Bool, q = true ↔ RowIn n xs := by
  by_cases h : RowIn n xs
  · exact ⟨true, ⟨fun _ => h, fun _ => rfl⟩⟩
  · exact ⟨false, ⟨(fun c => by cases c), fun c => absurd c h⟩⟩
end Go.Proofs.Ytnlalccnhpblkaa
