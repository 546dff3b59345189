/- Rows of places: a row is a list of numbers of the ring, at most 12 (what promises 74 to 83 want of it). -/
import Derived.Test.YtkddaecfljiehaaZerE
import Derived.Test.YtkddaecfljiehaaZerL
import Derived.Test.YtkddaecfljiehaaGC
namespace Go.Proofs.Ytkddaecfljiehaa
set_option linter.unusedVariables false
/-- The places of a list. -/
def rowZ (xs : List Int) (i : Nat) : Nat := (xs.getD i 0).toNat
def RowIn (n : Int) (xs : List Int) : Prop := (1 ≤ n ∧ n ≤ 12) ∧ xs.length ≤ 12 ∧ ∀ i, i < xs.length → 0 ≤ xs.getD i 0 ∧ xs.getD i 0 < n
theorem row_past (xs : List Int) (i : Nat) (h : xs.length ≤ i) : rowZ xs i = 0 := by
  unfold rowZ
  rw [List.getD_eq_getElem?_getD, List.getElem?_eq_none h]
  rfl
theorem row_lt {n : Nat} {xs : List Int} (h : RowIn (n : Int) xs) (i : Nat) : rowZ xs i < n := by
  obtain ⟨⟨h1, h2⟩, _, h3⟩ := h
  by_cases hi : i < xs.length
  · have := h3 i hi
    unfold rowZ; omega
  · rw [row_past xs i (by omega)]; omega
theorem row_val {n : Nat} {xs : List Int} (h : RowIn (n : Int) xs) (i : Nat) (hi : i < xs.length) : xs.getD i 0 = ((rowZ xs i : Nat) : Int) := by
  have := h.2.2 i hi
  unfold rowZ; omega
theorem row_nat {n : Int} {xs : List Int} (h : RowIn n xs) : ∃ m : Nat, n = (m : Int) ∧ 1 ≤ m ∧ m ≤ 12 := ⟨n.toNat, by have := h.1; omega, by have := h.1; omega, by have := h.1; omega⟩
theorem zsum_congr (n : Nat) (r r' : Nat → Nat) (k c : Nat) (h : ∀ i, i < k → r i = r' i) : zsum n r k c = zsum n r' k c := by
  unfold zsum
  rw [sumC_congr r r' c c k fun i hi => ⟨rfl, fun _ => h i hi⟩]
theorem count_congr (n : Nat) (r r' : Nat → Nat) (k v : Nat) (h : ∀ i, i < k → r i = r' i) : countN n r k v = countN n r' k v :=
  cnt_congr _ _ _ fun c hc => by rw [zsum_congr n r r' k c h]
theorem zsum_lt (n : Nat) (r : Nat → Nat) (k c : Nat) (h1 : 1 ≤ n) : zsum n r k c < n := Nat.mod_lt _ h1
theorem sumC_le (r : Nat → Nat) (c k b : Nat) (hr : ∀ i, r i ≤ b) : sumC r c k ≤ b * k := dsum_le _ b k fun i => by
  show b2n (c.testBit i) * r i ≤ b
  have := hr i
  cases c.testBit i <;> simp [b2n]
  exact this
theorem sumC_step (r : Nat → Nat) (c i : Nat) : sumC r c (i + 1) = sumC r c i + b2n (c.testBit i) * r i := rfl
/-- All positions. -/
theorem sumC_all (r : Nat → Nat) (k : Nat) : sumC r (2 ^ k - 1) k = sumTo r k := sumTo_congr _ _ k fun i hi => by
  show b2n ((2 ^ k - 1).testBit i) * r i = r i
  rw [Nat.testBit_two_pow_sub_one, decide_eq_true hi]
  simp [b2n]
theorem sumTo_head (f : Nat → Nat) (k : Nat) : sumTo f (k + 1) = f 0 + sumTo (fun i => f (i + 1)) k := by
  induction k with
  | zero => show 0 + f 0 = f 0 + 0; omega
  | succ k ih =>
    show sumTo f (k + 1) + f (k + 1) = f 0 + (sumTo (fun i => f (i + 1)) k + f (k + 1))
    rw [ih]; omega
theorem sumTo_back (f : Nat → Nat) (k : Nat) : sumTo (fun i => f (k - 1 - i)) k = sumTo f k := by
  induction k generalizing f with
  | zero => rfl
  | succ k ih =>
    rw [sumTo_head f k, ← ih (fun i => f (i + 1))]
    show sumTo (fun i => f (k + 1 - 1 - i)) k + f (k + 1 - 1 - k) = _
    rw [show k + 1 - 1 - k = 0 by omega, Nat.add_comm]
    congr 1
    exact sumTo_congr _ _ k fun i hi => by
      show f (k + 1 - 1 - i) = f (k - 1 - i + 1)
      congr 1; omega
theorem row_back (xs : List Int) : sumTo (rowZ xs.reverse) xs.length = sumTo (rowZ xs) xs.length := by
  rw [← sumTo_back (rowZ xs)]
  refine sumTo_congr _ _ _ fun i hi => ?_
  unfold rowZ
  rw [List.getD_eq_getElem?_getD, List.getElem?_reverse hi, ← List.getD_eq_getElem?_getD]
/-- Davenport: rows of n places and more have a first choice, of the first n positions. -/
theorem p_davenport (n : Nat) (r : Nat → Nat) (k : Nat) (h1 : 1 ≤ n) (h2 : n ≤ 12) (hr : ∀ i, r i < n) (hk : n ≤ k) : zfirst n r k ≠ 0 ∧ zfirst n r k < 2 ^ n := by
  obtain ⟨c, hc, h0, _, hz⟩ := row_zero n r (2 ^ n - 1) n h1 h2 hr (by rw [cntB_full]; exact Nat.le_refl _)
  have hc2 : c < 2 ^ k := Nat.lt_of_lt_of_le hc (Nat.pow_le_pow_right (by omega) hk)
  have hz2 : zsum n r k c = 0 := by
    unfold zsum at hz ⊢
    rw [sumC_far r c n k hc hk]; exact hz
  have hp := (zeroP_iff n r k c).2 hz2
  have := firstP_le (zeroP n r k) (2 ^ k) c hc2 h0 hp
  exact ⟨firstP_some _ _ c hc2 h0 hp, Nat.lt_of_le_of_lt this hc⟩
theorem first_zero (n : Nat) (r : Nat → Nat) (k : Nat) (h : zfirst n r k ≠ 0) : zfirst n r k < 2 ^ k ∧ sumC r (zfirst n r k) k % n = 0 := by
  obtain ⟨a, b⟩ := firstP_is _ _ h
  exact ⟨b, (zeroP_iff n r k _).1 a⟩
theorem first_lt (n : Nat) (r : Nat → Nat) (k : Nat) : zfirst n r k < 2 ^ k := by
  by_cases h : zfirst n r k = 0
  · rw [h]; exact Nat.two_pow_pos k
  · exact (first_zero n r k h).1
/-- The least choice of just n positions with the sum 0; 0 if there is none. -/
def ofP (n : Nat) (r : Nat → Nat) (k c : Nat) : Bool := Nat.beq (sizeN c) n && zeroP n r k c
def zeroOfN (n : Nat) (r : Nat → Nat) (k : Nat) : Nat := firstP (ofP n r k) (2 ^ k)
theorem ofP_iff (n : Nat) (r : Nat → Nat) (k c : Nat) : ofP n r k c = true ↔ sizeN c = n ∧ zsum n r k c = 0 := by
  unfold ofP
  rw [Bool.and_eq_true, zeroP_iff]
  exact ⟨fun h => ⟨Nat.eq_of_beq_eq_true h.1, h.2⟩, fun h => ⟨by rw [h.1]; exact Nat.beq_refl _, h.2⟩⟩
theorem zeroOf_is (n : Nat) (r : Nat → Nat) (k : Nat) (h : zeroOfN n r k ≠ 0) : zeroOfN n r k < 2 ^ k ∧ sizeN (zeroOfN n r k) = n ∧ sumC r (zeroOfN n r k) k % n = 0 := by
  obtain ⟨a, b⟩ := firstP_is _ _ h
  exact ⟨b, (ofP_iff n r k _).1 a⟩
theorem zeroOf_lt (n : Nat) (r : Nat → Nat) (k : Nat) : zeroOfN n r k < 2 ^ k := by
  by_cases h : zeroOfN n r k = 0
  · rw [h]; exact Nat.two_pow_pos k
  · exact (zeroOf_is n r k h).1
theorem size_cnt (c j : Nat) (hc : c < 2 ^ j) (hj : j ≤ 40) : sizeN c = cntB c j := by
  unfold sizeN
  rw [popF_cnt, cntB_all c j 40 hc hj]
theorem p_egz (n : Nat) (r : Nat → Nat) (k : Nat) (h1 : 1 ≤ n) (hr : ∀ i, r i < n) (hk : 2 * n - 1 ≤ k) (hk2 : k ≤ 12) : zeroOfN n r k ≠ 0 := by
  obtain ⟨c, hc, hs, hz⟩ := egz n r h1 (by omega) hr
  have hc2 : c < 2 ^ k := Nat.lt_of_lt_of_le hc (Nat.pow_le_pow_right (by omega) hk)
  have h0 : c ≠ 0 := fun e => by
    subst e
    have : cntB 0 (2 * n - 1) = 0 := by rw [← popF_cnt]; exact popF_zero _
    omega
  refine firstP_some _ _ c hc2 h0 ((ofP_iff n r k c).2 ⟨by rw [size_cnt c _ hc (by omega)]; exact hs, ?_⟩)
  unfold zsum at hz ⊢
  rw [sumC_far r c _ k hc hk]; exact hz
theorem sumTo_least (f g : Nat → Nat) (k : Nat) (h : ∀ v, v < k → f v ≤ g v) : sumTo f k ≤ sumTo g k := by
  induction k with
  | zero => exact Nat.le_refl _
  | succ k ih => exact Nat.add_le_add (ih fun v hv => h v (by omega)) (h k (by omega))
theorem cnt_some (p : Nat → Bool) (N i : Nat) (hi : i < N) (hp : p i = true) : 0 < cntP p N := by
  induction N with
  | zero => omega
  | succ N ih =>
    rw [cnt_step]
    by_cases e : i = N
    · subst e; rw [if_pos hp]; omega
    · have := ih (by omega)
      split <;> omega
/-- Where a row is plain, it is short and has many sums. -/
theorem p_plain (n : Nat) (r : Nat → Nat) (k : Nat) (h1 : 1 ≤ n) (h2 : n ≤ 12) (hr : ∀ i, r i < n) (hp : zfirst n r k = 0) : k < n ∧ k + 1 ≤ sumTo (fun v => b2n (Nat.blt 0 (countN n r k v))) n := by
  have hg := span_grow n r (2 ^ k - 1) k h1 h2 hr fun c hc h0 _ => zfirst_none n r k c hp hc h0
  rw [cntB_full] at hg
  have hlt := span_lt n r (2 ^ k - 1) k h1
  have hle := sizeN_le n _ h2 hlt
  refine ⟨by omega, Nat.le_trans hg ?_⟩
  rw [size_sum n _ h2 hlt]
  refine sumTo_least _ _ n fun v hv => ?_
  cases hb : (spanM n r (2 ^ k - 1) k).testBit v
  · exact Nat.zero_le _
  · obtain ⟨c, hc, _, hz⟩ := span_has n r _ k v h1 h2 hr hv hb
    have : 0 < countN n r k v := by
      have h3 := cnt_some (fun c => Nat.beq (zsum n r k c) v) (2 ^ k) c hc (by rw [hz]; exact Nat.beq_refl _)
      exact h3
    rw [(blt_iff _ _).2 this]
    exact Nat.le_refl _
theorem count_last (n : Nat) (r : Nat → Nat) (k v : Nat) (h1 : 1 ≤ n) (h2 : n ≤ 12) (hr : ∀ i, r i < n) (hv : v < n) :
    countN n r (k + 1) ((v + r k) % n) = countN n r k ((v + r k) % n) + countN n r k v := by
  rw [count_step n r k _ h1 h2 (Nat.mod_lt _ h1) (hr k), ← (row_hit n (r k) v ((v + r k) % n) h1 h2 (hr k) hv (Nat.mod_lt _ h1)).1 rfl]
theorem count_le (n : Nat) (r : Nat → Nat) (k v : Nat) : countN n r k v ≤ 2 ^ k := cnt_le _ _
/-- For each place, the choices with this sum. -/
def cntL (n : Nat) (r : Nat → Nat) (k : Nat) : List Int := tabI n fun v => ((countN n r k v : Nat) : Int)
theorem cntL_len (n : Nat) (r : Nat → Nat) (k : Nat) : (cntL n r k).length = n := tabI_len n _
theorem cntL_get (n : Nat) (r : Nat → Nat) (k v : Nat) (hv : v < n) : (cntL n r k).getD v 0 = ((countN n r k v : Nat) : Int) := tabI_get n _ v hv
end Go.Proofs.Ytkddaecfljiehaa
