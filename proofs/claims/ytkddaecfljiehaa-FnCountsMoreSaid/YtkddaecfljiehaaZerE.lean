/- Rows of places: one less than twice as many places have n of the sum 0 (promise 80), by sorted rows of at most six places' rings gone through by the kernel. -/
import Derived.Test.YtkddaecfljiehaaZerM
namespace Go.Proofs.Ytkddaecfljiehaa
set_option linter.unusedVariables false
/-- A set of places turned on by x. -/
def rotE (n m x : Nat) : Nat := (((m &&& (2 ^ n - 1)) <<< x) ||| ((m &&& (2 ^ n - 1)) >>> (n - x))) &&& (2 ^ n - 1)
theorem full_lt (n m : Nat) : m &&& (2 ^ n - 1) < 2 ^ n := Nat.and_lt_two_pow m (by have := Nat.two_pow_pos n; omega)
theorem rotE_shift (n m x : Nat) (hx : x < n) : rotE n m x = shiftN n (m &&& (2 ^ n - 1)) (x : Int) := by
  unfold rotE shiftN
  rw [rest_self n x hx]
  rfl
theorem rotE_bit (n m x v : Nat) (h1 : 1 ≤ n) (hx : x < n) (hv : v < n) : (rotE n m x).testBit v = m.testBit (rest n ((v : Int) - (x : Int))) := by
  have hr := rest_lt n ((v : Int) - (x : Int)) h1
  rw [rotE_shift n m x hx, shift_mem n _ _ h1 (full_lt n m) v hv, Nat.testBit_and, Nat.testBit_two_pow_sub_one, decide_eq_true hr, Bool.and_true]
theorem rotE_lt (n m x : Nat) : rotE n m x < 2 ^ n := full_lt n _
theorem rotE_or (n a b x : Nat) (h1 : 1 ≤ n) (hx : x < n) : rotE n (a ||| b) x = rotE n a x ||| rotE n b x := by
  refine ext_bits (rotE_lt n _ _) (Nat.or_lt_two_pow (rotE_lt n _ _) (rotE_lt n _ _)) fun v hv => ?_
  rw [rotE_bit n _ x v h1 hx hv, Nat.testBit_or, Nat.testBit_or, rotE_bit n a x v h1 hx hv, rotE_bit n b x v h1 hx hv]
theorem rotE_comm (n m x y : Nat) (h1 : 1 ≤ n) (hx : x < n) (hy : y < n) : rotE n (rotE n m x) y = rotE n (rotE n m y) x := by
  refine ext_bits (rotE_lt n _ _) (rotE_lt n _ _) fun v hv => ?_
  have r1 := rest_lt n ((v : Int) - (y : Int)) h1
  have r2 := rest_lt n ((v : Int) - (x : Int)) h1
  rw [rotE_bit n _ y v h1 hy hv, rotE_bit n _ x _ h1 hx r1, rotE_bit n _ x v h1 hx hv, rotE_bit n _ y _ h1 hy r2, rest_mix n _ _ h1, rest_mix n _ _ h1]
  congr 2
  omega
/-- One place more: p is the set of one position less. -/
def stepE (n x : Nat) : Nat → List Nat → List Nat
  | _, [] => []
  | p, m :: ms => match m ||| rotE n p x with
    | 0 => 0 :: stepE n x m ms
    | q + 1 => (q + 1) :: stepE n x m ms
theorem stepE_cons (n x p m : Nat) (ms : List Nat) : stepE n x p (m :: ms) = (m ||| rotE n p x) :: stepE n x m ms := by
  conv => lhs; unfold stepE
  cases m ||| rotE n p x <;> rfl
theorem rotE_zero (n x : Nat) : rotE n 0 x = 0 := by unfold rotE; simp
theorem stepE_len (n x p : Nat) (S : List Nat) : (stepE n x p S).length = S.length := by
  induction S generalizing p with
  | nil => rfl
  | cons m ms ih => rw [stepE_cons, List.length_cons, ih, List.length_cons]
theorem stepE_get (n x p : Nat) (S : List Nat) (t : Nat) (ht : t < S.length) : (stepE n x p S).getD t 0 = S.getD t 0 ||| rotE n (if t = 0 then p else S.getD (t - 1) 0) x := by
  induction S generalizing p t with
  | nil => simp at ht
  | cons m ms ih =>
    rw [stepE_cons]
    cases t with
    | zero => simp
    | succ t =>
      have e := ih m t (by simpa using ht)
      rw [List.getD_cons_succ, List.getD_cons_succ, e, if_neg (show ¬ t + 1 = 0 by omega)]
      cases t with
      | zero => rfl
      | succ t => rfl
def stE (n : Nat) (S : List Nat) (x : Nat) : List Nat := stepE n x 0 S
theorem list_ext {xs ys : List Nat} (hl : xs.length = ys.length) (h : ∀ t, t < xs.length → xs.getD t 0 = ys.getD t 0) : xs = ys := by
  refine List.ext_getElem hl fun i h1 h2 => ?_
  have a := h i h1
  rw [List.getD_eq_getElem?_getD, List.getElem?_eq_getElem h1, List.getD_eq_getElem?_getD, List.getElem?_eq_getElem h2] at a
  exact a
theorem stE_comm (n : Nat) (h1 : 1 ≤ n) (S : List Nat) (x y : Nat) (hx : x < n) (hy : y < n) : stE n (stE n S x) y = stE n (stE n S y) x := by
  unfold stE
  refine list_ext (by rw [stepE_len, stepE_len, stepE_len, stepE_len]) fun t ht => ?_
  rw [stepE_len, stepE_len] at ht
  rw [stepE_get n y 0 (stepE n x 0 S) t (by rw [stepE_len]; exact ht), stepE_get n x 0 (stepE n y 0 S) t (by rw [stepE_len]; exact ht), stepE_get n x 0 S t ht, stepE_get n y 0 S t ht]
  by_cases h0 : t = 0
  · subst h0
    simp only [if_true, rotE_zero, Nat.or_zero]
  · rw [if_neg h0, if_neg h0, if_neg h0, stepE_get n x 0 S (t - 1) (by omega), stepE_get n y 0 S (t - 1) (by omega), rotE_or n _ _ y h1 hy, rotE_or n _ _ x h1 hx]
    generalize S.getD t 0 = a
    generalize S.getD (t - 1) 0 = b
    rw [rotE_comm n _ x y h1 hx hy]
    generalize rotE n (rotE n (if t - 1 = 0 then 0 else S.getD (t - 1 - 1) 0) y) x = c
    generalize rotE n b x = d
    generalize rotE n b y = e
    rw [Nat.or_assoc, ← Nat.or_assoc d e c, Nat.or_comm d e, Nat.or_assoc e d c, ← Nat.or_assoc]
def initE (n : Nat) : List Nat := 1 :: List.replicate n 0
theorem initE_len (n : Nat) : (initE n).length = n + 1 := by simp [initE]
theorem initE_get (n t : Nat) : (initE n).getD t 0 = if t = 0 then 1 else 0 := by
  unfold initE
  cases t with
  | zero => rfl
  | succ t =>
    rw [List.getD_cons_succ, if_neg (by omega), List.getD_eq_getElem?_getD, List.getElem?_replicate]
    split <;> rfl
def goodE (n : Nat) (S : List Nat) : Bool := Nat.beq (S.getD n 0 % 2) 1
theorem good_bit (n : Nat) (S : List Nat) : goodE n S = (S.getD n 0).testBit 0 := by
  unfold goodE
  rw [Nat.testBit_zero]
  rw [Bool.eq_iff_iff, decide_eq_true_iff]
  exact ⟨fun h => Nat.eq_of_beq_eq_true h, fun h => by rw [h]; rfl⟩
theorem good_step (n : Nat) (S : List Nat) (x : Nat) (hl : S.length = n + 1) (h : goodE n S = true) : goodE n (stE n S x) = true := by
  rw [good_bit] at h ⊢
  unfold stE
  rw [stepE_get n x 0 S n (by omega), Nat.testBit_or, h]; rfl
theorem good_fold (n : Nat) (xs : List Nat) (S : List Nat) (hl : S.length = n + 1) (h : goodE n S = true) : goodE n (xs.foldl (stE n) S) = true := by
  induction xs generalizing S with
  | nil => exact h
  | cons x xs ih => exact ih _ (by unfold stE; rw [stepE_len]; exact hl) (good_step n S x hl h)
/-- Whether all sorted rows of k places more, from lo on, come to n positions of the sum 0. -/
def chkE (n : Nat) : Nat → Nat → List Nat → Bool
  | 0, _, S => goodE n S
  | k + 1, lo, S => goodE n S || (List.range n).all fun x => Nat.blt x lo || chkE n k x (stE n S x)
theorem chk_sound (n k lo : Nat) (S : List Nat) (hl : S.length = n + 1) (h : chkE n k lo S = true) (xs : List Nat) (hk : xs.length = k) (hs : xs.Pairwise (· ≤ ·)) (hb : ∀ x, x ∈ xs → lo ≤ x ∧ x < n) :
    goodE n (xs.foldl (stE n) S) = true := by
  induction k generalizing lo S xs with
  | zero =>
    obtain rfl : xs = [] := List.eq_nil_of_length_eq_zero hk
    exact h
  | succ k ih =>
    cases xs with
    | nil => simp at hk
    | cons x xs =>
      rcases (Bool.or_eq_true _ _).mp (show (goodE n S || (List.range n).all fun x => Nat.blt x lo || chkE n k x (stE n S x)) = true from h) with c | c
      · exact good_fold n (x :: xs) S hl c
      · obtain ⟨hx1, hx2⟩ := hb x (by simp)
        have d := List.all_eq_true.1 c x (List.mem_range.2 hx2)
        rcases (Bool.or_eq_true _ _).mp d with e | e
        · have := (blt_iff _ _).1 e; omega
        · obtain ⟨p1, p2⟩ := List.pairwise_cons.1 hs
          exact ih x (stE n S x) (by unfold stE; rw [stepE_len]; exact hl) e xs (by simpa using hk) p2 fun y hy => ⟨p1 y hy, (hb y (by simp [hy])).2⟩
def egzAll : Bool := (List.range 7).all fun n => Nat.beq n 0 || chkE n (2 * n - 1) 0 (initE n)
theorem egz_all : egzAll = true := by decide +kernel
/-- What the first j places of a row make. -/
def runE (n : Nat) (r : Nat → Nat) (j : Nat) : List Nat := ((List.range j).map r).foldl (stE n) (initE n)
theorem runE_len (n : Nat) (r : Nat → Nat) (j : Nat) : (runE n r j).length = n + 1 := by
  have h : ∀ (xs S : List Nat), S.length = n + 1 → (xs.foldl (stE n) S).length = n + 1 := by
    intro xs
    induction xs with
    | nil => exact fun S h => h
    | cons x xs ih => exact fun S h => ih _ (by unfold stE; rw [stepE_len]; exact h)
  exact h _ _ (initE_len n)
theorem runE_step (n : Nat) (r : Nat → Nat) (j : Nat) : runE n r (j + 1) = stE n (runE n r j) (r j) := by
  unfold runE
  rw [List.range_succ, List.map_append, List.foldl_append]
  rfl
theorem cntB_hi (c j : Nat) (hc : c < 2 ^ j) : cntB (2 ^ j + c) (j + 1) = cntB c j + 1 := by
  have h : ∀ i, i ≤ j → cntB (2 ^ j + c) i = cntB c i := by
    intro i
    induction i with
    | zero => intro _; rfl
    | succ i ih =>
      intro hi
      rw [cntB_step, cntB_step, ih (by omega), Nat.testBit_two_pow_add_gt (by omega)]
  rw [cntB_step, h j (Nat.le_refl _), Nat.testBit_two_pow_add_eq, Nat.testBit_lt_two_pow hc]
  rfl
theorem cntB_lo (c j : Nat) (hc : c < 2 ^ j) : cntB c (j + 1) = cntB c j := by
  rw [cntB_step, Nat.testBit_lt_two_pow hc]; rfl
theorem run_sound (n : Nat) (r : Nat → Nat) (h1 : 1 ≤ n) (h2 : n ≤ 12) (hr : ∀ i, r i < n) (j t v : Nat) (ht : t ≤ n) (hv : v < n) (h : ((runE n r j).getD t 0).testBit v = true) :
    ∃ c, c < 2 ^ j ∧ cntB c j = t ∧ zsum n r j c = v := by
  induction j generalizing t v with
  | zero =>
    have e : (runE n r 0).getD t 0 = if t = 0 then 1 else 0 := initE_get n t
    rw [e] at h
    by_cases h0 : t = 0
    · subst h0
      rw [if_pos rfl] at h
      have hv0 : v = 0 := by
        cases v with
        | zero => rfl
        | succ v => rw [Nat.testBit_succ] at h; simp at h
      exact ⟨0, by omega, rfl, by unfold zsum; rw [sumC_zero, Nat.zero_mod, hv0]⟩
    · rw [if_neg h0, Nat.zero_testBit] at h; cases h
  | succ j ih =>
    have hp : 2 ^ (j + 1) = 2 ^ j + 2 ^ j := by rw [Nat.pow_succ, Nat.mul_two]
    rw [runE_step] at h
    unfold stE at h
    rw [stepE_get n (r j) 0 _ t (by rw [runE_len]; omega), Nat.testBit_or, Bool.or_eq_true, rotE_bit n _ (r j) v h1 (hr j) hv] at h
    rcases h with h | h
    · obtain ⟨c, hc, hn, hz⟩ := ih t v ht hv h
      exact ⟨c, by omega, by rw [cntB_lo c j hc]; exact hn, by unfold zsum at hz ⊢; rw [sumC_lo r c j hc]; exact hz⟩
    · by_cases h0 : t = 0
      · rw [if_pos h0, Nat.zero_testBit] at h; cases h
      · rw [if_neg h0] at h
        obtain ⟨c, hc, hn, hz⟩ := ih (t - 1) _ (by omega) (rest_lt n _ h1) h
        refine ⟨2 ^ j + c, by omega, by rw [cntB_hi c j hc, hn]; omega, ?_⟩
        unfold zsum
        rw [sumC_hi r c j hc, ← Nat.mod_add_mod]
        exact (row_hit n (r j) _ v h1 h2 (hr j) (Nat.mod_lt _ h1) hv).2 hz
theorem egz (n : Nat) (r : Nat → Nat) (h1 : 1 ≤ n) (h6 : n ≤ 6) (hr : ∀ i, r i < n) : ∃ c, c < 2 ^ (2 * n - 1) ∧ cntB c (2 * n - 1) = n ∧ zsum n r (2 * n - 1) c = 0 := by
  have ha := List.all_eq_true.1 egz_all n (List.mem_range.2 (by omega))
  have hc : chkE n (2 * n - 1) 0 (initE n) = true := by
    rcases (Bool.or_eq_true _ _).mp ha with c | c
    · have := Nat.eq_of_beq_eq_true c; omega
    · exact c
  refine run_sound n r h1 (by omega) hr (2 * n - 1) n 0 (Nat.le_refl _) (by omega) ?_
  rw [← good_bit]
  unfold runE
  have hperm := List.mergeSort_perm ((List.range (2 * n - 1)).map r) (fun a b => decide (a ≤ b))
  have hmem : ∀ x, x ∈ (List.range (2 * n - 1)).map r → x < n := fun x hx => by
    obtain ⟨i, _, e⟩ := List.mem_map.1 hx
    rw [← e]; exact hr i
  rw [List.Perm.foldl_eq' hperm.symm (fun x hx y hy z => stE_comm n h1 z x y (hmem x hx) (hmem y hy)) (initE n)]
  refine chk_sound n (2 * n - 1) 0 (initE n) (initE_len n) hc _ (by rw [hperm.length_eq]; simp) ?_ fun x hx => ⟨Nat.zero_le _, hmem x (hperm.mem_iff.1 hx)⟩
  have hp := List.pairwise_mergeSort (le := fun a b : Nat => decide (a ≤ b)) (fun a b c h1 h2 => by simp at *; omega) (fun a b => by simp; omega) ((List.range (2 * n - 1)).map r)
  exact hp.imp fun h => by simpa using h
end Go.Proofs.Ytkddaecfljiehaa
