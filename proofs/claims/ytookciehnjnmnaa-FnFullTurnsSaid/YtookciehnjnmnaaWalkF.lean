/- Walks on every ring of at most 12 places by all steps, gone through one by one: what is computed, and what it says. -/
import Derived.Test.YtookciehnjnmnaaWalkC
import Derived.Test.YtookciehnjnmnaaGC
namespace Go.Proofs.Ytookciehnjnmnaa
set_option linter.unusedVariables false
def rtF (n b v : Nat) : Nat := (b <<< v ||| b >>> (n - v)) &&& (2 ^ n - 1)
def stF (n a h : Nat) : Nat → Nat
  | 0 => 0
  | v + 1 => if Nat.beq ((h >>> v) % 2) 1 then stF n a h v ||| rtF n a v else stF n a h v
/-- The divisor behind a round, and where the set was full first (99: nowhere yet). -/
def gF (x g k : Nat) : Nat := if Nat.beq (x % 2) 1 then Nat.gcd g k else g
def fF (n x f k : Nat) : Nat := if Nat.beq f 99 && Nat.beq x (2 ^ n - 1) then k else f
/-- The divisor behind n rounds. -/
def hF (n k g h : Nat) : Nat := if Nat.beq k n then g else h
def endF (n s p q g f h : Nat) : Bool :=
  Nat.beq g h && (Nat.beq s 0 || (Nat.ble 1 g && (Nat.beq f 99 == !(Nat.beq g 1 && Nat.beq p 1)) && Nat.beq (g * p) q)) && (Nat.beq f 99 || Nat.blt f n)
def goF (n s p q : Nat) : Nat → Nat → Nat → Nat → Nat → Nat → Bool
  | 0, _, _, g, f, h => endF n s p q g f h
  | r + 1, k, x, g, f, h => match stF n s x n with
    | 0 => goF n s p q r (k + 1) 0 (gF 0 g (k + 1)) (fF n 0 f (k + 1)) (hF n (k + 1) (gF 0 g (k + 1)) h)
    | m + 1 => goF n s p q r (k + 1) (m + 1) (gF (m + 1) g (k + 1)) (fF n (m + 1) f (k + 1)) (hF n (k + 1) (gF (m + 1) g (k + 1)) h)
theorem goF_up (n s p q r k x g f h y : Nat) (e : stF n s x n = y) : goF n s p q (r + 1) k x g f h = goF n s p q r (k + 1) y (gF y g (k + 1)) (fF n y f (k + 1)) (hF n (k + 1) (gF y g (k + 1)) h) := by
  show (match stF n s x n with
    | 0 => goF n s p q r (k + 1) 0 (gF 0 g (k + 1)) (fF n 0 f (k + 1)) (hF n (k + 1) (gF 0 g (k + 1)) h)
    | m + 1 => goF n s p q r (k + 1) (m + 1) (gF (m + 1) g (k + 1)) (fF n (m + 1) f (k + 1)) (hF n (k + 1) (gF (m + 1) g (k + 1)) h)) = _
  rw [e]
  cases y <;> rfl
/-- The steps turned back and added to them, without 0: their divisor. -/
def backP (n s : Nat) : Nat := partsN n (lessN (sumN n s (turnN n s (-1))) 1)
def oneF (n s : Nat) : Bool := goF n s (partsN n s) (backP n s) (2 * n) 0 1 0 (fF n 1 99 0) 0
def spanF (n lo : Nat) : Nat → Bool
  | 0 => true
  | k + 1 => oneF n (2 * (lo + k)) && spanF n lo k
theorem spanF_ok (n lo k : Nat) (h : spanF n lo k = true) (b : Nat) (h1 : lo ≤ b) (h2 : b < lo + k) : oneF n (2 * b) = true := by
  induction k with
  | zero => omega
  | succ k ih =>
    have h' : (oneF n (2 * (lo + k)) && spanF n lo k) = true := h
    rw [Bool.and_eq_true] at h'
    by_cases e : b = lo + k
    · rw [e]; exact h'.1
    · exact ih h'.2 (by omega)
theorem rtF_shift (n b v : Nat) (hv : v < n) : rtF n b v = shiftN n b (v : Int) := by
  unfold rtF shiftN shl
  rw [rest_self n v hv]
theorem beq_bitF (h v : Nat) : Nat.beq ((h >>> v) % 2) 1 = h.testBit v := by
  rw [Nat.testBit, Nat.and_comm, Nat.and_one_is_mod]
  rcases Nat.mod_two_eq_zero_or_one (h >>> v) with e | e <;> rw [e] <;> rfl
theorem stF_eq (n a h j : Nat) (hj : j ≤ n) : stF n a h j = overSet h (sumS n a) j 0 := by
  induction j with
  | zero => rfl
  | succ j ih =>
    rw [over_step]
    show (if Nat.beq ((h >>> j) % 2) 1 then stF n a h j ||| rtF n a j else stF n a h j) = _
    rw [beq_bitF, ih (by omega), rtF_shift n a j (by omega)]
    rfl
theorem stF_sum (n a h : Nat) : stF n a h n = sumN n a h := stF_eq n a h n (Nat.le_refl n)
/-- Where the set was full first, among the first k. -/
def fstN (n s : Nat) : Nat → Nat
  | 0 => fF n 1 99 0
  | k + 1 => fF n (wsetN n s (k + 1)) (fstN n s k) (k + 1)
theorem turn_gF (n s k : Nat) : wturnN n s (k + 1) = gF (wsetN n s (k + 1)) (wturnN n s k) (k + 1) := by
  show (if (wsetN n s (k + 1)).testBit 0 then Nat.gcd (wturnN n s k) (k + 1) else wturnN n s k) = _
  unfold gF
  have h := beq_bitF (wsetN n s (k + 1)) 0
  rw [Nat.shiftRight_zero] at h
  rw [h]
/-- The divisor behind n rounds, told after k. -/
def hafN (n s : Nat) : Nat → Nat
  | 0 => 0
  | k + 1 => hF n (k + 1) (wturnN n s (k + 1)) (hafN n s k)
theorem haf_at (n s k : Nat) (h1 : 1 ≤ n) (hk : n ≤ k) : hafN n s k = wturnN n s n := by
  induction k with
  | zero => omega
  | succ k ih =>
    show hF n (k + 1) (wturnN n s (k + 1)) (hafN n s k) = _
    unfold hF
    cases hb : Nat.beq (k + 1) n
    · have h := Nat.ne_of_beq_eq_false hb
      exact ih (by omega)
    · rw [← Nat.eq_of_beq_eq_true hb]
      rfl
theorem goF_all (n s p q r k : Nat) : goF n s p q r k (wsetN n s k) (wturnN n s k) (fstN n s k) (hafN n s k) = endF n s p q (wturnN n s (k + r)) (fstN n s (k + r)) (hafN n s (k + r)) := by
  induction r generalizing k with
  | zero => rfl
  | succ r ih =>
    rw [goF_up n s p q r k _ _ _ _ (wsetN n s (k + 1)) (stF_sum n s _), ← turn_gF]
    show goF n s p q r (k + 1) (wsetN n s (k + 1)) (wturnN n s (k + 1)) (fstN n s (k + 1)) (hafN n s (k + 1)) = _
    rw [ih (k + 1), show k + 1 + r = k + (r + 1) by omega]
theorem one_end (n s : Nat) (h : oneF n s = true) : endF n s (partsN n s) (backP n s) (wturnN n s (2 * n)) (fstN n s (2 * n)) (hafN n s (2 * n)) = true := by
  have e := goF_all n s (partsN n s) (backP n s) (2 * n) 0
  rw [Nat.zero_add] at e
  rw [← e]
  exact h
theorem fst_facts (n s k : Nat) (hk : k < 99) : (fstN n s k = 99 ∧ ∀ j, j ≤ k → wsetN n s j ≠ 2 ^ n - 1) ∨ (fstN n s k ≤ k ∧ wsetN n s (fstN n s k) = 2 ^ n - 1 ∧ ∀ j, j < fstN n s k → wsetN n s j ≠ 2 ^ n - 1) := by
  induction k with
  | zero =>
    by_cases c : (1 : Nat) = 2 ^ n - 1
    · have e : fstN n s 0 = 0 := by
        show fF n 1 99 0 = 0
        unfold fF
        rw [← c]
        rfl
      rw [e]
      exact .inr ⟨Nat.le_refl _, c, fun j hj => by omega⟩
    · have e : fstN n s 0 = 99 := by
        show fF n 1 99 0 = 99
        unfold fF
        have hb : Nat.beq 1 (2 ^ n - 1) = false := by
          cases h : Nat.beq 1 (2 ^ n - 1)
          · rfl
          · exact absurd (Nat.eq_of_beq_eq_true h) c
        rw [hb]
        rfl
      exact .inl ⟨e, fun j hj => by obtain rfl : j = 0 := by omega
                                    exact c⟩
  | succ k ih =>
    have hs : fstN n s (k + 1) = fF n (wsetN n s (k + 1)) (fstN n s k) (k + 1) := rfl
    rcases ih (by omega) with ⟨a, b⟩ | ⟨a, b, d⟩
    · by_cases c : wsetN n s (k + 1) = 2 ^ n - 1
      · have e : fstN n s (k + 1) = k + 1 := by
          rw [hs, a, c]
          unfold fF
          rw [Nat.beq_refl (2 ^ n - 1)]
          rfl
        rw [e]
        exact .inr ⟨Nat.le_refl _, c, fun j hj => b j (by omega)⟩
      · have e : fstN n s (k + 1) = 99 := by
          rw [hs, a]
          unfold fF
          have hb : Nat.beq (wsetN n s (k + 1)) (2 ^ n - 1) = false := by
            cases h : Nat.beq (wsetN n s (k + 1)) (2 ^ n - 1)
            · rfl
            · exact absurd (Nat.eq_of_beq_eq_true h) c
          rw [hb]
          rfl
        refine .inl ⟨e, fun j hj => ?_⟩
        by_cases e2 : j = k + 1
        · rw [e2]; exact c
        · exact b j (by omega)
    · have e : fstN n s (k + 1) = fstN n s k := by
        rw [hs]
        unfold fF
        have hb : Nat.beq (fstN n s k) 99 = false := by
          cases h : Nat.beq (fstN n s k) 99
          · rfl
          · have := Nat.eq_of_beq_eq_true h; omega
        rw [hb]
        rfl
      rw [e]
      exact .inr ⟨by omega, b, d⟩
end Go.Proofs.Ytookciehnjnmnaa
