/- Free sets on every ring of at most 12 places by all even steps, gone through one by one: what is computed, and what it says. -/
import Derived.Test.YtmombdahabimbaaFreA
import Derived.Test.YtmombdahabimbaaGN
namespace Go.Proofs.Ytmombdahabimbaa
set_option linter.unusedVariables false
/-- A run over 2^k numbers from a on, what comes out of each one forced. -/
def foldR (g : Nat → Nat → Nat) : Nat → Nat → Nat → Nat
  | 0, a, m => match a with
    | 0 => g 0 m
    | b + 1 => g (b + 1) m
  | k + 1, a, m => match foldR g k a m with
    | 0 => foldR g k (a + 2 ^ k) 0
    | v + 1 => foldR g k (a + 2 ^ k) (v + 1)
theorem foldR_up (g : Nat → Nat → Nat) (k a m : Nat) : foldR g (k + 1) a m = foldR g k (a + 2 ^ k) (foldR g k a m) := by
  show (match foldR g k a m with
    | 0 => foldR g k (a + 2 ^ k) 0
    | v + 1 => foldR g k (a + 2 ^ k) (v + 1)) = _
  cases foldR g k a m <;> rfl
theorem foldR_zero (g : Nat → Nat → Nat) (a m : Nat) : foldR g 0 a m = g a m := by
  show (match a with
    | 0 => g 0 m
    | b + 1 => g (b + 1) m) = _
  cases a <;> rfl
theorem foldR_run (g : Nat → Nat → Nat) (F : Nat → Nat) (h : ∀ i, F (i + 1) = g i (F i)) (k a : Nat) : foldR g k a (F a) = F (a + 2 ^ k) := by
  induction k generalizing a with
  | zero => rw [foldR_zero, ← h]
  | succ k ih => rw [foldR_up, ih a, ih (a + 2 ^ k), Nat.add_assoc, ← Nat.two_mul, Nat.pow_succ, Nat.mul_comm]
theorem foldR_lt (g : Nat → Nat → Nat) (F : Nat → Nat) (n : Nat) (h : ∀ i, i < 2 ^ n → F (i + 1) = g i (F i)) (k a : Nat) (ha : a + 2 ^ k ≤ 2 ^ n) : foldR g k a (F a) = F (a + 2 ^ k) := by
  induction k generalizing a with
  | zero => rw [foldR_zero, ← h a (by have := ha; simp at this; omega)]
  | succ k ih =>
    have e : 2 ^ (k + 1) = 2 ^ k + 2 ^ k := by rw [Nat.pow_succ]; omega
    have hp := Nat.two_pow_pos k
    rw [foldR_up, ih a (by omega), ih (a + 2 ^ k) (by omega), Nat.add_assoc, ← e]
/-- Whether a set is free, shift by shift. -/
def frK (n s x : Nat) : Nat → Bool
  | 0 => true
  | d + 1 => (if Nat.beq ((s >>> d) % 2) 1 then Nat.beq (rtF n x d &&& x) 0 else true) && frK n s x d
theorem beq_or_zero (a b : Nat) : Nat.beq (a ||| b) 0 = (Nat.beq a 0 && Nat.beq b 0) := by
  cases ha : Nat.beq a 0 <;> cases hb : Nat.beq b 0
  all_goals
    cases hc : Nat.beq (a ||| b) 0
    all_goals try rfl
    all_goals exfalso
  · have h := Nat.eq_of_beq_eq_true hc
    rw [Nat.or_eq_zero_iff] at h
    exact Nat.ne_of_beq_eq_false ha h.1
  · have h := Nat.eq_of_beq_eq_true hc
    rw [Nat.or_eq_zero_iff] at h
    exact Nat.ne_of_beq_eq_false ha h.1
  · have h := Nat.eq_of_beq_eq_true hc
    rw [Nat.or_eq_zero_iff] at h
    exact Nat.ne_of_beq_eq_false hb h.2
  · exact Nat.ne_of_beq_eq_false hc (by rw [Nat.eq_of_beq_eq_true ha, Nat.eq_of_beq_eq_true hb]; rfl)
theorem frK_over (n s x k : Nat) (hk : k ≤ n) : frK n s x k = Nat.beq (overSet s (sumS n x) k 0 &&& x) 0 := by
  induction k with
  | zero =>
    show true = Nat.beq (0 &&& x) 0
    rw [Nat.zero_and]; rfl
  | succ k ih =>
    show ((if Nat.beq ((s >>> k) % 2) 1 then Nat.beq (rtF n x k &&& x) 0 else true) && frK n s x k) = _
    rw [beq_bitF, ih (by omega), over_step, rtF_shift n x k (by omega)]
    cases s.testBit k
    · rfl
    · show (Nat.beq (shiftN n x (k : Int) &&& x) 0 && _) = Nat.beq ((overSet s (sumS n x) k 0 ||| shiftN n x (k : Int)) &&& x) 0
      rw [Nat.and_or_distrib_right, beq_or_zero, Bool.and_comm]
theorem frK_free (n s x : Nat) (h1 : 1 ≤ n) (hs : s < 2 ^ n) (hx : x < 2 ^ n) : frK n s x n = fsetN n s x := by
  rw [frK_over n s x n (Nat.le_refl n)]
  unfold fsetN
  rw [sum_comm n s x h1 hs hx]
  rfl
/-- The same by a list of steps, the set being none of greater numbers. -/
def frL (n x : Nat) : List Nat → Bool
  | [] => true
  | d :: ds => Nat.beq ((x <<< d ||| x >>> (n - d)) &&& x) 0 && frL n x ds
/-- The places of a set below k, in order. -/
def bitsL (s : Nat) : Nat → List Nat → List Nat
  | 0, acc => acc
  | d + 1, acc => if Nat.beq ((s >>> d) % 2) 1 then bitsL s d (d :: acc) else bitsL s d acc
theorem rt_and (n x d : Nat) (hx : x < 2 ^ n) : rtF n x d &&& x = (x <<< d ||| x >>> (n - d)) &&& x := by
  unfold rtF
  rw [Nat.and_assoc]
  congr 1
  rw [Nat.and_comm, Nat.and_two_pow_sub_one_eq_mod, Nat.mod_eq_of_lt hx]
theorem frL_bits (n s x k : Nat) (acc : List Nat) (hx : x < 2 ^ n) : frL n x (bitsL s k acc) = (frK n s x k && frL n x acc) := by
  induction k generalizing acc with
  | zero => rfl
  | succ k ih =>
    show frL n x (if Nat.beq ((s >>> k) % 2) 1 then bitsL s k (k :: acc) else bitsL s k acc) = ((if Nat.beq ((s >>> k) % 2) 1 then Nat.beq (rtF n x k &&& x) 0 else true) && frK n s x k && frL n x acc)
    cases Nat.beq ((s >>> k) % 2) 1
    · exact ih acc
    · refine (ih (k :: acc)).trans ?_
      rw [rt_and n x k hx]
      show (frK n s x k && (Nat.beq ((x <<< k ||| x >>> (n - k)) &&& x) 0 && frL n x acc)) = (Nat.beq ((x <<< k ||| x >>> (n - k)) &&& x) 0 && frK n s x k && frL n x acc)
      cases frK n s x k <;> cases Nat.beq ((x <<< k ||| x >>> (n - k)) &&& x) 0 <;> rfl
theorem frL_free (n s x : Nat) (h1 : 1 ≤ n) (hs : s < 2 ^ n) (hx : x < 2 ^ n) : frL n x (bitsL s n []) = fsetN n s x := by
  rw [frL_bits n s x n [] hx, frK_free n s x h1 hs hx]
  show (fsetN n s x && true) = _
  rw [Bool.and_true]
/-- The greatest size and the number of free sets: 16 times the number, and the size. -/
def mcG (n : Nat) (ds : List Nat) (i st : Nat) : Nat := if frL n i ds then (if Nat.blt (st % 16) (popF n i) then (st / 16 + 1) * 16 + popF n i else st + 16) else st
def mcF (n s k : Nat) : Nat := cntP (fsetN n s) k * 16 + topN (fsetN n s) k
theorem mc_step (n s i : Nat) (h1 : 1 ≤ n) (h2 : n ≤ 12) (hs : s < 2 ^ n) (hi : i < 2 ^ n) : mcF n s (i + 1) = mcG n (bitsL s n []) i (mcF n s i) := by
  have ht := top_le (fsetN n s) i n h2 (by omega)
  unfold mcF mcG
  rw [frL_free n s i h1 hs hi, cnt_step]
  obtain ⟨a, b⟩ := top_step (fsetN n s) i
  have e1 : (cntP (fsetN n s) i * 16 + topN (fsetN n s) i) % 16 = topN (fsetN n s) i := by omega
  have e2 : (cntP (fsetN n s) i * 16 + topN (fsetN n s) i) / 16 = cntP (fsetN n s) i := by omega
  rw [e1, e2, ← sizeN_of n i h2 hi]
  cases hf : fsetN n s i
  · rw [b (fun h => by rw [hf] at h; cases h.1)]
    rfl
  · simp only [if_true]
    by_cases c : topN (fsetN n s) i < sizeN i
    · rw [a ⟨hf, c⟩, if_pos ((blt_iff _ _).2 c)]
    · rw [b (fun h => c h.2), if_neg (fun h => c ((blt_iff _ _).1 h))]
      omega
theorem mc_all (n s : Nat) (h1 : 1 ≤ n) (h2 : n ≤ 12) (hs : s < 2 ^ n) : foldR (mcG n (bitsL s n [])) n 0 0 = manyF n s * 16 + mostF n s := by
  have h := foldR_lt (mcG n (bitsL s n [])) (mcF n s) n (fun i hi => mc_step n s i h1 h2 hs hi) n 0 (by omega)
  rw [Nat.zero_add] at h
  exact h
/-- Whether one of the sets is let by. -/
def anyG (p : Nat → Bool) (i m : Nat) : Nat := match m with
  | 0 => if p i then 1 else 0
  | _ + 1 => 1
def anyK (p : Nat → Bool) : Nat → Nat
  | 0 => 0
  | i + 1 => anyG p i (anyK p i)
theorem any_ex (p : Nat → Bool) (k : Nat) (h : anyK p k ≠ 0) : ∃ i, i < k ∧ p i = true := by
  induction k with
  | zero => exact absurd rfl h
  | succ k ih =>
    by_cases c : anyK p k = 0
    · have e : anyK p (k + 1) = if p k then 1 else 0 := by
        show anyG p k (anyK p k) = _
        rw [c]; rfl
      rw [e] at h
      cases hp : p k
      · rw [hp] at h; exact absurd rfl h
      · exact ⟨k, by omega, hp⟩
    · obtain ⟨i, hi, hp⟩ := ih c
      exact ⟨i, by omega, hp⟩
/-- A free set of the greatest size that watches. -/
def wmK (n s m : Nat) (ds : List Nat) (i : Nat) : Bool := frL n i ds && (Nat.beq (popF n i) m && Nat.beq (stF n i (s ||| 1) n) (2 ^ n - 1))
def endX (n s : Nat) (ds : List Nat) (mc m' : Nat) : Bool :=
  Nat.ble (mc % 16 * (m' % 16)) n && (Nat.beq s 0 || Nat.ble (2 * (mc % 16)) n) && Nat.ble (2 ^ (mc % 16)) (mc / 16) && Nat.ble (n + 1) (mc / 16) && (Nat.beq (mc / 16) (2 ^ n) == Nat.beq s 0) && Nat.ble (m' % 16) (popF n s + 1)
    && !Nat.beq (foldR (anyG (wmK n s (mc % 16) ds)) n 0 0) 0
/-- What comes out of two runs, forced. -/
def twoX (f : Nat → Nat → Bool) (a b : Nat) : Bool := match a with
  | 0 => match b with
    | 0 => f 0 0
    | q + 1 => f 0 (q + 1)
  | p + 1 => match b with
    | 0 => f (p + 1) 0
    | q + 1 => f (p + 1) (q + 1)
theorem twoX_eq (f : Nat → Nat → Bool) (a b : Nat) : twoX f a b = f a b := by cases a <;> cases b <;> rfl
/-- The places of a set, gone through one by one ahead of what is done with them. -/
def collX (s : Nat) (f : List Nat → Bool) : Nat → List Nat → Bool
  | 0, acc => f acc
  | d + 1, acc => if Nat.beq ((s >>> d) % 2) 1 then collX s f d (d :: acc) else collX s f d acc
theorem collX_eq (s : Nat) (f : List Nat → Bool) (k : Nat) (acc : List Nat) : collX s f k acc = f (bitsL s k acc) := by
  induction k generalizing acc with
  | zero => rfl
  | succ k ih =>
    show (if Nat.beq ((s >>> k) % 2) 1 then collX s f k (k :: acc) else collX s f k acc) = f (if Nat.beq ((s >>> k) % 2) 1 then bitsL s k (k :: acc) else bitsL s k acc)
    cases Nat.beq ((s >>> k) % 2) 1
    · exact ih acc
    · exact ih (k :: acc)
def goX (n s : Nat) (ds es : List Nat) : Bool := twoX (endX n s ds) (foldR (mcG n ds) n 0 0) (foldR (mcG n es) n 0 0)
def oneX (n s o : Nat) : Bool := collX s (fun ds => collX o (goX n s ds) n []) n []
theorem oneX_eq (n s o : Nat) : oneX n s o = endX n s (bitsL s n []) (foldR (mcG n (bitsL s n [])) n 0 0) (foldR (mcG n (bitsL o n [])) n 0 0) := by
  unfold oneX
  rw [collX_eq]
  show collX o (goX n s (bitsL s n [])) n [] = _
  rw [collX_eq]
  exact twoX_eq _ _ _
/-- All even steps: a number h of half of them, and they. -/
def spreadN (n h : Nat) : Nat → Nat
  | 0 => 0
  | d + 1 => if Nat.beq ((h >>> d) % 2) 1 then spreadN n h d ||| (2 ^ (d + 1) ||| 2 ^ (n - (d + 1))) else spreadN n h d
def withX (n s : Nat) : Bool := match s with
  | 0 => oneX n 0 (otherN n 0)
  | q + 1 => match otherN n (q + 1) with
    | 0 => oneX n (q + 1) 0
    | p + 1 => oneX n (q + 1) (p + 1)
theorem withX_eq (n s : Nat) : withX n s = oneX n s (otherN n s) := by
  cases s with
  | zero => rfl
  | succ q =>
    show (match otherN n (q + 1) with
      | 0 => oneX n (q + 1) 0
      | p + 1 => oneX n (q + 1) (p + 1)) = _
    cases otherN n (q + 1) <;> rfl
def spanX (n lo : Nat) : Nat → Bool
  | 0 => true
  | k + 1 => withX n (spreadN n (lo + k) (n / 2)) && spanX n lo k
theorem spanX_ok (n lo k : Nat) (h : spanX n lo k = true) (b : Nat) (h1 : lo ≤ b) (h2 : b < lo + k) : withX n (spreadN n b (n / 2)) = true := by
  induction k with
  | zero => omega
  | succ k ih =>
    have h' : (withX n (spreadN n (lo + k) (n / 2)) && spanX n lo k) = true := h
    rw [Bool.and_eq_true] at h'
    by_cases e : b = lo + k
    · rw [e]; exact h'.1
    · exact ih h'.2 (by omega)
/-- Each even steps are spread of half of them. -/
theorem spread_bit (n h k v : Nat) (hk : k ≤ n) : (spreadN n h k).testBit v = true ↔ ∃ d, d < k ∧ h.testBit d = true ∧ (v = d + 1 ∨ v = n - (d + 1)) := by
  induction k with
  | zero =>
    constructor
    · intro hh; simp [spreadN] at hh
    · rintro ⟨d, hd, _⟩; omega
  | succ k ih =>
    have ih := ih (by omega)
    have e : spreadN n h (k + 1) = if Nat.beq ((h >>> k) % 2) 1 then spreadN n h k ||| (2 ^ (k + 1) ||| 2 ^ (n - (k + 1))) else spreadN n h k := rfl
    rw [e, beq_bitF]
    cases hb : h.testBit k
    · rw [show (if false = true then spreadN n h k ||| (2 ^ (k + 1) ||| 2 ^ (n - (k + 1))) else spreadN n h k) = spreadN n h k from rfl, ih]
      constructor
      · rintro ⟨d, h1, h2, h3⟩; exact ⟨d, by omega, h2, h3⟩
      · rintro ⟨d, h1, h2, h3⟩
        refine ⟨d, ?_, h2, h3⟩
        have : d ≠ k := fun c => by rw [c, hb] at h2; cases h2
        omega
    · rw [if_pos rfl, Nat.testBit_or, Nat.testBit_or, Nat.testBit_two_pow, Nat.testBit_two_pow, Bool.or_eq_true, Bool.or_eq_true, decide_eq_true_iff, decide_eq_true_iff, ih]
      constructor
      · rintro (⟨d, h1, h2, h3⟩ | h3 | h3)
        · exact ⟨d, by omega, h2, h3⟩
        · exact ⟨k, by omega, hb, .inl h3.symm⟩
        · exact ⟨k, by omega, hb, .inr h3.symm⟩
      · rintro ⟨d, h1, h2, h3⟩
        by_cases c : d = k
        · subst c
          rcases h3 with h3 | h3
          · exact .inr (.inl h3.symm)
          · exact .inr (.inr h3.symm)
        · exact .inl ⟨d, by omega, h2, h3⟩
end Go.Proofs.Ytmombdahabimbaa
