/- Texts of mine, laid together: WalkA WalkB WalkC WalkF. -/
import Derived.Test.YtnlalccnhpblkaaGC
import Derived.Test.YtnlalccnhpblkaaGE
/- Walks: how many lead to a place; their total. -/
namespace Go.Proofs.Ytnlalccnhpblkaa
open Go.RowKit
set_option linter.unusedVariables false
/-- Walks that go on from u by the step d and lead to x. -/
def arcW (n s : Nat) (f : Nat → Nat) (u d x : Nat) : Nat := if (u + d) % n = x then f u * b2n (s.testBit d) else 0
def rowW (n s : Nat) (f : Nat → Nat) (u j x : Nat) : Nat := sumTo (fun d => arcW n s f u d x) j
def midW (n s : Nat) (f : Nat → Nat) (v x : Nat) : Nat := sumTo (fun u => rowW n s f u n x) v
def halfW (n s : Nat) (f : Nat → Nat) (v j x : Nat) : Nat := midW n s f v x + rowW n s f v j x
/-- The number of walks of k arcs from 0 to x. -/
def wlkN (n s : Nat) : Nat → Nat → Nat
  | 0, x => if x = 0 then 1 else 0
  | k + 1, x => midW n s (wlkN n s k) n x
theorem half_start (n s : Nat) (f : Nat → Nat) (v x : Nat) (h0 : s.testBit 0 = false) : halfW n s f v 1 x = midW n s f v x := by
  unfold halfW rowW
  show midW n s f v x + (0 + arcW n s f v 0 x) = _
  unfold arcW
  rw [h0]
  simp [b2n]
theorem half_step (n s : Nat) (f : Nat → Nat) (v j x : Nat) : halfW n s f v (j + 1) x = halfW n s f v j x + arcW n s f v j x := by
  unfold halfW rowW
  show midW n s f v x + (sumTo _ j + arcW n s f v j x) = _
  rw [Nat.add_assoc]
theorem half_end (n s : Nat) (f : Nat → Nat) (v x : Nat) : halfW n s f v n x = midW n s f (v + 1) x := rfl
theorem mid_start (n s : Nat) (f : Nat → Nat) (x : Nat) : midW n s f 0 x = 0 := rfl
theorem wlk_up (n s k x : Nat) : wlkN n s (k + 1) x = midW n s (wlkN n s k) n x := rfl
theorem sumTo_mono (f : Nat → Nat) (j k : Nat) (h : j ≤ k) : sumTo f j ≤ sumTo f k := by
  induction k with
  | zero =>
    obtain rfl : j = 0 := by omega
    exact Nat.le_refl _
  | succ k ih =>
    by_cases e : j = k + 1
    · rw [e]; exact Nat.le_refl _
    · have := ih (by omega)
      show sumTo f j ≤ sumTo f k + f k
      omega
theorem sumTo_hit (q c m : Nat) : sumTo (fun x => if q = x then c else 0) m = if q < m then c else 0 := by
  induction m with
  | zero => rfl
  | succ m ih =>
    show sumTo _ m + (if q = m then c else 0) = _
    rw [ih]
    by_cases a : q < m
    · have b : ¬ q = m := by omega
      have d : q < m + 1 := by omega
      simp [a, b, d]
    · by_cases b : q = m
      · simp [b]
      · have d : ¬ q < m + 1 := by omega
        simp [a, b, d]
theorem sumTo_at (f : Nat → Nat) (k v : Nat) (h : v < k) : f v ≤ sumTo f k := by
  have := sumTo_mono f (v + 1) k (by omega)
  have e : sumTo f (v + 1) = sumTo f v + f v := rfl
  omega
/-- How many steps there are. -/
def degN (n s : Nat) : Nat := sumTo (fun d => b2n (s.testBit d)) n
theorem deg_le (n s : Nat) (h0 : s.testBit 0 = false) : degN (n + 1) s ≤ n := by
  induction n with
  | zero =>
    show 0 + b2n (s.testBit 0) ≤ 0
    rw [h0]
    exact Nat.le_refl _
  | succ n ih =>
    show degN (n + 1) s + b2n (s.testBit (n + 1)) ≤ n + 1
    have : b2n (s.testBit (n + 1)) ≤ 1 := by unfold b2n; split <;> omega
    omega
theorem total_up (n s : Nat) (f : Nat → Nat) (h1 : 1 ≤ n) : sumTo (midW n s f n) n = sumTo f n * degN n s := by
  have e1 : sumTo (midW n s f n) n = sumTo (fun u => sumTo (fun x => rowW n s f u n x) n) n := by
    unfold midW
    rw [sumTo_swap]
  have e2 : ∀ u, u < n → sumTo (fun x => rowW n s f u n x) n = f u * degN n s := fun u hu => by
    unfold rowW
    rw [sumTo_swap]
    rw [sumTo_congr _ (fun d => f u * b2n (s.testBit d)) n (fun d hd => by
      unfold arcW
      rw [sumTo_hit, if_pos (Nat.mod_lt _ (by omega))])]
    exact sumTo_mul (f u) _ n
  rw [e1, sumTo_congr _ (fun u => degN n s * f u) n (fun u hu => by rw [e2 u hu, Nat.mul_comm]), sumTo_mul, Nat.mul_comm]
/-- Walks are powers of the number of steps. -/
theorem wlk_total (n s k : Nat) (h1 : 1 ≤ n) : sumTo (wlkN n s k) n = degN n s ^ k := by
  induction k with
  | zero =>
    have e : sumTo (wlkN n s 0) n = sumTo (fun x => if 0 = x then 1 else 0) n := sumTo_congr _ _ n fun x hx => by
      show (if x = 0 then 1 else 0) = _
      by_cases h : x = 0
      · subst h; rfl
      · rw [if_neg h, if_neg (fun e => h e.symm)]
    rw [e, sumTo_hit, if_pos (by omega)]
    rfl
  | succ k ih =>
    show sumTo (midW n s (wlkN n s k) n) n = _
    rw [total_up n s _ h1, ih, Nat.pow_succ]
theorem wlk_le (n s k x : Nat) (h1 : 1 ≤ n) (h2 : n ≤ 12) (h0 : s.testBit 0 = false) (hx : x < n) : wlkN n s k x ≤ 11 ^ k := by
  have a := sumTo_at (wlkN n s k) n x hx
  rw [wlk_total n s k h1] at a
  have b : degN n s ≤ 11 := by
    obtain ⟨m, rfl⟩ : ∃ m, n = m + 1 := ⟨n - 1, by omega⟩
    have := deg_le m s h0
    omega
  exact Nat.le_trans a (Nat.pow_le_pow_left b k)
theorem half_le (n s : Nat) (f : Nat → Nat) (v j x : Nat) (hv : v < n) (hj : j ≤ n) : halfW n s f v j x ≤ midW n s f n x := by
  have a : rowW n s f v j x ≤ rowW n s f v n x := sumTo_mono _ j n hj
  have b : midW n s f (v + 1) x ≤ midW n s f n x := sumTo_mono _ (v + 1) n (by omega)
  have c : midW n s f (v + 1) x = midW n s f v x + rowW n s f v n x := rfl
  unfold halfW
  omega
theorem eleven (k : Nat) (hk : k ≤ 10) : 11 ^ k ≤ 25937424601 := Nat.pow_le_pow_right (by omega) hk
end Go.Proofs.Ytnlalccnhpblkaa

/- The model's numbers of walks. -/
namespace Go.Proofs.Ytnlalccnhpblkaa
open Go.RowKit
set_option linter.unusedVariables false
/-- The call has made a list of its own: the numbers of walks. -/
def WalksPost (w : World) (n : Nat) (xs : List Int) (e : Ending) (w' : World) : Prop :=
  ∃ g, e = .returned (.slice (some ⟨g, 0, none⟩) n n) ∧ Below w.heap.size w w' ∧ IsInts w' w.heap.size (.slice (some ⟨g, 0, none⟩) n n) xs
theorem wlk_first (n s : Nat) : (tabI n (fun _ => 0)).set 0 1 = tabW n (wlkN n s 0) := by
  rw [tabI_set]
  exact tabI_congr n _ _ fun x hx => by
    show (if x = 0 then (1 : Int) else 0) = ((if x = 0 then 1 else 0 : Nat) : Int)
    split <;> rfl
theorem half_set (n s : Nat) (f : Nat → Nat) (v d q : Nat) (hq : (v + d) % n = q) (z : Nat) (hz : z = halfW n s f v d q + f v * b2n (s.testBit d)) :
    (tabW n (halfW n s f v d)).set q ((z : Nat) : Int) = tabW n (halfW n s f v (d + 1)) := by
  unfold tabW
  rw [tabI_set]
  refine tabI_congr n _ _ fun x hx => ?_
  rw [half_step]
  unfold arcW
  by_cases e : x = q
  · subst e
    rw [if_pos rfl, if_pos hq, hz]
  · have e' : ¬ (v + d) % n = x := fun h => e (h.symm.trans hq)
    rw [if_neg e, if_neg e', Nat.add_zero]
end Go.Proofs.Ytnlalccnhpblkaa

/- The model's walks: numbers, sets, full ones, lengths of rounds, squares. -/
namespace Go.Proofs.Ytnlalccnhpblkaa
open Go.RowKit
set_option linter.unusedVariables false
theorem sq_le (f : Nat → Nat) (n j T : Nat) (hT : sumTo f n ≤ T) (hj : j ≤ n) : sumTo (fun v => f v * f v) j ≤ T * sumTo f j := by
  induction j with
  | zero => exact Nat.le_refl _
  | succ j ih =>
    have a := ih (by omega)
    have b := Nat.mul_le_mul (Nat.le_trans (sumTo_at f n j (by omega)) hT) (Nat.le_refl (f j))
    show sumTo (fun v => f v * f v) j + f j * f j ≤ T * (sumTo f j + f j)
    rw [Nat.mul_add]
    omega
/-- The sum of the squares of the numbers of walks. -/
def sqN (n s k : Nat) (j : Nat) : Nat := sumTo (fun v => wlkN n s k v * wlkN n s k v) j
theorem sqN_le (n s k j : Nat) (h1 : 1 ≤ n) (h2 : n ≤ 12) (h0 : s.testBit 0 = false) (hk : k ≤ 5) (hj : j ≤ n) : sqN n s k j ≤ 25937424601 := by
  have t : sumTo (wlkN n s k) n ≤ 161051 := by
    rw [wlk_total n s k h1]
    have b : degN n s ≤ 11 := by
      obtain ⟨m, rfl⟩ : ∃ m, n = m + 1 := ⟨n - 1, by omega⟩
      have := deg_le m s h0
      omega
    exact Nat.le_trans (Nat.pow_le_pow_left b k) (Nat.pow_le_pow_right (n := 11) (by omega) hk)
  have a := sq_le (wlkN n s k) n j 161051 t hj
  have b := Nat.mul_le_mul (Nat.le_refl 161051) (Nat.le_trans (sumTo_mono (wlkN n s k) j n hj) t)
  exact Nat.le_trans a b
theorem mul_walks (a : Nat) (ha : a ≤ 161051) : IntKind.i64.wrap ((a : Int) * (a : Int)) = ((a * a : Nat) : Int) ∧ wrap64 ((a : Int) * (a : Int)) = ((a * a : Nat) : Int) ∧ a * a ≤ 25937424601 := by
  have h := Nat.mul_le_mul ha ha
  rw [← Int.natCast_mul]
  generalize a * a = p at *
  exact ⟨IntWalk.i64_in _ ⟨by omega, by omega⟩, IntWalk.wrap64_in _ ⟨by omega, by omega⟩, h⟩
/-- The set of the places to which a walk of k arcs leads. -/
def wsetN (n s : Nat) : Nat → Nat
  | 0 => 1
  | k + 1 => sumN n s (wsetN n s k)
theorem wset_lt (n s k : Nat) (h1 : 1 ≤ n) : wsetN n s k < 2 ^ n := by
  cases k with
  | zero => exact Nat.one_lt_two_pow (by omega)
  | succ k => exact sumN_lt n s _
/-- The greatest common divisor of the lengths of rounds of at most k arcs. -/
def wturnN (n s : Nat) : Nat → Nat
  | 0 => 0
  | k + 1 => if (wsetN n s (k + 1)).testBit 0 then Nat.gcd (wturnN n s k) (k + 1) else wturnN n s k
theorem wturn_le (n s k : Nat) : wturnN n s k ≤ k := by
  induction k with
  | zero => exact Nat.le_refl _
  | succ k ih =>
    show (if (wsetN n s (k + 1)).testBit 0 then Nat.gcd (wturnN n s k) (k + 1) else wturnN n s k) ≤ k + 1
    split
    · exact Nat.le_of_dvd (by omega) (Nat.gcd_dvd_right _ _)
    · omega
end Go.Proofs.Ytnlalccnhpblkaa

/- Walks on every ring of at most 12 places by all steps, gone through one by one: what is computed, and what it says. -/
namespace Go.Proofs.Ytnlalccnhpblkaa
set_option linter.unusedVariables false
def rtF (n b v : Nat) : Nat := (b <<< v ||| b >>> (n - v)) &&& (2 ^ n - 1)
def stF (n a h : Nat) : Nat → Nat
  | 0 => 0
  | v + 1 => if Nat.beq ((h >>> v) % 2) 1 then stF n a h v ||| rtF n a v else stF n a h v
/-- The divisor behind a round, and where the set was full first (99: nowhere yet). -/
def gF (x g k : Nat) : Nat := if Nat.beq (x % 2) 1 then Nat.gcd g k else g
def fF (n x f k : Nat) : Nat := if Nat.beq f 99 && Nat.beq x (2 ^ n - 1) then k else f
/-- The divisor behind n rounds. -/
def hF (n k g h : Nat) : Nat := if Nat.beq k n then g else h
def endF (n s p q g f h : Nat) : Bool :=
  Nat.beq g h && (Nat.beq s 0 || (Nat.ble 1 g && (Nat.beq f 99 == !(Nat.beq g 1 && Nat.beq p 1)) && Nat.beq (g * p) q)) && (Nat.beq f 99 || Nat.blt f n)
def goF (n s p q : Nat) : Nat → Nat → Nat → Nat → Nat → Nat → Bool
  | 0, _, _, g, f, h => endF n s p q g f h
  | r + 1, k, x, g, f, h => match stF n s x n with
    | 0 => goF n s p q r (k + 1) 0 (gF 0 g (k + 1)) (fF n 0 f (k + 1)) (hF n (k + 1) (gF 0 g (k + 1)) h)
    | m + 1 => goF n s p q r (k + 1) (m + 1) (gF (m + 1) g (k + 1)) (fF n (m + 1) f (k + 1)) (hF n (k + 1) (gF (m + 1) g (k + 1)) h)
theorem goF_up (n s p q r k x g f h y : Nat) (e : stF n s x n = y) : goF n s p q (r + 1) k x g f h = goF n s p q r (k + 1) y (gF y g (k + 1)) (fF n y f (k + 1)) (hF n (k + 1) (gF y g (k + 1)) h) := by
  show (match stF n s x n with
    | 0 => goF n s p q r (k + 1) 0 (gF 0 g (k + 1)) (fF n 0 f (k + 1)) (hF n (k + 1) (gF 0 g (k + 1)) h)
    | m + 1 => goF n s p q r (k + 1) (m + 1) (gF (m + 1) g (k + 1)) (fF n (m + 1) f (k + 1)) (hF n (k + 1) (gF (m + 1) g (k + 1)) h)) = _
  rw [e]
  cases y <;> rfl
/-- The steps turned back and added to them, without 0: their divisor. -/
def backP (n s : Nat) : Nat := partsN n (lessN (sumN n s (turnN n s (-1))) 1)
def oneF (n s : Nat) : Bool := goF n s (partsN n s) (backP n s) (2 * n) 0 1 0 (fF n 1 99 0) 0
def spanF (n lo : Nat) : Nat → Bool
  | 0 => true
  | k + 1 => oneF n (2 * (lo + k)) && spanF n lo k
theorem spanF_ok (n lo k : Nat) (h : spanF n lo k = true) (b : Nat) (h1 : lo ≤ b) (h2 : b < lo + k) : oneF n (2 * b) = true := by
  induction k with
  | zero => omega
  | succ k ih =>
    have h' : (oneF n (2 * (lo + k)) && spanF n lo k) = true := h
    rw [Bool.and_eq_true] at h'
    by_cases e : b = lo + k
    · rw [e]; exact h'.1
    · exact ih h'.2 (by omega)
theorem rtF_shift (n b v : Nat) (hv : v < n) : rtF n b v = shiftN n b (v : Int) := by
  unfold rtF shiftN shl
  rw [rest_self n v hv]
theorem beq_bitF (h v : Nat) : Nat.beq ((h >>> v) % 2) 1 = h.testBit v := by
  rw [Nat.testBit, Nat.and_comm, Nat.and_one_is_mod]
  rcases Nat.mod_two_eq_zero_or_one (h >>> v) with e | e <;> rw [e] <;> rfl
theorem stF_eq (n a h j : Nat) (hj : j ≤ n) : stF n a h j = overSet h (sumS n a) j 0 := by
  induction j with
  | zero => rfl
  | succ j ih =>
    rw [over_step]
    show (if Nat.beq ((h >>> j) % 2) 1 then stF n a h j ||| rtF n a j else stF n a h j) = _
    rw [beq_bitF, ih (by omega), rtF_shift n a j (by omega)]
    rfl
theorem stF_sum (n a h : Nat) : stF n a h n = sumN n a h := stF_eq n a h n (Nat.le_refl n)
/-- Where the set was full first, among the first k. -/
def fstN (n s : Nat) : Nat → Nat
  | 0 => fF n 1 99 0
  | k + 1 => fF n (wsetN n s (k + 1)) (fstN n s k) (k + 1)
theorem turn_gF (n s k : Nat) : wturnN n s (k + 1) = gF (wsetN n s (k + 1)) (wturnN n s k) (k + 1) := by
  show (if (wsetN n s (k + 1)).testBit 0 then Nat.gcd (wturnN n s k) (k + 1) else wturnN n s k) = _
  unfold gF
  have h := beq_bitF (wsetN n s (k + 1)) 0
  rw [Nat.shiftRight_zero] at h
  rw [h]
/-- The divisor behind n rounds, told after k. -/
def hafN (n s : Nat) : Nat → Nat
  | 0 => 0
  | k + 1 => hF n (k + 1) (wturnN n s (k + 1)) (hafN n s k)
theorem haf_at (n s k : Nat) (h1 : 1 ≤ n) (hk : n ≤ k) : hafN n s k = wturnN n s n := by
  induction k with
  | zero => omega
  | succ k ih =>
    show hF n (k + 1) (wturnN n s (k + 1)) (hafN n s k) = _
    unfold hF
    cases hb : Nat.beq (k + 1) n
    · have h := Nat.ne_of_beq_eq_false hb
      exact ih (by omega)
    · rw [← Nat.eq_of_beq_eq_true hb]
      rfl
theorem goF_all (n s p q r k : Nat) : goF n s p q r k (wsetN n s k) (wturnN n s k) (fstN n s k) (hafN n s k) = endF n s p q (wturnN n s (k + r)) (fstN n s (k + r)) (hafN n s (k + r)) := by
  induction r generalizing k with
  | zero => rfl
  | succ r ih =>
    rw [goF_up n s p q r k _ _ _ _ (wsetN n s (k + 1)) (stF_sum n s _), ← turn_gF]
    show goF n s p q r (k + 1) (wsetN n s (k + 1)) (wturnN n s (k + 1)) (fstN n s (k + 1)) (hafN n s (k + 1)) = _
    rw [ih (k + 1), show k + 1 + r = k + (r + 1) by omega]
theorem one_end (n s : Nat) (h : oneF n s = true) : endF n s (partsN n s) (backP n s) (wturnN n s (2 * n)) (fstN n s (2 * n)) (hafN n s (2 * n)) = true := by
  have e := goF_all n s (partsN n s) (backP n s) (2 * n) 0
  rw [Nat.zero_add] at e
  rw [← e]
  exact h
theorem fst_facts (n s k : Nat) (hk : k < 99) : (fstN n s k = 99 ∧ ∀ j, j ≤ k → wsetN n s j ≠ 2 ^ n - 1) ∨ (fstN n s k ≤ k ∧ wsetN n s (fstN n s k) = 2 ^ n - 1 ∧ ∀ j, j < fstN n s k → wsetN n s j ≠ 2 ^ n - 1) := by
  induction k with
  | zero =>
    by_cases c : (1 : Nat) = 2 ^ n - 1
    · have e : fstN n s 0 = 0 := by
        show fF n 1 99 0 = 0
        unfold fF
        rw [← c]
        rfl
      rw [e]
      exact .inr ⟨Nat.le_refl _, c, fun j hj => by omega⟩
    · have e : fstN n s 0 = 99 := by
        show fF n 1 99 0 = 99
        unfold fF
        have hb : Nat.beq 1 (2 ^ n - 1) = false := by
          cases h : Nat.beq 1 (2 ^ n - 1)
          · rfl
          · exact absurd (Nat.eq_of_beq_eq_true h) c
        rw [hb]
        rfl
      exact .inl ⟨e, fun j hj => by obtain rfl : j = 0 := by omega
                                    exact c⟩
  | succ k ih =>
    have hs : fstN n s (k + 1) = fF n (wsetN n s (k + 1)) (fstN n s k) (k + 1) := rfl
    rcases ih (by omega) with ⟨a, b⟩ | ⟨a, b, d⟩
    · by_cases c : wsetN n s (k + 1) = 2 ^ n - 1
      · have e : fstN n s (k + 1) = k + 1 := by
          rw [hs, a, c]
          unfold fF
          rw [Nat.beq_refl (2 ^ n - 1)]
          rfl
        rw [e]
        exact .inr ⟨Nat.le_refl _, c, fun j hj => b j (by omega)⟩
      · have e : fstN n s (k + 1) = 99 := by
          rw [hs, a]
          unfold fF
          have hb : Nat.beq (wsetN n s (k + 1)) (2 ^ n - 1) = false := by
            cases h : Nat.beq (wsetN n s (k + 1)) (2 ^ n - 1)
            · rfl
            · exact absurd (Nat.eq_of_beq_eq_true h) c
          rw [hb]
          rfl
        refine .inl ⟨e, fun j hj => ?_⟩
        by_cases e2 : j = k + 1
        · rw [e2]; exact c
        · exact b j (by omega)
    · have e : fstN n s (k + 1) = fstN n s k := by
        rw [hs]
        unfold fF
        have hb : Nat.beq (fstN n s k) 99 = false := by
          cases h : Nat.beq (fstN n s k) 99
          · rfl
          · have := Nat.eq_of_beq_eq_true h; omega
        rw [hb]
        rfl
      rw [e]
      exact .inr ⟨by omega, b, d⟩
end Go.Proofs.Ytnlalccnhpblkaa
