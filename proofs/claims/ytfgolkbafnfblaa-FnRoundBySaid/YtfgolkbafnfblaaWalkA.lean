/- Walks: how many lead to a place; their total. -/
import Derived.Test.YtfgolkbafnfblaaGC
namespace Go.Proofs.Ytfgolkbafnfblaa
open Go.RowKit
set_option linter.unusedVariables false
/-- Walks that go on from u by the step d and lead to x. -/
def arcW (n s : Nat) (f : Nat → Nat) (u d x : Nat) : Nat := if (u + d) % n = x then f u * b2n (s.testBit d) else 0
def rowW (n s : Nat) (f : Nat → Nat) (u j x : Nat) : Nat := sumTo (fun d => arcW n s f u d x) j
def midW (n s : Nat) (f : Nat → Nat) (v x : Nat) : Nat := sumTo (fun u => rowW n s f u n x) v
def halfW (n s : Nat) (f : Nat → Nat) (v j x : Nat) : Nat := midW n s f v x + rowW n s f v j x
/-- The number of walks of k arcs from 0 to x. -/
def wlkN (n s : Nat) : Nat → Nat → Nat
  | 0, x => if x = 0 then 1 else 0
  | k + 1, x => midW n s (wlkN n s k) n x
theorem half_start (n s : Nat) (f : Nat → Nat) (v x : Nat) (h0 : s.testBit 0 = false) : halfW n s f v 1 x = midW n s f v x := by
  unfold halfW rowW
  show midW n s f v x + (0 + arcW n s f v 0 x) = _
  unfold arcW
  rw [h0]
  simp [b2n]
theorem half_step (n s : Nat) (f : Nat → Nat) (v j x : Nat) : halfW n s f v (j + 1) x = halfW n s f v j x + arcW n s f v j x := by
  unfold halfW rowW
  show midW n s f v x + (sumTo _ j + arcW n s f v j x) = _
  rw [Nat.add_assoc]
theorem half_end (n s : Nat) (f : Nat → Nat) (v x : Nat) : halfW n s f v n x = midW n s f (v + 1) x := rfl
theorem mid_start (n s : Nat) (f : Nat → Nat) (x : Nat) : midW n s f 0 x = 0 := rfl
theorem wlk_up (n s k x : Nat) : wlkN n s (k + 1) x = midW n s (wlkN n s k) n x := rfl
theorem sumTo_mono (f : Nat → Nat) (j k : Nat) (h : j ≤ k) : sumTo f j ≤ sumTo f k := by
  induction k with
  | zero =>
    obtain rfl : j = 0 := by omega
    exact Nat.le_refl _
  | succ k ih =>
    by_cases e : j = k + 1
    · rw [e]; exact Nat.le_refl _
    · have := ih (by omega)
      show sumTo f j ≤ sumTo f k + f k
      omega
theorem sumTo_hit (q c m : Nat) : sumTo (fun x => if q = x then c else 0) m = if q < m then c else 0 := by
  induction m with
  | zero => rfl
  | succ m ih =>
    show sumTo _ m + (if q = m then c else 0) = _
    rw [ih]
    by_cases a : q < m
    · have b : ¬ q = m := by omega
      have d : q < m + 1 := by omega
      simp [a, b, d]
    · by_cases b : q = m
      · simp [b]
      · have d : ¬ q < m + 1 := by omega
        simp [a, b, d]
theorem sumTo_at (f : Nat → Nat) (k v : Nat) (h : v < k) : f v ≤ sumTo f k := by
  have := sumTo_mono f (v + 1) k (by omega)
  have e : sumTo f (v + 1) = sumTo f v + f v := rfl
  omega
/-- How many steps there are. -/
def degN (n s : Nat) : Nat := sumTo (fun d => b2n (s.testBit d)) n
theorem deg_le (n s : Nat) (h0 : s.testBit 0 = false) : degN (n + 1) s ≤ n := by
  induction n with
  | zero =>
    show 0 + b2n (s.testBit 0) ≤ 0
    rw [h0]
    exact Nat.le_refl _
  | succ n ih =>
    show degN (n + 1) s + b2n (s.testBit (n + 1)) ≤ n + 1
    have : b2n (s.testBit (n + 1)) ≤ 1 := by unfold b2n; split <;> omega
    omega
theorem total_up (n s : Nat) (f : Nat → Nat) (h1 : 1 ≤ n) : sumTo (midW n s f n) n = sumTo f n * degN n s := by
  have e1 : sumTo (midW n s f n) n = sumTo (fun u => sumTo (fun x => rowW n s f u n x) n) n := by
    unfold midW
    rw [sumTo_swap]
  have e2 : ∀ u, u < n → sumTo (fun x => rowW n s f u n x) n = f u * degN n s := fun u hu => by
    unfold rowW
    rw [sumTo_swap]
    rw [sumTo_congr _ (fun d => f u * b2n (s.testBit d)) n (fun d hd => by
      unfold arcW
      rw [sumTo_hit, if_pos (Nat.mod_lt _ (by omega))])]
    exact sumTo_mul (f u) _ n
  rw [e1, sumTo_congr _ (fun u => degN n s * f u) n (fun u hu => by rw [e2 u hu, Nat.mul_comm]), sumTo_mul, Nat.mul_comm]
/-- Walks are powers of the number of steps. -/
theorem wlk_total (n s k : Nat) (h1 : 1 ≤ n) : sumTo (wlkN n s k) n = degN n s ^ k := by
  induction k with
  | zero =>
    have e : sumTo (wlkN n s 0) n = sumTo (fun x => if 0 = x then 1 else 0) n := sumTo_congr _ _ n fun x hx => by
      show (if x = 0 then 1 else 0) = _
      by_cases h : x = 0
      · subst h; rfl
      · rw [if_neg h, if_neg (fun e => h e.symm)]
    rw [e, sumTo_hit, if_pos (by omega)]
    rfl
  | succ k ih =>
    show sumTo (midW n s (wlkN n s k) n) n = _
    rw [total_up n s _ h1, ih, Nat.pow_succ]
theorem wlk_le (n s k x : Nat) (h1 : 1 ≤ n) (h2 : n ≤ 12) (h0 : s.testBit 0 = false) (hx : x < n) : wlkN n s k x ≤ 11 ^ k := by
  have a := sumTo_at (wlkN n s k) n x hx
  rw [wlk_total n s k h1] at a
  have b : degN n s ≤ 11 := by
    obtain ⟨m, rfl⟩ : ∃ m, n = m + 1 := ⟨n - 1, by omega⟩
    have := deg_le m s h0
    omega
  exact Nat.le_trans a (Nat.pow_le_pow_left b k)
theorem half_le (n s : Nat) (f : Nat → Nat) (v j x : Nat) (hv : v < n) (hj : j ≤ n) : halfW n s f v j x ≤ midW n s f n x := by
  have a : rowW n s f v j x ≤ rowW n s f v n x := sumTo_mono _ j n hj
  have b : midW n s f (v + 1) x ≤ midW n s f n x := sumTo_mono _ (v + 1) n (by omega)
  have c : midW n s f (v + 1) x = midW n s f v x + rowW n s f v n x := rfl
  unfold halfW
  omega
theorem eleven (k : Nat) (hk : k ≤ 10) : 11 ^ k ≤ 25937424601 := Nat.pow_le_pow_right (by omega) hk
end Go.Proofs.Ytfgolkbafnfblaa
