/- What loops over places make of a number. -/
import Derived.Test.YthccchelemnnfaaIter
namespace Go.Proofs.Ythccchelemnnfaa
open Go.RowKit Go.Shelf
set_option linter.unusedVariables false
def vals {r : Nat} (l : List (Fin r)) : List Nat := l.map Fin.val
theorem vals_snoc {r : Nat} (l : List (Fin r)) (x : Fin r) : vals (l ++ [x]) = vals l ++ [x.val] := by simp [vals]
theorem vals_fold {α : Type} {r : Nat} (l : List (Fin r)) (f : α → Nat → α) (a : α) : (vals l).foldl f a = l.foldl (fun x v => f x v.val) a := by simp [vals, List.foldl_map]
theorem vals_lt {r : Nat} (l : List (Fin r)) : ∀ v ∈ vals l, v < r := by
  intro v hv
  simp only [vals, List.mem_map] at hv
  obtain ⟨x, _, rfl⟩ := hv
  exact x.isLt
/-- A number turned by f at each place that has come. -/
def fold (f : Nat → Nat → Nat) (a : Nat) (pre : List Nat) : Nat := pre.foldl (fun x v => f v x) a
theorem fold_nil (f : Nat → Nat → Nat) (a : Nat) : fold f a [] = a := rfl
theorem fold_snoc (f : Nat → Nat → Nat) (a : Nat) {r : Nat} (pre : List (Fin r)) (x : Fin r) : fold f a (vals (pre ++ [x])) = f x.val (fold f a (vals pre)) := by simp [fold, vals_snoc]
theorem fold_come (f : Nat → Nat → Nat) (a n s : Nat) : fold f a (vals (comeTo n s n)) = overSet s f n a := by
  unfold fold
  rw [vals_fold]
  exact comeTo_fold n s f a n (Nat.le_refl n)
theorem fold_lt (f : Nat → Nat → Nat) (n N a : Nat) (ha : a < N) (hf : ∀ v x, v < n → x < N → f v x < N) (pre : List (Fin n)) : fold f a (vals pre) < N := by
  have h : ∀ (l : List Nat) (a : Nat), a < N → (∀ v ∈ l, v < n) → l.foldl (fun x v => f v x) a < N := by
    intro l
    induction l with
    | nil => exact fun a ha _ => ha
    | cons v l ih => exact fun a ha hl => ih _ (hf v a (hl v (by simp)) ha) (fun u hu => hl u (by simp [hu]))
  exact h _ a ha (vals_lt pre)
theorem overSet_lt (f : Nat → Nat → Nat) (n N a s k : Nat) (ha : a < N) (hk : k ≤ n) (hf : ∀ v x, v < n → x < N → f v x < N) : overSet s f k a < N := by
  induction k with
  | zero => exact ha
  | succ k ih =>
    show (if s.testBit k then f k (overSet s f k a) else overSet s f k a) < N
    split
    · exact hf k _ (by omega) (ih (by omega))
    · exact ih (by omega)
theorem mul_small {a m : Int} (h0 : 0 ≤ a) (h1 : a ≤ 12) (hm1 : -1000 ≤ m) (hm2 : m ≤ 1000) : -12000 ≤ a * m ∧ a * m ≤ 12000 := by
  constructor
  · have := Int.mul_le_mul_of_nonneg_left hm1 h0; omega
  · have := Int.mul_le_mul_of_nonneg_left hm2 h0; omega
theorem shiftN_lt (n s : Nat) (k : Int) : shiftN n s k < 2 ^ n := by
  have := Nat.two_pow_pos n
  have h : shiftN n s k ≤ 2 ^ n - 1 := Nat.and_le_right
  omega
def turnS (n : Nat) (m : Int) (v x : Nat) : Nat := x ||| 2 ^ rest n ((v : Int) * m)
def sumS (n a v x : Nat) : Nat := x ||| shiftN n a v
def unitS (n v x : Nat) : Nat := if Nat.gcd v n = 1 then x ||| 2 ^ v else x
def holdS (n s v x : Nat) : Nat := if shiftN n s v = s then x ||| 2 ^ v else x
def leastS (n s v x : Nat) : Nat := min x (shiftN n s v)
def turnN (n s : Nat) (m : Int) : Nat := overSet s (turnS n m) n 0
def sumN (n a b : Nat) : Nat := overSet b (sumS n a) n 0
def unitsN (n : Nat) : Nat := overSet (2 ^ n - 1) (unitS n) n 0
def holdsN (n s : Nat) : Nat := overSet (2 ^ n - 1) (holdS n s) n 0
def leastN (n s : Nat) : Nat := overSet (2 ^ n - 1) (leastS n s) n s
def firstS (n s v x : Nat) : Nat := min x (leastN n (turnN n s v))
def firstN (n s : Nat) : Nat := overSet (unitsN n) (firstS n s) n s
theorem turnS_lt (n : Nat) (m : Int) (h1 : 1 ≤ n) (v x : Nat) (hv : v < n) (hx : x < 2 ^ n) : turnS n m v x < 2 ^ n := or_pow_lt n x _ hx (rest_lt n _ h1)
theorem sumS_lt (n a v x : Nat) (hv : v < n) (hx : x < 2 ^ n) : sumS n a v x < 2 ^ n := Nat.or_lt_two_pow hx (shiftN_lt n a v)
theorem unitS_lt (n v x : Nat) (hv : v < n) (hx : x < 2 ^ n) : unitS n v x < 2 ^ n := by
  unfold unitS; split
  · exact or_pow_lt n x v hx hv
  · exact hx
theorem holdS_lt (n s v x : Nat) (hv : v < n) (hx : x < 2 ^ n) : holdS n s v x < 2 ^ n := by
  unfold holdS; split
  · exact or_pow_lt n x v hx hv
  · exact hx
theorem leastS_lt (n s v x : Nat) (hv : v < n) (hx : x < 2 ^ n) : leastS n s v x < 2 ^ n := by unfold leastS; omega
theorem firstS_lt (n s v x : Nat) (hv : v < n) (hx : x < 2 ^ n) : firstS n s v x < 2 ^ n := by unfold firstS; omega
theorem turnN_lt (n s : Nat) (m : Int) (h1 : 1 ≤ n) : turnN n s m < 2 ^ n := overSet_lt _ n _ _ _ _ (Nat.two_pow_pos n) (Nat.le_refl n) (turnS_lt n m h1)
theorem sumN_lt (n a b : Nat) : sumN n a b < 2 ^ n := overSet_lt _ n _ _ _ _ (Nat.two_pow_pos n) (Nat.le_refl n) (sumS_lt n a)
theorem unitsN_lt (n : Nat) : unitsN n < 2 ^ n := overSet_lt _ n _ _ _ _ (Nat.two_pow_pos n) (Nat.le_refl n) (unitS_lt n)
theorem holdsN_lt (n s : Nat) : holdsN n s < 2 ^ n := overSet_lt _ n _ _ _ _ (Nat.two_pow_pos n) (Nat.le_refl n) (holdS_lt n s)
theorem leastN_lt (n s : Nat) (hs : s < 2 ^ n) : leastN n s < 2 ^ n := overSet_lt _ n _ _ _ _ hs (Nat.le_refl n) (leastS_lt n s)
theorem firstN_lt (n s : Nat) (hs : s < 2 ^ n) : firstN n s < 2 ^ n := overSet_lt _ n _ _ _ _ hs (Nat.le_refl n) (firstS_lt n s)
theorem pow_mono {n s : Nat} (h2 : n ≤ 12) (hs : s < 2 ^ n) : s < 2 ^ 12 := Nat.lt_of_lt_of_le hs (Nat.pow_le_pow_right (by omega) h2)
end Go.Proofs.Ythccchelemnnfaa
