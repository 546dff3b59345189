/- Texts of mine, laid together: Sums StepA StepS StepB StepP StepM FarM. -/
import Derived.Test.YtecjhkpldcmlaaaDoorGA
import Derived.Test.YtecjhkpldcmlaaaDoorGB
/- Sums of natural numbers. -/
namespace Go.Proofs.YtecjhkpldcmlaaaDoor
set_option linter.unusedVariables false
/-- The sum of f at all numbers below k. -/
def sumTo (f : Nat → Nat) : Nat → Nat
  | 0 => 0
  | k + 1 => sumTo f k + f k
def b2n (b : Bool) : Nat := if b then 1 else 0
theorem sumTo_congr (f g : Nat → Nat) (k : Nat) (h : ∀ v, v < k → f v = g v) : sumTo f k = sumTo g k := by
  induction k with
  | zero => rfl
  | succ k ih =>
    show sumTo f k + f k = sumTo g k + g k
    rw [ih (fun v hv => h v (by omega)), h k (by omega)]
theorem sumTo_add (f g : Nat → Nat) (k : Nat) : sumTo (fun v => f v + g v) k = sumTo f k + sumTo g k := by
  induction k with
  | zero => rfl
  | succ k ih =>
    show sumTo (fun v => f v + g v) k + (f k + g k) = (sumTo f k + f k) + (sumTo g k + g k)
    rw [ih]; omega
theorem sumTo_mul (c : Nat) (f : Nat → Nat) (k : Nat) : sumTo (fun v => c * f v) k = c * sumTo f k := by
  induction k with
  | zero => rfl
  | succ k ih =>
    show sumTo (fun v => c * f v) k + c * f k = c * (sumTo f k + f k)
    rw [ih, Nat.mul_add]
theorem sumTo_none (k : Nat) : sumTo (fun _ => 0) k = 0 := by
  induction k with
  | zero => rfl
  | succ k ih =>
    show sumTo (fun _ => 0) k + 0 = 0
    rw [ih]
theorem sumTo_swap (f : Nat → Nat → Nat) (j k : Nat) : sumTo (fun v => sumTo (fun u => f v u) k) j = sumTo (fun u => sumTo (fun v => f v u) j) k := by
  induction j with
  | zero => exact (sumTo_none k).symm
  | succ j ih =>
    show sumTo (fun v => sumTo (fun u => f v u) k) j + sumTo (fun u => f j u) k = sumTo (fun u => sumTo (fun v => f v u) j + f j u) k
    rw [ih, ← sumTo_add]
end Go.Proofs.YtecjhkpldcmlaaaDoor

/- Steps of a ring: numbers told bit by bit, and the small functions of chapter 2. -/
namespace Go.Proofs.YtecjhkpldcmlaaaDoor
open Go.RowKit
set_option linter.unusedVariables false
/-- The places of a that b does not have. -/
def lessN (a b : Nat) : Nat := a ^^^ (a &&& b)
theorem lessN_bit (a b i : Nat) : (lessN a b).testBit i = (a.testBit i && !b.testBit i) := by
  unfold lessN
  rw [Nat.testBit_xor, Nat.testBit_and]
  cases a.testBit i <;> cases b.testBit i <;> rfl
theorem lessN_lt {n a : Nat} (b : Nat) (h : a < 2 ^ n) : lessN a b < 2 ^ n := Nat.xor_lt_two_pow h (Nat.lt_of_le_of_lt Nat.and_le_left h)
theorem less_nat (a b : Nat) (ha : a < 2 ^ 62) (hb : b < 2 ^ 62) : bits .andNot .i64 (a : Int) (b : Int) = ((lessN a b : Nat) : Int) := by
  have hx : lessN a b < 2 ^ 62 := lessN_lt b ha
  show IntKind.i64.wrap ((BitVec.ofInt 64 (a : Int) &&& ~~~ BitVec.ofInt 64 (b : Int)).toNat : Int) = _
  have e : (BitVec.ofInt 64 (a : Int) &&& ~~~ BitVec.ofInt 64 (b : Int)).toNat = lessN a b := by
    refine Nat.eq_of_testBit_eq fun i => ?_
    rw [lessN_bit, ← ofInt_small a ha, ← ofInt_small b hb, BitVec.testBit_toNat, BitVec.getLsbD_and, BitVec.getLsbD_not, BitVec.testBit_toNat, BitVec.testBit_toNat, ofInt_small a ha, ofInt_small b hb]
    by_cases hi : i < 64
    · simp [hi]
    · rw [BitVec.getLsbD_of_ge _ _ (by omega)]; simp
  rw [e]
  exact IntWalk.i64_in _ (by omega)
theorem bit0 (s : Nat) : s.testBit 0 = decide (s % 2 = 1) := Nat.testBit_zero s
/-- Steps of a ring of n. -/
def stepB (n s : Nat) : Prop := s < 2 ^ n ∧ s.testBit 0 = false
/-- No steps, told of any two integers. -/
def NoStep (n s : Int) : Prop := NotIn n s ∨ ∃ m t : Nat, n = (m : Int) ∧ s = (t : Int) ∧ 1 ≤ m ∧ m ≤ 12 ∧ t < 2 ^ m ∧ t.testBit 0 = true
theorem not_noStep {n s : Int} (h : ¬ NoStep n s) : ∃ m t : Nat, n = (m : Int) ∧ s = (t : Int) ∧ 1 ≤ m ∧ m ≤ 12 ∧ t < 2 ^ m ∧ t.testBit 0 = false := by
  obtain ⟨m, t, h1, h2, h3, h4, h5⟩ := not_notIn (fun hh => h (.inl hh))
  refine ⟨m, t, h1, h2, h3, h4, h5, ?_⟩
  cases hb : t.testBit 0
  · rfl
  · exact absurd (.inr ⟨m, t, h1, h2, h3, h4, h5, hb⟩) h
/-- Both steps. -/
def bothN (n s : Nat) : Nat := s ||| turnN n s (-1)
theorem bothN_lt (n s : Nat) (h1 : 1 ≤ n) (hs : s < 2 ^ n) : bothN n s < 2 ^ n := Nat.or_lt_two_pow hs (turnN_lt n s (-1) h1)
/-- The other steps. -/
def otherN (n s : Nat) : Nat := lessN (2 ^ n - 1) (s ||| 1)
theorem otherN_lt (n s : Nat) : otherN n s < 2 ^ n := lessN_lt _ (by have := Nat.two_pow_pos n; omega)
theorem otherN_bit (n s i : Nat) : (otherN n s).testBit i = (decide (i < n) && !decide (i = 0) && !s.testBit i) := by
  unfold otherN
  rw [lessN_bit, Nat.testBit_two_pow_sub_one, Nat.testBit_or]
  by_cases h : i = 0
  · subst h; simp
  · have : (1 : Nat).testBit i = false := Nat.testBit_lt_two_pow (Nat.one_lt_two_pow h)
    simp [this, h]
theorem other_spec (n s : Nat) (h1 : 1 ≤ n) : lessN (2 ^ n - 2) s = otherN n s := by
  refine Nat.eq_of_testBit_eq fun i => ?_
  rw [lessN_bit, otherN_bit]
  obtain ⟨m, rfl⟩ : ∃ m, n = m + 1 := ⟨n - 1, by omega⟩
  have hp := Nat.two_pow_pos m
  cases i with
  | zero =>
    rw [bit0]
    have : (2 ^ (m + 1) - 2) % 2 = 0 := by rw [Nat.pow_succ]; omega
    simp [this]
  | succ i =>
    rw [Nat.testBit_succ, show (2 ^ (m + 1) - 2) / 2 = 2 ^ m - 1 by rw [Nat.pow_succ]; omega, Nat.testBit_two_pow_sub_one]
    simp
theorem pow2_nat (n : Nat) (h1 : 1 ≤ n) (hn : n ≤ 12) : wrap64 (wrap64 (2 ^ n) - 2) = ((2 ^ n - 2 : Nat) : Int) := by
  rw [wrap_pow n (by omega)]
  have h : 2 ≤ 2 ^ n := by
    obtain ⟨m, rfl⟩ : ∃ m, n = m + 1 := ⟨n - 1, by omega⟩
    have := Nat.two_pow_pos m
    rw [Nat.pow_succ]; omega
  have := two_pow_lt n (by omega)
  rw [show (((2 ^ n - 2 : Nat) : Int)) = ((2 ^ n : Nat) : Int) - 2 from by omega]
  generalize 2 ^ n = m at *
  exact IntWalk.wrap64_in _ (by omega)
theorem low_nat (s : Nat) (hs : s < 2 ^ 40) : (bits .and .i64 (s : Int) 1 == 0) = !s.testBit 0 := by
  have h := has_nat0 s 0 hs
  simpa using h
theorem has_int (s v : Nat) (x : Int) (w : World) (hx : x = (v : Int)) (hs : s < 2 ^ 40) (hv : v < 40) :
    Calls Tryd.prog 87 #[.int .i64 (s:Int), .int .i64 x] w fun e w' => e = .returned (.bool (s.testBit v)) ∧ w = w' := by
  subst hx
  exact has_any s v w hs hv
theorem has0_any (s : Nat) (w : World) (hs : s < 2 ^ 40) :
    Calls Tryd.prog 87 #[.int .i64 (s:Int), .int .i64 0] w fun e w' => e = .returned (.bool (s.testBit 0)) ∧ w = w' := has_int s 0 0 w rfl hs (by omega)
end Go.Proofs.YtecjhkpldcmlaaaDoor

/- The model's loops of chapter 2. -/
namespace Go.Proofs.YtecjhkpldcmlaaaDoor
open Go.RowKit
set_option linter.unusedVariables false
/-- All places to which ways of at most k arcs lead from 0. -/
def iterN (n s : Nat) (k : Nat) : Nat := upto (fun _ x => x ||| sumN n s x) k 1
theorem iterN_lt (n s k : Nat) (h1 : 1 ≤ n) : iterN n s k < 2 ^ n := by
  refine upto_lt _ n k 1 ?_ (fun v x hv hx => Nat.or_lt_two_pow hx (sumN_lt n s x))
  obtain ⟨m, rfl⟩ : ∃ m, n = m + 1 := ⟨n - 1, by omega⟩
  have := Nat.two_pow_pos m
  rw [Nat.pow_succ]; omega
/-- The greatest common divisor of n and all steps. -/
def partsS (v x : Nat) : Nat := Nat.gcd x v
def partsN (n s : Nat) : Nat := overSet s partsS n n
theorem partsO_pos (n s j : Nat) (h1 : 1 ≤ n) : 1 ≤ overSet s partsS j n ∧ overSet s partsS j n ≤ n := by
  induction j with
  | zero => exact ⟨h1, Nat.le_refl _⟩
  | succ j ih =>
    rw [over_step]
    split
    · have h2 := Nat.gcd_pos_of_pos_left j ih.1
      have h3 := Nat.le_of_dvd ih.1 (Nat.gcd_dvd_left (overSet s partsS j n) j)
      show 1 ≤ Nat.gcd (overSet s partsS j n) j ∧ Nat.gcd (overSet s partsS j n) j ≤ n
      omega
    · exact ih
theorem partsN_pos (n s : Nat) (h1 : 1 ≤ n) : 1 ≤ partsN n s ∧ partsN n s ≤ n := partsO_pos n s n h1
/-- Whether each step changes one of two colours, and the way around does not. -/
def halfV (n g v : Nat) : Prop := v / g % 2 ≠ 0 ∧ n / g % 2 ≠ 1
def halvesN (n s : Nat) : Bool := decide (∀ v, v < n → s.testBit v = true → ¬ (v / partsN n s % 2 = 0 ∨ n / partsN n s % 2 = 1))
theorem halves_not (n s v : Nat) (hv : v < n) (hb : s.testBit v = true) (h : v / partsN n s % 2 = 0 ∨ n / partsN n s % 2 = 1) : halvesN n s = false := by
  unfold halvesN
  rw [decide_eq_false_iff_not]
  exact fun hh => hh v hv hb h
theorem halves_all (n s : Nat) (h : ∀ v, v < n → s.testBit v = true → ¬ (v / partsN n s % 2 = 0 ∨ n / partsN n s % 2 = 1)) : halvesN n s = true := by
  unfold halvesN
  rw [decide_eq_true_eq]
  exact h
theorem nonzero_bit (n s : Nat) (hs : s < 2 ^ n) (h : s ≠ 0) : ∃ v, v < n ∧ s.testBit v = true := by
  refine Classical.byContradiction fun hn => h (Nat.eq_of_testBit_eq fun i => ?_)
  rw [Nat.zero_testBit]
  cases hb : s.testBit i
  · rfl
  · exact absurd ⟨i, lt_of_bits n s hs i hb, hb⟩ hn
/-- The number of arcs from places of a set to others. -/
def cutS (n s set v x : Nat) : Nat := x + sizeN (lessN (shiftN n s v) set)
def cutsN (n s set : Nat) : Nat := overSet set (cutS n s set) n 0
theorem sizeN_le (n s : Nat) (h2 : n ≤ 12) (hs : s < 2 ^ n) : sizeN s ≤ n := by
  rw [sizeN_of n s h2 hs]
  clear hs h2
  induction n generalizing s with
  | zero => exact Nat.le_refl _
  | succ n ih =>
    have := ih (s / 2)
    show s % 2 + popF n (s / 2) ≤ n + 1
    omega
theorem cutO_le (n s set j : Nat) (h2 : n ≤ 12) : overSet set (cutS n s set) j 0 ≤ 12 * j := by
  induction j with
  | zero => exact Nat.le_refl _
  | succ j ih =>
    rw [over_step]
    split
    · unfold cutS
      have := sizeN_le n (lessN (shiftN n s j) set) h2 (lessN_lt _ (shiftN_lt n s j))
      unfold cutS at ih
      omega
    · omega
end Go.Proofs.YtecjhkpldcmlaaaDoor

/- The program's plain functions of chapter 2: both, even, other, next, isPlace, size. -/
namespace Go.Proofs.YtecjhkpldcmlaaaDoor
open Go.RowKit
set_option linter.unusedVariables false
theorem with_int (s v : Nat) (x : Int) (w : World) (hx : x = (v : Int)) (hs : s < 2 ^ 40) (hv : v < 40) :
    Calls Tryd.prog 71 #[.int .i64 (s:Int), .int .i64 x] w fun e w' => e = .returned (.int .i64 ((s ||| 2 ^ v : Nat) : Int)) ∧ w = w' := by
  subst hx
  exact with_any s v w hs hv
theorem isPlace_any (n : Nat) (v : Int) (w : World) :
    Calls Tryd.prog 49 #[.agg #[.int .i64 (n:Int)], .int .i64 v] w fun e w' => e = .returned (.bool (decide (0 ≤ v ∧ v < (n:Int)))) ∧ Below w.heap.size w w' := by
  by_cases h1 : 0 ≤ v <;> by_cases h2 : v < (n:Int) <;>
  · go_enter Tryd.func49, Tryd.ntmps49
    go_wp2
    go_ret
    exact ⟨ret_bool (by simp [h1, h2]), (Below.refl _ _).alloc (Nat.le_refl _) _⟩
end Go.Proofs.YtecjhkpldcmlaaaDoor

/- The divisor of steps, and the places to which ways lead from 0: the program. -/
namespace Go.Proofs.YtecjhkpldcmlaaaDoor
open Go.RowKit Go.Shelf
set_option linter.unusedVariables false
attribute [local go_sem] Oper.semAt_some
/-- Block B has two cells of type t, which hold u and v. -/
def Duo (W : World) (B : Nat) (t : TypeId) (u v : Value) : Prop := W.heap[B]? = some (.cells #[u, v] t (0, 0))
theorem Duo.lt {W : World} {B : Nat} {t : TypeId} {u v : Value} (h : Duo W B t u v) : B < W.heap.size := (Array.getElem?_eq_some_iff.1 h).1
theorem Duo.cell0 {W : World} {B : Nat} {t : TypeId} {u v : Value} (h : Duo W B t u v) : W.cell? ⟨B, 0, none⟩ = some u := by simp [World.cell?, show W.heap[B]? = _ from h]
theorem Duo.cell1 {W : World} {B : Nat} {t : TypeId} {u v : Value} (h : Duo W B t u v) : W.cell? ⟨B, 1, none⟩ = some v := by simp [World.cell?, show W.heap[B]? = _ from h]
theorem Duo.new (W : World) (t : TypeId) (u v : Value) : Duo (W.alloc (.cells #[u, v] t)) W.heap.size t u v := World.alloc_heap_new W _
theorem Duo.kept {W W' : World} {row : Option Nat} {B : Nat} {t : TypeId} {u v : Value} (h : Duo W B t u v) (hg : W.grownBy W' row) (hne : some B ≠ row) : Duo W' B t u v := (hg.block B h.lt hne).trans h
theorem Duo.same {W W' : World} {B : Nat} {t : TypeId} {u v : Value} (h : Duo W B t u v) (e : W'.heap[B]? = W.heap[B]?) : Duo W' B t u v := e.trans h
theorem Duo.alloc {W : World} {B : Nat} {t : TypeId} {u v : Value} (h : Duo W B t u v) (o : Obj) : Duo (W.alloc o) B t u v := h.kept (World.grownBy_alloc W o none) (by simp)
theorem Duo.other {W : World} {B B' : Nat} {t : TypeId} {u v : Value} (h : Duo W B t u v) (hne : B ≠ B') (x : Value) : Duo (W.setCell ⟨B', 0, none⟩ x) B t u v := h.kept (grownBy_setCell' W B' x) (fun e => hne (by cases e; rfl))
theorem duo_own {β : Type} (B : Nat) (t : TypeId) (f g : β → Value) : Own (fun s W => Duo W B t (f s) (g s)) := fun s X Y row hs hg hrow =>
  hs.kept hg (fun e' => by obtain ⟨o, ho, hc⟩ := hrow B e'.symm; rw [show X.heap[B]? = _ from hs] at ho; cases ho; cases hc)
theorem duo_below {W W' : World} {B : Nat} {t : TypeId} {u v : Value} (h : Duo W B t u v) {N : Nat} (hN : B < N) (hb : Below N W W') : Duo W' B t u v := (hb.block B hN).trans h
theorem Aside.duo {T : Nat} {W W' : World} (h : Aside T W W') {B : Nat} {t : TypeId} {u v : Value} (hB : Duo W B t u v) (hn : B ≠ T) : Duo W' B t u v := (h.block B hB.lt hn).trans hB
theorem partsS_lt (n v x : Nat) (h2 : n ≤ 12) (hv : v < n) (hx : x < 13) : partsS v x < 13 := by
  unfold partsS
  by_cases h : x = 0
  · subst h
    rw [Nat.gcd_zero_left]
    omega
  · have := Nat.le_of_dvd (by omega) (Nat.gcd_dvd_left x v)
    omega
/-- The multiples of g below n. -/
def multS (g j x : Nat) : Nat := x ||| 2 ^ (j * g)
def multN (n g : Nat) : Nat := upto (multS g) (n / g) 0
def partN (n s : Nat) : Nat := multN n (partsN n s)
theorem parts_dvd_n (n s j : Nat) : overSet s partsS j n ∣ n := by
  induction j with
  | zero => exact Nat.dvd_refl _
  | succ j ih =>
    rw [over_step]
    split
    · exact Nat.dvd_trans (Nat.gcd_dvd_left _ _) ih
    · exact ih
theorem mult_lt (n g q j : Nat) (hq : q * g = n) (hg : 1 ≤ g) (hj : j ≤ q) : upto (multS g) j 0 < 2 ^ n := by
  refine upto_lt (multS g) n j 0 (Nat.two_pow_pos n) (fun v x hv hx => ?_)
  refine or_pow_lt n x (v * g) hx ?_
  have : v * g < q * g := Nat.mul_lt_mul_of_pos_right (by omega) hg
  omega
end Go.Proofs.YtecjhkpldcmlaaaDoor

/- Ways from 0 lead to the multiples of the divisor of steps, and to no others. -/
namespace Go.Proofs.YtecjhkpldcmlaaaDoor
open Go.RowKit
set_option linter.unusedVariables false
theorem iter_succ (n s k : Nat) : iterN n s (k + 1) = iterN n s k ||| sumN n s (iterN n s k) := rfl
theorem iter_mono (n s k i : Nat) (h : (iterN n s k).testBit i = true) : (iterN n s (k + 1)).testBit i = true := by
  rw [iter_succ, Nat.testBit_or, h, Bool.true_or]
theorem iter_stop (n s k : Nat) (h : iterN n s (k + 1) = iterN n s k) (d : Nat) : iterN n s (k + d) = iterN n s k := by
  induction d with
  | zero => rfl
  | succ d ih =>
    rw [← Nat.add_assoc, iter_succ, ih, ← iter_succ, h]
theorem iter_grows (n s : Nat) (h1 : 1 ≤ n) (h2 : n ≤ 12) (k : Nat) : (∃ j, j < k ∧ iterN n s (j + 1) = iterN n s j) ∨ k + 1 ≤ sizeN (iterN n s k) := by
  induction k with
  | zero =>
    right
    have := one_size 0 (by omega)
    show 1 ≤ sizeN 1
    simp only [Nat.pow_zero] at this
    omega
  | succ k ih =>
    rcases ih with ⟨j, hj, h⟩ | ih
    · exact .inl ⟨j, by omega, h⟩
    · by_cases he : iterN n s (k + 1) = iterN n s k
      · exact .inl ⟨k, by omega, he⟩
      · right
        refine Classical.byContradiction fun hn => he ?_
        have hp := pow_le n h2
        have hx := iterN_lt n s k h1
        have hy := iterN_lt n s (k + 1) h1
        unfold sizeN at hn ih
        exact (popF_same 40 (iterN n s k) (iterN n s (k + 1)) (by omega) (by omega) (fun i hi => iter_mono n s k i hi) (by omega)).symm
theorem iter_fix (n s : Nat) (h1 : 1 ≤ n) (h2 : n ≤ 12) : iterN n s (n + 1) = iterN n s n := by
  rcases iter_grows n s h1 h2 n with ⟨j, hj, h⟩ | h
  · have a := iter_stop n s j h (n + 1 - j)
    have b := iter_stop n s j h (n - j)
    rw [show j + (n + 1 - j) = n + 1 by omega] at a
    rw [show j + (n - j) = n by omega] at b
    rw [a, b]
  · have := size_le n (iterN n s n) h2 (iterN_lt n s n h1)
    omega
/-- A set that has with each place that place and g added. -/
def ClosedBy (n R g : Nat) : Prop := ∀ v, v < n → R.testBit v = true → R.testBit ((v + g) % n) = true
theorem closed_add {n R a b : Nat} (h1 : 1 ≤ n) (ha : ClosedBy n R a) (hb : ClosedBy n R b) : ClosedBy n R (a + b) := fun v hv h => by
  have := hb _ (Nat.mod_lt (v + a) h1) (ha v hv h)
  rw [Nat.mod_add_mod] at this
  rw [← Nat.add_assoc]
  exact this
theorem closed_congr {n R a b : Nat} (h : a % n = b % n) (ha : ClosedBy n R a) : ClosedBy n R b := fun v hv hb => by
  have := ha v hv hb
  rw [Nat.add_mod, h, ← Nat.add_mod] at this
  exact this
theorem closed_zero {n R : Nat} : ClosedBy n R 0 := fun v hv h => by rw [Nat.add_zero, Nat.mod_eq_of_lt hv]; exact h
theorem closed_mul {n R a : Nat} (h1 : 1 ≤ n) (ha : ClosedBy n R a) (k : Nat) : ClosedBy n R (k * a) := by
  induction k with
  | zero => rw [Nat.zero_mul]; exact closed_zero
  | succ k ih => rw [Nat.succ_mul]; exact closed_add h1 ih ha
theorem closed_mod {n R a b : Nat} (h1 : 1 ≤ n) (ha : ClosedBy n R a) (hb : ClosedBy n R b) : ClosedBy n R (b % a) := by
  have h := closed_add h1 hb (closed_mul h1 ha ((n - 1) * (b / a)))
  refine closed_congr ?_ h
  have e : b + (n - 1) * (b / a) * a = b % a + n * (b / a * a) := by
    obtain ⟨m, rfl⟩ : ∃ m, n = m + 1 := ⟨n - 1, by omega⟩
    have hd := Nat.div_add_mod b a
    rw [Nat.mul_comm a (b / a)] at hd
    rw [Nat.add_sub_cancel, Nat.mul_assoc, Nat.succ_mul]
    omega
  rw [e, Nat.add_mul_mod_self_left]
theorem closed_gcd {n R : Nat} (h1 : 1 ≤ n) (a b : Nat) : ClosedBy n R a → ClosedBy n R b → ClosedBy n R (Nat.gcd a b) := by
  refine Nat.gcd.induction (P := fun a b => ClosedBy n R a → ClosedBy n R b → ClosedBy n R (Nat.gcd a b)) a b ?_ ?_
  · intro b _ hb
    rw [Nat.gcd_zero_left]
    exact hb
  · intro a b ha ih hca hcb
    rw [Nat.gcd_rec]
    exact ih (closed_mod h1 hca hcb) hca
theorem closed_parts (n s R : Nat) (h1 : 1 ≤ n) (h : ∀ t, t < n → s.testBit t = true → ClosedBy n R t) (j : Nat) (hj : j ≤ n) : ClosedBy n R (overSet s partsS j n) := by
  induction j with
  | zero =>
    refine closed_congr (a := 0) ?_ closed_zero
    show 0 % n = n % n
    simp
  | succ j ih =>
    rw [over_step]
    split
    · exact closed_gcd h1 _ _ (ih (by omega)) (h j (by omega) (by assumption))
    · exact ih (by omega)
theorem parts_dvd_step (n s j v : Nat) (hv : v < j) (hb : s.testBit v = true) : overSet s partsS j n ∣ v := by
  induction j with
  | zero => omega
  | succ j ih =>
    rw [over_step]
    by_cases e : v = j
    · subst e
      rw [if_pos hb]
      exact Nat.gcd_dvd_right _ _
    · split
      · exact Nat.dvd_trans (Nat.gcd_dvd_left _ _) (ih (by omega))
      · exact ih (by omega)
theorem iter_dvd (n s k i : Nat) (h1 : 1 ≤ n) (hs : s < 2 ^ n) (h : (iterN n s k).testBit i = true) : partsN n s ∣ i := by
  induction k generalizing i with
  | zero =>
    have h0 : (1 : Nat).testBit i = true := h
    by_cases e : i = 0
    · subst e
      exact Nat.dvd_zero _
    · rw [Nat.testBit_lt_two_pow (Nat.one_lt_two_pow e)] at h0
      cases h0
  | succ k ih =>
    rw [iter_succ, Nat.testBit_or, Bool.or_eq_true] at h
    rcases h with h | h
    · exact ih i h
    · obtain ⟨v, w, hv, hb, hw, ha, rfl⟩ := (sumN_bit n s _ i h1 hs).1 h
      have hn : partsN n s ∣ n := parts_dvd_n n s n
      exact (Nat.dvd_mod_iff hn).2 ((Nat.dvd_add_iff_right (ih v hb)).1 (parts_dvd_step n s n w hw ha))
theorem mult_bit (g j i : Nat) : (upto (multS g) j 0).testBit i = true ↔ ∃ m, m < j ∧ m * g = i := by
  induction j with
  | zero => simp [upto]
  | succ j ih =>
    have e : upto (multS g) (j + 1) 0 = upto (multS g) j 0 ||| 2 ^ (j * g) := rfl
    rw [e, Nat.testBit_or, Bool.or_eq_true, ih, Nat.testBit_two_pow]
    constructor
    · rintro (⟨m, h, rfl⟩ | h)
      · exact ⟨m, by omega, rfl⟩
      · exact ⟨j, by omega, by simpa using h⟩
    · rintro ⟨m, h, rfl⟩
      by_cases e : m = j
      · subst e
        exact .inr (by simp)
      · exact .inl ⟨m, by omega, rfl⟩
theorem part_bit (n s i : Nat) (h1 : 1 ≤ n) : (partN n s).testBit i = true ↔ i < n ∧ partsN n s ∣ i := by
  obtain ⟨hg1, hg2⟩ := partsN_pos n s h1
  have hn : partsN n s ∣ n := parts_dvd_n n s n
  have hq := Nat.div_mul_cancel hn
  unfold partN multN
  rw [mult_bit]
  generalize partsN n s = g at *
  constructor
  · rintro ⟨m, hm, rfl⟩
    refine ⟨?_, Nat.dvd_mul_left g m⟩
    have : m * g < n / g * g := Nat.mul_lt_mul_of_pos_right hm hg1
    omega
  · rintro ⟨hi, m, rfl⟩
    refine ⟨m, ?_, Nat.mul_comm m g⟩
    rw [Nat.mul_comm, ← hq] at hi
    exact Nat.lt_of_mul_lt_mul_right hi
theorem iter_part (n s : Nat) (h1 : 1 ≤ n) (h2 : n ≤ 12) (hs : s < 2 ^ n) : iterN n s n = partN n s := by
  refine Nat.eq_of_testBit_eq fun i => ?_
  rw [Bool.eq_iff_iff, part_bit n s i h1]
  constructor
  · intro h
    exact ⟨lt_of_bits n _ (iterN_lt n s n h1) i h, iter_dvd n s n i h1 hs h⟩
  · rintro ⟨hi, m, hm⟩
    have hf := iter_fix n s h1 h2
    rw [iter_succ] at hf
    have hc : ∀ t, t < n → s.testBit t = true → ClosedBy n (iterN n s n) t := fun t ht hb v hv hv2 => by
      rw [← hf, Nat.testBit_or, Bool.or_eq_true]
      exact .inr ((sumN_bit n s _ _ h1 hs).2 ⟨v, t, hv, hv2, ht, hb, rfl⟩)
    have h0 : ∀ k, (iterN n s k).testBit 0 = true := fun k => by
      induction k with
      | zero =>
        show (1 : Nat).testBit 0 = true
        decide
      | succ k ih => exact iter_mono n s k 0 ih
    have hg := closed_mul h1 (closed_parts n s _ h1 hc n (Nat.le_refl n)) m 0 (by omega) (h0 n)
    have e : m * overSet s partsS n n = i := by rw [hm, Nat.mul_comm]; rfl
    rw [e, Nat.zero_add, Nat.mod_eq_of_lt hi] at hg
    exact hg
end Go.Proofs.YtecjhkpldcmlaaaDoor

/- Distances, told of numbers: layers of places, and lists made of functions. -/
namespace Go.Proofs.YtecjhkpldcmlaaaDoor
open Go.RowKit
set_option linter.unusedVariables false
/-- The list of f at all numbers below n. -/
def tabI (n : Nat) (f : Nat → Int) : List Int := (List.range n).map f
theorem tabI_len (n : Nat) (f : Nat → Int) : (tabI n f).length = n := by simp [tabI]
theorem tabI_get (n : Nat) (f : Nat → Int) (i : Nat) (hi : i < n) : (tabI n f).getD i 0 = f i := by simp [tabI, List.getD_eq_getElem?_getD, hi]
theorem tabI_congr (n : Nat) (f g : Nat → Int) (h : ∀ x, x < n → f x = g x) : tabI n f = tabI n g := by
  unfold tabI
  exact List.map_congr_left fun x hx => h x (List.mem_range.1 hx)
theorem tabI_set (n : Nat) (f : Nat → Int) (i : Nat) (z : Int) : (tabI n f).set i z = tabI n (fun x => if x = i then z else f x) := by
  refine List.ext_getElem (by simp [tabI]) fun k h1 h2 => ?_
  simp only [tabI, List.getElem_set, List.getElem_map, List.getElem_range]
  by_cases e : i = k
  · rw [if_pos e, if_pos e.symm]
  · rw [if_neg e, if_neg (fun h => e h.symm)]
theorem tabI_snoc (n : Nat) (f : Nat → Int) : tabI (n + 1) f = tabI n f ++ [f n] := by simp [tabI, List.range_succ]
/-- The places that are met in exactly d arcs: as the model finds them. -/
def lastN (n s : Nat) : Nat → Nat
  | 0 => 1
  | d + 1 => lessN (sumN n s (lastN n s d)) (iterN n s d)
theorem sum_union (n s x y : Nat) (h1 : 1 ≤ n) (hs : s < 2 ^ n) : sumN n s (x ||| y) = sumN n s x ||| sumN n s y := by
  refine Nat.eq_of_testBit_eq fun i => ?_
  rw [Bool.eq_iff_iff, Nat.testBit_or, Bool.or_eq_true, sumN_bit n s _ i h1 hs, sumN_bit n s x i h1 hs, sumN_bit n s y i h1 hs]
  constructor
  · rintro ⟨v, w, hv, hb, r⟩
    rw [Nat.testBit_or, Bool.or_eq_true] at hb
    rcases hb with hb | hb
    · exact .inl ⟨v, w, hv, hb, r⟩
    · exact .inr ⟨v, w, hv, hb, r⟩
  · rintro (⟨v, w, hv, hb, r⟩ | ⟨v, w, hv, hb, r⟩)
    · exact ⟨v, w, hv, by rw [Nat.testBit_or, hb, Bool.true_or], r⟩
    · exact ⟨v, w, hv, by rw [Nat.testBit_or, hb, Bool.or_true], r⟩
theorem or_less (x y : Nat) : x ||| lessN y x = x ||| y := by
  refine Nat.eq_of_testBit_eq fun i => ?_
  rw [Nat.testBit_or, lessN_bit, Nat.testBit_or]
  cases x.testBit i <;> cases y.testBit i <;> rfl
theorem iter_last (n s d : Nat) (h1 : 1 ≤ n) (hs : s < 2 ^ n) : iterN n s (d + 1) = iterN n s d ||| lastN n s (d + 1) := by
  have e : lastN n s (d + 1) = lessN (sumN n s (lastN n s d)) (iterN n s d) := rfl
  rw [e, or_less]
  induction d with
  | zero => rfl
  | succ d ih =>
    have ih' := ih rfl
    rw [iter_succ n s (d + 1)]
    have e2 : iterN n s (d + 1) = iterN n s d ||| lastN n s (d + 1) := by
      rw [show lastN n s (d + 1) = lessN (sumN n s (lastN n s d)) (iterN n s d) from rfl, or_less]
      exact ih'
    have e3 : sumN n s (iterN n s (d + 1)) = sumN n s (iterN n s d) ||| sumN n s (lastN n s (d + 1)) := by
      rw [← sum_union n s _ _ h1 hs, ← e2]
    rw [e3, ← Nat.or_assoc]
    congr 1
    rw [iter_succ n s d, Nat.or_assoc, Nat.or_self]
theorem last_bit (n s d v : Nat) (h1 : 1 ≤ n) (hs : s < 2 ^ n) : (lastN n s (d + 1)).testBit v = ((iterN n s (d + 1)).testBit v && !(iterN n s d).testBit v) := by
  rw [iter_last n s d h1 hs, Nat.testBit_or]
  have e : lastN n s (d + 1) = lessN (sumN n s (lastN n s d)) (iterN n s d) := rfl
  rw [e, lessN_bit]
  cases (sumN n s (lastN n s d)).testBit v <;> cases (iterN n s d).testBit v <;> rfl
theorem lastN_lt (n s d : Nat) (h1 : 1 ≤ n) : lastN n s d < 2 ^ n := by
  cases d with
  | zero => exact iterN_lt n s 0 h1
  | succ d => exact lessN_lt _ (sumN_lt n s _)
theorem last_zero (n s d : Nat) (h1 : 1 ≤ n) (hs : s < 2 ^ n) (h : lastN n s (d + 1) = 0) : iterN n s (d + 1) = iterN n s d := by
  rw [iter_last n s d h1 hs, h, Nat.or_zero]
theorem last_le (n s d : Nat) (h1 : 1 ≤ n) (h2 : n ≤ 12) (hs : s < 2 ^ n) (h : lastN n s d ≠ 0) : d < n := by
  cases d with
  | zero => omega
  | succ d =>
    rcases iter_grows n s h1 h2 (d + 1) with ⟨j, hj, e⟩ | e
    · exfalso
      refine h ?_
      have a := iter_stop n s j e (d + 1 - j)
      have b := iter_stop n s j e (d - j)
      rw [show j + (d + 1 - j) = d + 1 by omega] at a
      rw [show j + (d - j) = d by omega] at b
      refine Nat.eq_of_testBit_eq fun i => ?_
      rw [last_bit n s d i h1 hs, a, b, Nat.zero_testBit]
      cases (iterN n s j).testBit i <;> rfl
    · have := size_le n _ h2 (iterN_lt n s (d + 1) h1)
      omega
theorem iter_mono_le (n s v k d : Nat) (hkd : k ≤ d) (h : (iterN n s k).testBit v = true) : (iterN n s d).testBit v = true := by
  obtain ⟨e, rfl⟩ : ∃ e, d = k + e := ⟨d - k, by omega⟩
  clear hkd
  induction e with
  | zero => exact h
  | succ e ih => exact iter_mono n s (k + e) v ih
/-- How many arcs fewer than n are too few to get from 0 to v. -/
def farN (n s v : Nat) : Nat := sumTo (fun k => b2n (!(iterN n s k).testBit v)) n
theorem few_sum (b : Nat → Bool) (hm : ∀ k, b k = true → b (k + 1) = true) (n : Nat) : sumTo (fun k => b2n (!b k)) n ≤ n ∧ ∀ d, d < n → (b d = true ↔ sumTo (fun k => b2n (!b k)) n ≤ d) := by
  induction n with
  | zero => exact ⟨Nat.le_refl _, fun d hd => by omega⟩
  | succ n ih =>
    obtain ⟨i1, i2⟩ := ih
    have e : sumTo (fun k => b2n (!b k)) (n + 1) = sumTo (fun k => b2n (!b k)) n + b2n (!b n) := rfl
    rw [e]
    cases hb : b n
    · have hall : ∀ d, d ≤ n → b d = false := by
        intro d hd
        cases hd' : b d
        · rfl
        · exfalso
          have : ∀ e, b (d + e) = true := by
            intro e
            induction e with
            | zero => exact hd'
            | succ e ih => exact hm _ ih
          have := this (n - d)
          rw [show d + (n - d) = n by omega, hb] at this
          cases this
      have hs : sumTo (fun k => b2n (!b k)) n = n := by
        rcases Nat.lt_or_ge (sumTo (fun k => b2n (!b k)) n) n with h | h
        · have := (i2 _ h).2 (Nat.le_refl _)
          rw [hall _ (by omega)] at this
          cases this
        · omega
      rw [hs]
      refine ⟨by simp [b2n], fun d hd => ?_⟩
      rw [hall d (by omega)]
      simp [b2n]
      omega
    · refine ⟨?_, fun d hd => ?_⟩
      · show sumTo (fun k => b2n (!b k)) n + 0 ≤ n + 1
        omega
      show b d = true ↔ sumTo (fun k => b2n (!b k)) n + 0 ≤ d
      by_cases h : d = n
      · subst h
        exact ⟨fun _ => i1, fun _ => hb⟩
      · exact i2 d (by omega)
theorem far_iff (n s v d : Nat) (hd : d < n) : (iterN n s d).testBit v = true ↔ farN n s v ≤ d := (few_sum (fun k => (iterN n s k).testBit v) (fun k h => iter_mono n s k v h) n).2 d hd
theorem far_le (n s v : Nat) : farN n s v ≤ n := (few_sum (fun k => (iterN n s k).testBit v) (fun k h => iter_mono n s k v h) n).1
theorem far_last (n s v d : Nat) (h1 : 1 ≤ n) (h2 : n ≤ 12) (hs : s < 2 ^ n) (h : (lastN n s d).testBit v = true) : farN n s v = d := by
  have hne : lastN n s d ≠ 0 := fun e => by rw [e, Nat.zero_testBit] at h; cases h
  have hd := last_le n s d h1 h2 hs hne
  cases d with
  | zero =>
    have : farN n s v ≤ 0 := (far_iff n s v 0 hd).1 h
    omega
  | succ d =>
    rw [last_bit n s d v h1 hs, Bool.and_eq_true, Bool.not_eq_true'] at h
    have a := (far_iff n s v (d + 1) hd).1 h.1
    have b := far_iff n s v d (by omega)
    rcases Nat.lt_or_ge d (farN n s v) with c | c
    · omega
    · have := b.2 c
      rw [h.2] at this
      cases this
/-- The distance of v as far as it is met within d arcs, -1 otherwise. -/
def distTo (n s d v : Nat) : Int := if (iterN n s d).testBit v then (farN n s v : Int) else -1
/-- The list of distances. -/
def distN (n s v : Nat) : Int := if (partN n s).testBit v then (farN n s v : Int) else -1
theorem dist_step (n s d v : Nat) (h1 : 1 ≤ n) (h2 : n ≤ 12) (hs : s < 2 ^ n) : distTo n s (d + 1) v = if (lastN n s (d + 1)).testBit v then ((d + 1 : Nat) : Int) else distTo n s d v := by
  unfold distTo
  by_cases h : (lastN n s (d + 1)).testBit v = true
  · rw [if_pos h]
    have hf := far_last n s v (d + 1) h1 h2 hs h
    rw [last_bit n s d v h1 hs, Bool.and_eq_true] at h
    rw [if_pos h.1, hf]
  · rw [if_neg h]
    have hb : (iterN n s (d + 1)).testBit v = (iterN n s d).testBit v := by
      rw [iter_last n s d h1 hs, Nat.testBit_or]
      have h' : (lastN n s (d + 1)).testBit v = false := by simpa using h
      rw [h', Bool.or_false]
    rw [hb]
theorem dist_end (n s d v : Nat) (h1 : 1 ≤ n) (h2 : n ≤ 12) (hs : s < 2 ^ n) (hd : d < n + 1) (h : lastN n s (d + 1) = 0) : distTo n s (d + 1) v = distN n s v := by
  have e := last_zero n s d h1 hs h
  have a := iter_stop n s d e (n - d)
  rw [show d + (n - d) = n by omega, iter_part n s h1 h2 hs] at a
  unfold distTo distN
  rw [e, a]
theorem distN_range (n s v : Nat) : -1 ≤ distN n s v ∧ distN n s v ≤ n := by
  have := far_le n s v
  unfold distN
  split <;> omega
end Go.Proofs.YtecjhkpldcmlaaaDoor
