/- Rounds: how many there are, and the first one. -/
import Derived.Test.YtcmobeeneleidaaRndA
import Derived.Test.YtcmobeeneleidaaGC
namespace Go.Proofs.Ytcmobeeneleidaa
open Go.RowKit
set_option linter.unusedVariables false
/-- Whether the round may go on from one place to another one that is not met. -/
def mayN (n s at' met v : Nat) : Bool := !decide (v = 0) && !met.testBit v && s.testBit (rest n ((v : Int) - (at' : Int)))
/-- Ways to go on by m places and back to 0. -/
def cntN (n s : Nat) : Nat → Nat → Nat → Nat
  | 0, a, _ => b2n (s.testBit (rest n (0 - (a : Int))))
  | m + 1, a, met => sumTo (fun v => if mayN n s a met v then cntN n s m v (met ||| 2 ^ v) else 0) n
/-- The first that is there. -/
def fstTo (f : Nat → Option (List Int)) : Nat → Option (List Int)
  | 0 => none
  | j + 1 => match fstTo f j with
    | some l => some l
    | none => f j
def firN (n s : Nat) : Nat → Nat → Nat → Option (List Int)
  | 0, a, _ => if s.testBit (rest n (0 - (a : Int))) then some [] else none
  | m + 1, a, met => fstTo (fun v => if mayN n s a met v then (firN n s m v (met ||| 2 ^ v)).map (fun l => (v : Int) :: l) else none) n
/-- What one place brings. -/
def brN (n s m a met v : Nat) : Nat := if mayN n s a met v then cntN n s m v (met ||| 2 ^ v) else 0
def bfN (n s m a met v : Nat) : Option (List Int) := if mayN n s a met v then (firN n s m v (met ||| 2 ^ v)).map (fun l => (v : Int) :: l) else none
theorem cnt_succ (n s m a met : Nat) : cntN n s (m + 1) a met = sumTo (brN n s m a met) n := rfl
theorem fir_succ (n s m a met : Nat) : firN n s (m + 1) a met = fstTo (bfN n s m a met) n := rfl
theorem fst_none (f : Nat → Option (List Int)) (g : Nat → Nat) (h : ∀ v, f v = none ↔ g v = 0) (j : Nat) : fstTo f j = none ↔ sumTo g j = 0 := by
  induction j with
  | zero => exact ⟨fun _ => rfl, fun _ => rfl⟩
  | succ j ih =>
    show (match fstTo f j with | some l => some l | none => f j) = none ↔ sumTo g j + g j = 0
    cases hf : fstTo f j with
    | none =>
      have := ih.1 hf
      simp only []
      rw [h j]
      omega
    | some l =>
      have : ¬ sumTo g j = 0 := fun e => by rw [ih.2 e] at hf; cases hf
      simp only []
      constructor
      · intro e; cases e
      · omega
theorem fir_none (n s m a met : Nat) : firN n s m a met = none ↔ cntN n s m a met = 0 := by
  induction m generalizing a met with
  | zero =>
    show (if s.testBit (rest n (0 - (a : Int))) then some [] else none) = none ↔ b2n _ = 0
    cases s.testBit (rest n (0 - (a : Int))) <;> simp [b2n]
  | succ m ih =>
    rw [fir_succ, cnt_succ]
    refine fst_none _ _ (fun v => ?_) n
    unfold bfN brN
    split
    · rw [Option.map_eq_none_iff, ih]
    · simp
theorem br_none (n s m a met v : Nat) : bfN n s m a met v = none ↔ brN n s m a met v = 0 := by
  unfold bfN brN
  split
  · rw [Option.map_eq_none_iff, fir_none]
  · simp
theorem fst_here (f : Nat → Option (List Int)) (j k : Nat) (hjk : j ≤ k) (l : List Int) (h : fstTo f j = some l) : fstTo f k = some l := by
  induction k with
  | zero => obtain rfl : j = 0 := by omega
            exact h
  | succ k ih =>
    by_cases e : j = k + 1
    · subst e; exact h
    · show (match fstTo f k with | some l => some l | none => f k) = some l
      rw [ih (by omega)]
theorem fst_new (f : Nat → Option (List Int)) (j : Nat) (h : fstTo f j = none) : fstTo f (j + 1) = f j := by
  show (match fstTo f j with | some l => some l | none => f j) = f j
  rw [h]
theorem sum_more (g : Nat → Nat) (j k : Nat) (h : j ≤ k) : sumTo g j ≤ sumTo g k := by
  induction k with
  | zero => obtain rfl : j = 0 := by omega
            exact Nat.le_refl _
  | succ k ih =>
    by_cases e : j = k + 1
    · subst e; exact Nat.le_refl _
    · have := ih (by omega)
      show sumTo g j ≤ sumTo g k + g k
      omega
/-- Places that are not met. -/
def freeN (n met : Nat) : Nat := sumTo (fun v => b2n (!met.testBit v)) n
theorem free_less (n met v : Nat) (hv : v < n) (h : met.testBit v = false) : freeN n (met ||| 2 ^ v) + 1 = freeN n met := by
  have key : ∀ k, sumTo (fun u => b2n (!(met ||| 2 ^ v).testBit u)) k + (if v < k then 1 else 0) = sumTo (fun u => b2n (!met.testBit u)) k := by
    intro k
    induction k with
    | zero => rfl
    | succ k ih =>
      show sumTo _ k + b2n (!(met ||| 2 ^ v).testBit k) + (if v < k + 1 then 1 else 0) = sumTo _ k + b2n (!met.testBit k)
      by_cases e : v = k
      · subst e
        rw [if_neg (Nat.lt_irrefl v)] at ih
        rw [if_pos (Nat.lt_succ_self v)]
        have b1 : (met ||| 2 ^ v).testBit v = true := by rw [Nat.testBit_or, Nat.testBit_two_pow, decide_eq_true rfl, Bool.or_true]
        have c1 : b2n (!true) = 0 := rfl
        have c2 : b2n (!false) = 1 := rfl
        rw [b1, h]
        omega
      · have b1 : (met ||| 2 ^ v).testBit k = met.testBit k := by rw [Nat.testBit_or, Nat.testBit_two_pow, decide_eq_false e, Bool.or_false]
        rw [b1]
        have c3 : (if v < k + 1 then 1 else 0) = (if v < k then 1 else 0) := by
          by_cases c : v < k
          · rw [if_pos c, if_pos (show v < k + 1 by omega)]
          · rw [if_neg c, if_neg (show ¬ v < k + 1 by omega)]
        omega
  have := key n
  rw [if_pos hv] at this
  exact this
def facN : Nat → Nat
  | 0 => 1
  | m + 1 => (m + 1) * facN m
theorem sum_upTo (f g : Nat → Nat) (c n : Nat) (h : ∀ v, v < n → f v ≤ g v * c) : sumTo f n ≤ sumTo g n * c := by
  induction n with
  | zero => exact Nat.zero_le _
  | succ n ih =>
    have a := ih fun v hv => h v (by omega)
    have b := h n (by omega)
    show sumTo f n + f n ≤ (sumTo g n + g n) * c
    rw [Nat.add_mul]
    omega
theorem cnt_fac (n s m a met : Nat) (h : freeN n met = m) : cntN n s m a met ≤ facN m := by
  induction m generalizing a met with
  | zero =>
    show b2n _ ≤ 1
    unfold b2n
    split <;> omega
  | succ m ih =>
    rw [cnt_succ]
    show _ ≤ (m + 1) * facN m
    rw [← h]
    refine sum_upTo _ _ _ n fun v hv => ?_
    unfold brN
    cases hb : met.testBit v
    · have hf := free_less n met v hv hb
      have := ih v (met ||| 2 ^ v) (by omega)
      show _ ≤ 1 * facN m
      split <;> omega
    · rw [if_neg (by unfold mayN; rw [hb]; simp)]
      omega
theorem free_one (n : Nat) (h1 : 1 ≤ n) : freeN n 1 = n - 1 := by
  have key : ∀ k, freeN (k + 1) 1 = k := by
    intro k
    induction k with
    | zero => decide
    | succ k ih =>
      show freeN (k + 1) 1 + b2n (!(1 : Nat).testBit (k + 1)) = k + 1
      rw [ih, Nat.testBit_lt_two_pow (Nat.one_lt_two_pow (by omega))]
      rfl
  obtain ⟨m, rfl⟩ : ∃ m, n = m + 1 := ⟨n - 1, by omega⟩
  exact key m
theorem fac_small (m : Nat) (h : m ≤ 8) : facN m ≤ 40320 := by
  have hc : m = 0 ∨ m = 1 ∨ m = 2 ∨ m = 3 ∨ m = 4 ∨ m = 5 ∨ m = 6 ∨ m = 7 ∨ m = 8 := by omega
  rcases hc with rfl | rfl | rfl | rfl | rfl | rfl | rfl | rfl | rfl <;> decide
end Go.Proofs.Ytcmobeeneleidaa
