/- How often a place is a sum: the lists of RingCounts, place by place. -/
import Derived.Test.YtaklmepioeoohaaGD
import Derived.Test.YtaklmepioeoohaaGC
namespace Go.Proofs.Ytaklmepioeoohaa
open Go.RowKit Go.Shelf
set_option linter.unusedVariables false
/-- How often i is a sum of a place of a and one of b. -/
def cval (n a b j i : Nat) : Nat := sumTo (fun v => b2n (a.testBit v) * sumTo (fun w => b2n (b.testBit w) * b2n ((v + w) % n == i)) n) j
theorem rowC_val (n b v k : Nat) (xs : List Int) (i : Nat) (hl : xs.length = n) (hi : i < n) : (rowC n b v k xs).getD i 0 = xs.getD i 0 + ((sumTo (fun w => b2n (b.testBit w) * b2n ((v + w) % n == i)) k : Nat) : Int) := by
  induction k with
  | zero => simp [rowC, overSet, upto, sumTo]
  | succ k ih =>
    have hlen := rowC_len n b v k xs
    show (if b.testBit k then stepC n v k (rowC n b v k xs) else rowC n b v k xs).getD i 0 = xs.getD i 0 + ((sumTo (fun w => b2n (b.testBit w) * b2n ((v + w) % n == i)) k + b2n (b.testBit k) * b2n ((v + k) % n == i) : Nat) : Int)
    cases hb : b.testBit k
    · rw [if_neg (by simp), ih]
      simp [b2n]
    · rw [if_pos rfl]
      unfold stepC
      rw [getD_set_int]
      by_cases e : (v + k) % n = i
      · rw [if_pos ⟨e, by rw [hlen, hl, e]; exact hi⟩, e, ih]
        simp [b2n]
        omega
      · rw [if_neg (fun h => e h.1), ih]
        have e' : ((v + k) % n == i) = false := by simpa using e
        rw [e']
        simp [b2n]
theorem counts_val (n a b j i : Nat) (hi : i < n) : (countsN n a b j).getD i 0 = ((cval n a b j i : Nat) : Int) := by
  induction j with
  | zero => simp [countsN, overSet, upto, cval, sumTo, hi]
  | succ j ih =>
    have e : cval n a b (j + 1) i = cval n a b j i + b2n (a.testBit j) * sumTo (fun w => b2n (b.testBit w) * b2n ((j + w) % n == i)) n := rfl
    rw [countsN_succ, e]
    cases hb : a.testBit j
    · rw [if_neg (by simp), ih]
      simp [b2n]
    · rw [if_pos rfl, rowC_val n b j n _ i (countsN_len n a b j) hi, ih]
      simp [b2n]
end Go.Proofs.Ytaklmepioeoohaa
