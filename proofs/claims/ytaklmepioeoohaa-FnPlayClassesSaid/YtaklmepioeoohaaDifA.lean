/- Differences of sets: the model's tables. -/
import Derived.Test.YtaklmepioeoohaaGD
import Derived.Test.YtaklmepioeoohaaDifM
import Derived.Test.YtaklmepioeoohaaGG
namespace Go.Proofs.Ytaklmepioeoohaa
open Go.RowKit Go.Shelf
set_option linter.unusedVariables false
def tabD (n s v w : Nat) : List Int := tabI n fun d => ((difTo n s v w d : Nat) : Int)
/-- How often each difference comes. -/
def difL (n s : Nat) : List Int := tabI n fun d => ((difN n s d : Nat) : Int)
theorem tabD_len (n s v w : Nat) : (tabD n s v w).length = n := tabI_len n _
theorem difL_len (n s : Nat) : (difL n s).length = n := tabI_len n _
theorem tabD_get (n s v w i : Nat) (hi : i < n) : (tabD n s v w).getD i 0 = ((difTo n s v w i : Nat) : Int) := tabI_get n _ i hi
theorem difL_get (n s i : Nat) (hi : i < n) : (difL n s).getD i 0 = ((difN n s i : Nat) : Int) := tabI_get n _ i hi
theorem tabD_zero (n s : Nat) : tabD n s 0 0 = List.replicate n 0 := by
  refine List.ext_getElem (by simp [tabD, tabI]) fun k h1 h2 => ?_
  simp [tabD, tabI, difTo_zero]
theorem tabD_up (n s v : Nat) : tabD n s v n = tabD n s (v + 1) 0 := tabI_congr n _ _ fun d _ => by rw [difTo_up]
theorem tabD_end (n s : Nat) (h1 : 1 ≤ n) (h2 : n ≤ 12) (hs : s < 2 ^ n) : tabD n s n 0 = difL n s := tabI_congr n _ _ fun d hd => by rw [dif_all n s d h1 h2 hs hd]
theorem tabD_step (n s v w : Nat) : tabD n s v (w + 1) = (tabD n s v w).set (rest n ((v : Int) - (w : Int))) ((difTo n s v w (rest n ((v : Int) - (w : Int))) + b2n (s.testBit v) * b2n (s.testBit w) : Nat) : Int) := by
  unfold tabD
  rw [tabI_set]
  refine tabI_congr n _ _ fun d hd => ?_
  rw [difTo_step]
  unfold eD
  by_cases hx : d = rest n ((v : Int) - (w : Int))
  · rw [if_pos hx, ← hx]
    cases s.testBit v <;> cases s.testBit w <;> simp [b2n]
  · rw [if_neg hx]
    have : (rest n ((v : Int) - (w : Int)) == d) = false := by simp; exact fun c => hx c.symm
    rw [this, Bool.and_false]
    rfl
theorem bit_val (s v : Nat) (hs : s < 2 ^ 40) : bits .and .i64 ((s : Int) / 2 ^ v) 1 = ((b2n (s.testBit v) : Nat) : Int) := by
  cases hb : s.testBit v
  · exact bit_none hs hb
  · exact bit_one hs hb
theorem two_wraps (x : Int) (y : Nat) (h : x = (y : Int)) (hy : y ≤ 1000000) : IntKind.i64.wrap x = (y : Int) ∧ wrap64 x = (y : Int) := by
  subst h
  exact ⟨IntWalk.i64_in _ ⟨by omega, by omega⟩, IntWalk.wrap64_in _ ⟨by omega, by omega⟩⟩
theorem sub_wraps (v k : Nat) (hv : v ≤ 1000000) (hk : k ≤ 1000000) : IntKind.i64.wrap ((v : Int) - (k : Int)) = (v : Int) - (k : Int) ∧ wrap64 ((v : Int) - (k : Int)) = (v : Int) - (k : Int) :=
  ⟨IntWalk.i64_in _ ⟨by omega, by omega⟩, IntWalk.wrap64_in _ ⟨by omega, by omega⟩⟩
end Go.Proofs.Ytaklmepioeoohaa
