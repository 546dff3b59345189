/- Trees of both: what the promises ask. -/
import Derived.Test.YtookciehnjnmnaaTreeG
import Derived.Test.YtookciehnjnmnaaStepQ
import Derived.Test.YtookciehnjnmnaaWalkH
namespace Go.Proofs.Ytookciehnjnmnaa
set_option linter.unusedVariables false
theorem neg_sb (n v : Nat) (h1 : 1 ≤ n) (h2 : n ≤ 12) (hv : v < n) : sbN n 0 v = neg n v := by
  unfold sbN neg rest
  rcases twelve h1 h2 with rfl | rfl | rfl | rfl | rfl | rfl | rfl | rfl | rfl | rfl | rfl | rfl <;> omega
theorem even_sb (n s : Nat) (h1 : 1 ≤ n) (h2 : n ≤ 12) (hs : s < 2 ^ n) (h : bothN n s = s) (d : Nat) (hd : d < n) : s.testBit (sbN n 0 d) = s.testBit d := by
  rw [neg_sb n d h1 h2 hd]
  exact (even_neg n s h1 hs).1 h d hd
theorem evenT_of (n b j : Nat) (hj : j ≤ n) (h : ∀ d, d < n → b.testBit (sbN n 0 d) = b.testBit d) : evenT n b j = true := by
  induction j with
  | zero => rfl
  | succ j ih =>
    show ((b.testBit j == b.testBit ((n - j) % n)) && evenT n b j) = true
    have e := h j (by omega)
    unfold sbN at e
    rw [Nat.zero_add] at e
    rw [e, ih (by omega)]
    simp
theorem countT_sum (b j : Nat) : countT b j = sumTo (fun u => b2n (b.testBit u)) j := by
  induction j with
  | zero => rfl
  | succ j ih =>
    show countT b j + (if b.testBit j then 1 else 0) = sumTo _ j + b2n (b.testBit j)
    rw [ih]
    rfl
theorem tree_says (n s : Nat) (h1 : 1 ≤ n) (h2 : n ≤ 11) (hs : s < 2 ^ n) (h0 : s.testBit 0 = false) :
    bothN n (bothN n s) = bothN n s ∧ (treeN n (bothN n s) = 0 ↔ 1 < partsN n s) ∧ (sizeN (bothN n s) + 1 = n → treeN n (bothN n s) = ((n ^ (n - 2) : Nat) : Int)) ∧ 0 ≤ treeN n (bothN n s) ∧
    (sizeN (bothN n s) = 2 → ¬ (n % 2 = 0 ∧ (bothN n s).testBit (n / 2) = true) → partsN n s = 1 → treeN n (bothN n s) = (n : Int)) := by
  have hb := bothN_lt n s h1 hs
  have hbb := both_both n s h1 hs
  have hf := tree_facts n (bothN n s) h1 h2 hb (both_zero_bit n s h1 hs h0) (evenT_of n _ n (Nat.le_refl n) (even_sb n _ h1 (by omega) hb hbb))
  rw [parts_both n s h1 hs, countT_sum, ← size_sum n _ (by omega) hb] at hf
  exact ⟨hbb, hf⟩
end Go.Proofs.Ytookciehnjnmnaa
