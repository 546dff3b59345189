/- Differences of sets: the model's even and thin sets, and sets that are found. Written by gen53.py. -/
import Derived.Test.YtaklmepioeoohaaDifA
import Derived.Test.YtaklmepioeoohaaDifP
namespace Go.Proofs.Ytaklmepioeoohaa
open Go.RowKit Go.Shelf
set_option linter.unusedVariables false
/-- The number of ways of an even set, 0 for others. -/
def evZ (n s : Nat) : Nat := if evenB n s then difN n s 1 else 0
theorem neg_one_wrap : IntKind.i64.wrap (-1) = -1 := by decide
theorem bne_cast {a b : Nat} (h : a ≠ b) : ((a : Int) != (b : Int)) = true := by simp; omega
theorem bne_same {a b : Nat} (h : a = b) : ((a : Int) != (b : Int)) = false := by simp [h]
theorem beq_same {a b : Nat} (h : a = b) : ((a : Int) == (b : Int)) = true := by simp [h]
theorem beq_other {a b : Nat} (h : a ≠ b) : ((a : Int) == (b : Int)) = false := by simp; omega
theorem firstP_hit (p : Nat → Bool) (i N : Nat) (h0 : firstP p i = 0) (hp : p i = true) (hi : i ≠ 0) (hN : i < N) : firstP p N = i := by
  obtain ⟨d, rfl⟩ : ∃ d, N = i + 1 + d := ⟨N - (i + 1), by omega⟩
  clear hN
  induction d with
  | zero =>
    show (if firstP p i = 0 then (if p i then i else 0) else firstP p i) = i
    rw [if_pos h0, if_pos hp]
  | succ d ih =>
    show (if firstP p (i + 1 + d) = 0 then (if p (i + 1 + d) then i + 1 + d else 0) else firstP p (i + 1 + d)) = i
    rw [ih, if_neg hi]
theorem firstP_miss (p : Nat → Bool) (i : Nat) (h0 : firstP p i = 0) (hp : p i = false) : firstP p (i + 1) = 0 := by
  show (if firstP p i = 0 then (if p i then i else 0) else firstP p i) = 0
  rw [if_pos h0, hp]
  rfl
theorem firstP_one (p : Nat → Bool) : firstP p 1 = 0 := by
  show (if (0 : Nat) = 0 then (if p 0 then 0 else 0) else 0) = 0
  cases p 0 <;> rfl
end Go.Proofs.Ytaklmepioeoohaa
