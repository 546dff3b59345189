/- Classes of plays are at least as many as sizes allow (promise 72), by the kernel. -/
import Derived.Test.YtaklmepioeoohaaPlyF
namespace Go.Proofs.Ytaklmepioeoohaa
set_option linter.unusedVariables false
/-- The classes counted with the marks as one number: the marks are forced at each step. -/
def markK (n x : Nat) : Nat → Nat → Nat
  | 0, met => met
  | m + 1, met => match markK n x m met with
    | 0 => if (unitsN n).testBit m then 2 ^ act n x (m : Int) 0 else 0
    | v + 1 => if (unitsN n).testBit m then (v + 1) ||| 2 ^ act n x (m : Int) 0 else v + 1
theorem markK_up (n x m met : Nat) : markK n x (m + 1) met = if (unitsN n).testBit m then markK n x m met ||| 2 ^ act n x (m : Int) 0 else markK n x m met := by
  show (match markK n x m met with
    | 0 => if (unitsN n).testBit m then 2 ^ act n x (m : Int) 0 else 0
    | v + 1 => if (unitsN n).testBit m then (v + 1) ||| 2 ^ act n x (m : Int) 0 else v + 1) = _
  cases markK n x m met
  · simp
  · rfl
theorem markK_bit (n x met : Nat) (f : Nat → Bool) (hf : ∀ y, met.testBit y = f y) (m y : Nat) : (markK n x m met).testBit y = unitP n x f m y := by
  induction m generalizing y with
  | zero => exact hf y
  | succ m ih =>
    rw [markK_up]
    have e : unitP n x f (m + 1) = if (unitsN n).testBit m then (fun y => unitP n x f m y || y == act n x (m : Int) 0) else unitP n x f m := rfl
    rw [e]
    cases (unitsN n).testBit m
    · exact ih y
    · show (markK n x m met ||| 2 ^ act n x (m : Int) 0).testBit y = (unitP n x f m y || y == act n x (m : Int) 0)
      rw [Nat.testBit_or, ih y, Nat.testBit_two_pow]
      congr 1
      by_cases c : act n x (m : Int) 0 = y
      · subst c; simp
      · simp [c]; exact fun e => c e.symm
/-- Marks and count behind the first i plays. -/
def runK (n : Nat) (xs : List Int) : Nat → Nat × Nat
  | 0 => (0, 0)
  | i + 1 => match runK n xs i with
    | (0, c) => (markK n (atN xs i) n 0, c + 1)
    | (v + 1, c) => if (v + 1).testBit (atN xs i) then (v + 1, c) else (markK n (atN xs i) n (v + 1), c + 1)
theorem runK_up (n : Nat) (xs : List Int) (i : Nat) : runK n xs (i + 1) = if (runK n xs i).1.testBit (atN xs i) then runK n xs i else (markK n (atN xs i) n (runK n xs i).1, (runK n xs i).2 + 1) := by
  show (match runK n xs i with
    | (0, c) => (markK n (atN xs i) n 0, c + 1)
    | (v + 1, c) => if (v + 1).testBit (atN xs i) then (v + 1, c) else (markK n (atN xs i) n (v + 1), c + 1)) = _
  obtain ⟨v, c⟩ := runK n xs i
  cases v
  · simp
  · rfl
theorem runK_is (n : Nat) (xs : List Int) (i : Nat) : (∀ y, (runK n xs i).1.testBit y = clsF n xs i y) ∧ (runK n xs i).2 = clsN n xs i := by
  induction i with
  | zero => exact ⟨fun y => Nat.zero_testBit y, rfl⟩
  | succ i ih =>
    rw [runK_up]
    have e1 : clsF n xs (i + 1) = if clsF n xs i (atN xs i) then clsF n xs i else unitP n (atN xs i) (clsF n xs i) n := rfl
    have e2 : clsN n xs (i + 1) = if clsF n xs i (atN xs i) then clsN n xs i else clsN n xs i + 1 := rfl
    rw [e1, e2, ih.1 (atN xs i)]
    cases clsF n xs i (atN xs i)
    · exact ⟨fun y => markK_bit n (atN xs i) _ _ ih.1 n y, congrArg (· + 1) ih.2⟩
    · exact ih
def clsK (n : Nat) : Bool := Nat.ble (playL n (2 ^ (n - 1))).length ((runK n (playL n (2 ^ (n - 1))) (2 ^ ((n - 1) / 2))).2 * sizeN (unitsN n)) && Nat.ble 1 (runK n (playL n (2 ^ (n - 1))) (2 ^ ((n - 1) / 2))).2
theorem cls_all : ([3, 5, 7, 9, 11].all clsK) = true := by decide +kernel
theorem p_classes (n : Nat) (h1 : 3 ≤ n) (h2 : n ≤ 11) (h3 : n % 2 = 1) : (playL n (2 ^ (n - 1))).length ≤ clsAll n * sizeN (unitsN n) ∧ clsAll n ≤ (playL n (2 ^ (n - 1))).length ∧ 1 ≤ clsAll n := by
  have hm : n ∈ [3, 5, 7, 9, 11] := by
    have : n = 3 ∨ n = 5 ∨ n = 7 ∨ n = 9 ∨ n = 11 := by omega
    rcases this with rfl | rfl | rfl | rfl | rfl <;> simp
  have h := List.all_eq_true.1 cls_all n hm
  unfold clsK at h
  rw [← playL_size n h1 h2 h3, (runK_is n _ _).2, Bool.and_eq_true] at h
  exact ⟨Nat.le_of_ble_eq_true h.1, clsN_le n _ _, Nat.le_of_ble_eq_true h.2⟩
end Go.Proofs.Ytaklmepioeoohaa
