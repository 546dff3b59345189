/- Promises of chapter 7 over given contracts: whole, thin and even sets, and sets that are found. Written by gen58.py. -/
import Derived.Test.YtaklmepioeoohaaGP
import Derived.Test.YtaklmepioeoohaaDrawG
import Derived.Test.YtaklmepioeoohaaDrawH
import Derived.Test.YtaklmepioeoohaaGB
import Derived.Test.YtaklmepioeoohaaGM
namespace Go.Proofs.Ytaklmepioeoohaa
open Go.RowKit Go.Shelf
set_option linter.unusedVariables false
theorem fits (x : Int) (h : -100000 ≤ x ∧ x ≤ 100000) : IntKind.i64.wrap x = x ∧ wrap64 x = x := ⟨IntWalk.i64_in _ ⟨by omega, by omega⟩, IntWalk.wrap64_in _ ⟨by omega, by omega⟩⟩
/-- A number of at most 12 times one less. -/
theorem sq_fits (m : Nat) (h : m ≤ 12) : ∃ (Q : Nat) (P : Int), m * m = Q ∧ P = (Q : Int) - (m : Int) ∧ -12 ≤ P ∧ P ≤ 144 ∧ Hid (IntKind.i64.wrap ((m : Int) * ((m : Int) - 1)) = P ∧ wrap64 ((m : Int) * ((m : Int) - 1)) = P ∧ IntKind.i64.wrap ((m : Int) - 1) = (m : Int) - 1 ∧ wrap64 ((m : Int) - 1) = (m : Int) - 1) := by
  have hq : m * m ≤ 144 := Nat.mul_le_mul h h
  have e : (m : Int) * ((m : Int) - 1) = ((m * m : Nat) : Int) - (m : Int) := by rw [Int.mul_sub, Int.mul_one, Int.natCast_mul]
  have F := Lib.hid (fits ((m : Int) - 1) ⟨by omega, by omega⟩)
  obtain ⟨Q, hQ⟩ : ∃ Q, m * m = Q := ⟨_, rfl⟩
  rw [hQ] at e hq
  refine ⟨Q, (Q : Int) - (m : Int), hQ, rfl, by omega, by omega, ?_, ?_, F.out.1, F.out.2⟩
  · rw [e]; exact (fits _ ⟨by omega, by omega⟩).1
  · rw [e]; exact (fits _ ⟨by omega, by omega⟩).2
theorem comp_fits (n s : Nat) (h2 : n ≤ 12) (hs : s < 2 ^ n) : wrap64 ((2 ^ n - 1 : Nat) : Int) = ((2 ^ n - 1 : Nat) : Int) ∧ wrap64 (((2 ^ n - 1 : Nat) : Int) - (s : Int)) = ((2 ^ n - 1 - s : Nat) : Int) ∧ IntKind.i64.wrap (((2 ^ n - 1 : Nat) : Int) - (s : Int)) = ((2 ^ n - 1 - s : Nat) : Int) := by
  have hp := pow_le n h2
  have hp1 := Nat.two_pow_pos n
  have e : ((2 ^ n - 1 : Nat) : Int) - (s : Int) = ((2 ^ n - 1 - s : Nat) : Int) := by omega
  rw [e]
  have hM : 2 ^ n - 1 ≤ 4096 := by omega
  clear e hp hp1
  generalize 2 ^ n - 1 = M at *
  exact ⟨(fits _ ⟨by omega, by omega⟩).2, (fits _ ⟨by omega, by omega⟩).2, (fits _ ⟨by omega, by omega⟩).1⟩
theorem whole_nums (n m Q : Nat) (P : Int) (h1 : 1 ≤ n) (hP : P = (Q : Int) - (m : Int)) (p1 : n - 1 + m ≤ Q) (p2 : 2 * m ≤ n + 2) : (n : Int) - 1 ≤ P ∧ 2 * (m : Int) ≤ (n : Int) + 2 := by omega
theorem thin_nums (n m Q : Nat) (P : Int) (h1 : 1 ≤ n) (hP : P = (Q : Int) - (m : Int)) (p1 : 1 ≤ m) (p2 : Q ≤ n - 1 + m) : P ≤ (n : Int) - 1 ∧ (1 : Int) ≤ (m : Int) ∧ (P = (n : Int) - 1 → Q = n - 1 + m) := by omega
theorem dec_t {p : Prop} [Decidable p] (h : p) : decide p = true := decide_eq_true h
end Go.Proofs.Ytaklmepioeoohaa
