/- Promises of chapter 7 over given contracts: even sets, sets that are found, thin sets. Written by gen59.py. -/
import Derived.Test.YtaklmepioeoohaaPDifA
namespace Go.Proofs.Ytaklmepioeoohaa
open Go.RowKit Go.Shelf
set_option linter.unusedVariables false
theorem even_nums (l n k Q : Nat) (h1 : 2 ≤ n) (hQ : k * k = Q) (h : l * (n - 1) + k = k * k) : (l : Int) * ((n : Int) - 1) = (Q : Int) - (k : Int) := by
  have e : (n : Int) - 1 = ((n - 1 : Nat) : Int) := by omega
  rw [e, ← Int.natCast_mul]
  rw [hQ] at h
  generalize l * (n - 1) = y at *
  omega
theorem oth_nums (o k n l : Nat) (h : o + 2 * k = n + l) (hn : n ≤ 12) (hk : k ≤ 12) (hl : l ≤ 12) :
    (IntKind.i64.wrap (2 * (k : Int)) = 2 * (k : Int) ∧ wrap64 (2 * (k : Int)) = 2 * (k : Int)) ∧ (IntKind.i64.wrap ((n : Int) - 2 * (k : Int)) = (n : Int) - 2 * (k : Int) ∧ wrap64 ((n : Int) - 2 * (k : Int)) = (n : Int) - 2 * (k : Int)) ∧ (IntKind.i64.wrap ((n : Int) - 2 * (k : Int) + (l : Int)) = (o : Int) ∧ wrap64 ((n : Int) - 2 * (k : Int) + (l : Int)) = (o : Int)) := by
  refine ⟨fits _ ⟨by omega, by omega⟩, fits _ ⟨by omega, by omega⟩, ?_⟩
  have e : (n : Int) - 2 * (k : Int) + (l : Int) = (o : Int) := by omega
  rw [e]
  exact fits _ ⟨by omega, by omega⟩
theorem fun_nums (n k m Q : Nat) (P : Int) (h1 : 1 ≤ n) (hP : P = (Q : Int) - (k : Int)) (p1 : Q ≤ n - 1 + k) (p2 : k ≤ m) : P ≤ (n : Int) - 1 ∧ (k : Int) ≤ (m : Int) := by omega
theorem pow_fits (n N : Nat) (h2 : n ≤ 12) (hN : 2 ^ n = N) : (IntKind.i64.wrap (2 ^ n) = (N : Int) ∧ wrap64 (2 ^ n) = (N : Int)) ∧ (IntKind.i64.wrap ((N : Int) - 1) = ((N - 1 : Nat) : Int) ∧ wrap64 ((N : Int) - 1) = ((N - 1 : Nat) : Int)) := by
  have hp := pow_le n h2
  have hp1 := Nat.two_pow_pos n
  have e := wrap_pow n (by omega)
  rw [hN] at hp hp1 e
  refine ⟨⟨by rw [IntWalk.i64_left]; exact e, e⟩, ?_⟩
  have e2 : (N : Int) - 1 = ((N - 1 : Nat) : Int) := by omega
  rw [e2]
  exact fits _ ⟨by omega, by omega⟩
theorem sub_fits (M s c : Nat) (hc : M - s = c) (hs : s ≤ M) (hM : M ≤ 4096) : IntKind.i64.wrap ((M : Int) - (s : Int)) = (c : Int) ∧ wrap64 ((M : Int) - (s : Int)) = (c : Int) := by
  have e : (M : Int) - (s : Int) = (c : Int) := by omega
  rw [e]
  exact fits _ ⟨by omega, by omega⟩
end Go.Proofs.Ytaklmepioeoohaa
