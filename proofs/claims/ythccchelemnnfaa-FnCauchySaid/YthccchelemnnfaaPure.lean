/- Plain lemmas on numbers, bits of small numbers and loops that count up: nothing here speaks of a program. -/
import Derived.IntWalk
import Derived.Laws.Bits64b
import Derived.RowKit3
import Derived.Below
namespace Go.Proofs.Ythccchelemnnfaa
open Go.RowKit

theorem ofInt_small (a : Nat) (ha : a < 2 ^ 62) : (BitVec.ofInt 64 (a : Int)).toNat = a := by
  rw [BitVec.ofInt_natCast, BitVec.toNat_ofNat]; exact Nat.mod_eq_of_lt (by omega)
theorem and_nat (a b : Nat) (ha : a < 2 ^ 62) (hb : b < 2 ^ 62) : bits .and .i64 (a : Int) (b : Int) = ((a &&& b : Nat) : Int) := by
  have hx : a &&& b < 2 ^ 62 := Nat.and_lt_two_pow _ hb
  show IntKind.i64.wrap ((BitVec.ofInt 64 (a : Int) &&& BitVec.ofInt 64 (b : Int)).toNat : Int) = _
  rw [BitVec.toNat_and, ofInt_small a ha, ofInt_small b hb]
  exact IntWalk.i64_in _ (by omega)
theorem or_nat (a b : Nat) (ha : a < 2 ^ 62) (hb : b < 2 ^ 62) : bits .or .i64 (a : Int) (b : Int) = ((a ||| b : Nat) : Int) := by
  have hx : a ||| b < 2 ^ 62 := Nat.or_lt_two_pow ha hb
  show IntKind.i64.wrap ((BitVec.ofInt 64 (a : Int) ||| BitVec.ofInt 64 (b : Int)).toNat : Int) = _
  rw [BitVec.toNat_or, ofInt_small a ha, ofInt_small b hb]
  exact IntWalk.i64_in _ (by omega)
theorem two_pow_lt (v : Nat) (hv : v < 40) : 2 ^ v < 2 ^ 40 := Nat.pow_lt_pow_right (by omega) hv
theorem wrap_pow (v : Nat) (hv : v < 40) : wrap64 (2 ^ v) = ((2 ^ v : Nat) : Int) := by
  have h := two_pow_lt v hv
  have e : ((2 : Int) ^ v) = ((2 ^ v : Nat) : Int) := by simp
  rw [e]
  generalize 2 ^ v = m at h
  exact IntWalk.wrap64_in _ (by omega)
theorem shr_cast (s v : Nat) : ((s : Int) / 2 ^ v) = ((s / 2 ^ v : Nat) : Int) := by simp
theorem has_nat (s v : Nat) (hs : s < 2 ^ 40) : (bits .and .i64 ((s : Int) / 2 ^ v) 1 == 1) = s.testBit v := by
  have hd : s / 2 ^ v ≤ s := Nat.div_le_self _ _
  rw [shr_cast, show (1 : Int) = ((1 : Nat) : Int) from rfl, and_nat _ _ (by omega) (by omega)]
  rw [Nat.and_one_is_mod, Nat.testBit, Nat.shiftRight_eq_div_pow, Nat.and_comm, Nat.and_one_is_mod]
  rcases Nat.mod_two_eq_zero_or_one (s / 2 ^ v) with h | h <;> simp [h]
theorem has_nat0 (s v : Nat) (hs : s < 2 ^ 40) : (bits .and .i64 ((s : Int) / 2 ^ v) 1 == 0) = !s.testBit v := by
  have hd : s / 2 ^ v ≤ s := Nat.div_le_self _ _
  rw [shr_cast, show (1 : Int) = ((1 : Nat) : Int) from rfl, and_nat _ _ (by omega) (by omega)]
  rw [Nat.and_one_is_mod, Nat.testBit, Nat.shiftRight_eq_div_pow, Nat.and_comm, Nat.and_one_is_mod]
  rcases Nat.mod_two_eq_zero_or_one (s / 2 ^ v) with h | h <;> simp [h]
theorem with_nat (s v : Nat) (hs : s < 2 ^ 40) (hv : v < 40) : bits .or .i64 (s : Int) (wrap64 (2 ^ v)) = ((s ||| 2 ^ v : Nat) : Int) := by
  have := two_pow_lt v hv
  rw [wrap_pow v hv, or_nat _ _ (by omega) (by omega)]
theorem or_pow_lt (n s v : Nat) (hs : s < 2 ^ n) (hv : v < n) : s ||| 2 ^ v < 2 ^ n := Nat.or_lt_two_pow hs (Nat.pow_lt_pow_right (by omega) hv)

theorem ret_int {k : IntKind} {a b : Int} (h : a = b) : Ending.returned (.int k a) = .returned (.int k b) := by rw [h]
theorem ret_bool {a b : Bool} (h : a = b) : Ending.returned (.bool a) = .returned (.bool b) := by rw [h]
/-- A loop that counts up from 0. -/
def upto {α : Type} (f : Nat → α → α) : Nat → α → α
  | 0, a => a
  | k + 1, a => f k (upto f k a)
/-- What a loop over the places of a set does. -/
def overSet {α : Type} (s : Nat) (f : Nat → α → α) (n : Nat) (a : α) : α := upto (fun v x => if s.testBit v then f v x else x) n a

theorem below_grown {W w' : World} (h : Below W.heap.size W w') (hf : ∀ a, w'.frozen? a = W.frozen? a) : Grown W w' := ⟨h.frame _, hf, h.size⟩
/-- The place of any number on a ring. -/
def rest (n : Nat) (v : Int) : Nat := (v % (n : Int)).toNat
theorem rest_cast (n : Nat) (v : Int) (h : 1 ≤ n) : ((rest n v : Nat) : Int) = v % (n : Int) := by
  unfold rest
  exact Int.toNat_of_nonneg (Int.emod_nonneg _ (by omega))
theorem rest_lt (n : Nat) (v : Int) (h : 1 ≤ n) : rest n v < n := by
  have := rest_cast n v h
  have h2 := Int.emod_lt_of_pos v (b := (n : Int)) (by omega)
  omega
theorem rest_in (n : Nat) (v : Int) (h1 : 1 ≤ n) (h2 : n ≤ 12) : -12 ≤ v.tmod (n : Int) ∧ v.tmod (n : Int) ≤ 12 := by
  have := Int.tmod_lt_of_pos v (b := (n : Int)) (by omega)
  have := Int.lt_tmod_of_pos v (b := (n : Int)) (by omega)
  omega
theorem rest_eq (n : Nat) (v : Int) (h1 : 1 ≤ n) : (v.tmod (n : Int) + (n : Int)).tmod (n : Int) = ((rest n v : Nat) : Int) := by
  have a := Int.lt_tmod_of_pos v (b := (n : Int)) (by omega)
  rw [rest_cast n v h1, Int.tmod_eq_emod_of_nonneg (by omega), Int.add_emod_right]
  by_cases hv : 0 ≤ v
  · rw [Int.tmod_eq_emod_of_nonneg hv, Int.emod_emod]
  · have e : v.tmod (n : Int) = v - (n : Int) * v.tdiv (n : Int) := by have := Int.tdiv_mul_add_tmod v (n : Int); rw [Int.mul_comm] at this; omega
    rw [e, Int.sub_mul_emod_self_left]
theorem upto_lt (f : Nat → Nat → Nat) (n k a : Nat) (ha : a < 2 ^ n) (hf : ∀ v x, v < k → x < 2 ^ n → f v x < 2 ^ n) : upto f k a < 2 ^ n := by
  induction k with
  | zero => exact ha
  | succ k ih => exact hf k _ (by omega) (ih (fun v x hv hx => hf v x (by omega) hx))
/-- All places of s multiplied by m and moved by k. -/
def mapN (n s : Nat) (m k : Int) : Nat → Nat := fun j => overSet s (fun v x => x ||| 2 ^ rest n (m * (v : Int) + k)) j 0
theorem mapN_succ (n s : Nat) (m k : Int) (j : Nat) : mapN n s m k (j + 1) = if s.testBit j then mapN n s m k j ||| 2 ^ rest n (m * (j : Int) + k) else mapN n s m k j := rfl
theorem mapN_lt (n s : Nat) (m k : Int) (j : Nat) (hn : 1 ≤ n) : mapN n s m k j < 2 ^ n := by
  induction j with
  | zero => exact Nat.two_pow_pos n
  | succ j ih =>
    rw [mapN_succ]
    split
    · exact or_pow_lt _ _ _ ih (rest_lt n _ hn)
    · exact ih
/-- A number that lies on a ring, and a ring. -/
def ringB (n : Int) : Bool := decide (1 ≤ n ∧ n ≤ 12)
def setB (n s : Int) : Bool := decide (0 ≤ s ∧ s < 2 ^ n.toNat)
theorem pow_le (n : Nat) (h : n ≤ 12) : 2 ^ n ≤ 4096 := Nat.pow_le_pow_right (n := 2) (by omega) h
theorem cast_pow (n : Nat) : ((2 ^ n : Nat) : Int) = (2 : Int) ^ n := by simp
end Go.Proofs.Ythccchelemnnfaa
