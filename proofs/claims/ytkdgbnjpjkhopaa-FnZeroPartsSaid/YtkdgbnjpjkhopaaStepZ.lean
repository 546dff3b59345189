/- The size of a set: bits.OnesCount at small numbers. -/
import Derived.Test.YtkdgbnjpjkhopaaGC
namespace Go.Proofs.Ytkdgbnjpjkhopaa
open Go.RowKit
set_option linter.unusedVariables false
theorem ofInt_nat (a : Nat) (ha : a < 2 ^ 64) : (BitVec.ofInt 64 (a : Int)).toNat = a := by
  rw [BitVec.ofInt_natCast, BitVec.toNat_ofNat]; exact Nat.mod_eq_of_lt ha
theorem and_natU (a b : Nat) (ha : a < 2 ^ 40) (hb : b < 2 ^ 64) : bits .and .u64 (a : Int) (b : Int) = ((a &&& b : Nat) : Int) := by
  have hx : a &&& b ≤ a := Nat.and_le_left
  show IntKind.u64.wrap ((BitVec.ofInt 64 (a : Int) &&& BitVec.ofInt 64 (b : Int)).toNat : Int) = _
  rw [BitVec.toNat_and, ofInt_nat a (by omega), ofInt_nat b hb]
  show (((a &&& b : Nat) : Int)) % 18446744073709551616 = _
  omega
theorem wrapU (a : Nat) (ha : a < 2 ^ 40) : IntKind.u64.wrap (a : Int) = (a : Int) := by
  show (a : Int) % 18446744073709551616 = _
  omega
def o1 (x : Nat) : Nat := (x / 2 &&& 6148914691236517205) + (x &&& 6148914691236517205)
def o2 (x : Nat) : Nat := (x / 4 &&& 3689348814741910323) + (x &&& 3689348814741910323)
def o3 (x : Nat) : Nat := (x / 16 + x) &&& 1085102592571150095
def o4 (x : Nat) : Nat := x + x / 256
def o5 (x : Nat) : Nat := x + x / 65536
def o6 (x : Nat) : Nat := x + x / 4294967296
def onesN (x : Nat) : Nat := o6 (o5 (o4 (o3 (o2 (o1 x))))) &&& 127
theorem ones_all : ((List.range 64).all fun i => (List.range 64).all fun j => onesN (i * 64 + j) == sizeN (i * 64 + j)) = true := by decide +kernel
theorem ones_size (x : Nat) (hx : x < 4096) : onesN x = sizeN x := by
  have a := List.all_eq_true.1 ones_all (x / 64) (List.mem_range.2 (by omega))
  have b := List.all_eq_true.1 a (x % 64) (List.mem_range.2 (by omega))
  have e : x / 64 * 64 + x % 64 = x := by omega
  rw [e] at b
  exact eq_of_beq b
theorem o1_lt (x : Nat) (h : x < 2 ^ 12) : o1 x < 2 ^ 13 := by
  have a := Nat.and_le_left (n := x / 2) (m := 6148914691236517205)
  have b := Nat.and_le_left (n := x) (m := 6148914691236517205)
  unfold o1; omega
theorem o2_lt (x : Nat) (h : x < 2 ^ 13) : o2 x < 2 ^ 14 := by
  have a := Nat.and_le_left (n := x / 4) (m := 3689348814741910323)
  have b := Nat.and_le_left (n := x) (m := 3689348814741910323)
  unfold o2; omega
theorem o3_lt (x : Nat) (h : x < 2 ^ 14) : o3 x < 2 ^ 15 := by
  have a := Nat.and_le_left (n := x / 16 + x) (m := 1085102592571150095)
  unfold o3; omega
theorem o1_eq (x : Nat) (h : x < 2 ^ 12) : IntKind.u64.wrap (bits .and .u64 ((x : Int) / 2) 6148914691236517205 + bits .and .u64 (x : Int) 6148914691236517205) = ((o1 x : Nat) : Int) := by
  have hl := o1_lt x h
  have e := and_natU (x / 2) 6148914691236517205 (by omega) (by omega)
  have f := and_natU x 6148914691236517205 (by omega) (by omega)
  rw [show ((x : Int) / 2) = ((x / 2 : Nat) : Int) by omega, show (6148914691236517205 : Int) = ((6148914691236517205 : Nat) : Int) from rfl, e, f, ← Int.natCast_add]
  exact wrapU (o1 x) (by omega)
theorem o2_eq (x : Nat) (h : x < 2 ^ 13) : IntKind.u64.wrap (bits .and .u64 ((x : Int) / 4) 3689348814741910323 + bits .and .u64 (x : Int) 3689348814741910323) = ((o2 x : Nat) : Int) := by
  have hl := o2_lt x h
  have e := and_natU (x / 4) 3689348814741910323 (by omega) (by omega)
  have f := and_natU x 3689348814741910323 (by omega) (by omega)
  rw [show ((x : Int) / 4) = ((x / 4 : Nat) : Int) by omega, show (3689348814741910323 : Int) = ((3689348814741910323 : Nat) : Int) from rfl, e, f, ← Int.natCast_add]
  exact wrapU (o2 x) (by omega)
theorem o3_eq (x : Nat) (h : x < 2 ^ 14) : bits .and .u64 (IntKind.u64.wrap ((x : Int) / 16 + (x : Int))) 1085102592571150095 = ((o3 x : Nat) : Int) := by
  have e := and_natU (x / 16 + x) 1085102592571150095 (by omega) (by omega)
  rw [show ((x : Int) / 16 + (x : Int)) = ((x / 16 + x : Nat) : Int) by omega, wrapU _ (by omega), show (1085102592571150095 : Int) = ((1085102592571150095 : Nat) : Int) from rfl, e]
  rfl
theorem o4_eq (x : Nat) (h : x < 2 ^ 15) : IntKind.u64.wrap ((x : Int) + (x : Int) / 256) = ((o4 x : Nat) : Int) := by
  rw [show ((x : Int) + (x : Int) / 256) = ((o4 x : Nat) : Int) by unfold o4; omega]
  exact wrapU _ (by unfold o4; omega)
theorem o5_eq (x : Nat) (h : x < 2 ^ 16) : IntKind.u64.wrap ((x : Int) + (x : Int) / 65536) = ((o5 x : Nat) : Int) := by
  rw [show ((x : Int) + (x : Int) / 65536) = ((o5 x : Nat) : Int) by unfold o5; omega]
  exact wrapU _ (by unfold o5; omega)
theorem o6_eq (x : Nat) (h : x < 2 ^ 17) : IntKind.u64.wrap ((x : Int) + (x : Int) / 4294967296) = ((o6 x : Nat) : Int) := by
  rw [show ((x : Int) + (x : Int) / 4294967296) = ((o6 x : Nat) : Int) by unfold o6; omega]
  exact wrapU _ (by unfold o6; omega)
theorem o7_eq (x : Nat) (h : x < 2 ^ 20) : bits .and .i64 (wrap64 (x : Int)) 127 = ((x &&& 127 : Nat) : Int) := by
  rw [IntWalk.wrap64_in _ (by omega), show (127 : Int) = ((127 : Nat) : Int) from rfl]
  exact and_nat x 127 (by omega) (by omega)
end Go.Proofs.Ytkdgbnjpjkhopaa
