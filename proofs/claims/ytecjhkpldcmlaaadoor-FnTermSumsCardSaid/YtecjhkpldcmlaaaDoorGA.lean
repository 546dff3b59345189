/- Texts of mine, laid together: Pure Leaf RingA RingB RingC Iter Fold Held. -/
import Derived.IntWalk
import Derived.Laws.Bits64b
import Derived.RowKit3
import Derived.Below
import Derived.Test.YtecjhkpldcmlaaaDoorRows
import Derived.WalkKit
import Derived.ProofKit
import Derived.OpenShut
import Derived.Outline
import Derived.RegionTactic
import Derived.ChangeAlike
import Derived.Deep.QuietTactic
import Derived.BigQuiet
import Derived.Lib.Hide
import Derived.WalkSmall
import Derived.Deep.RegionHeld3
import Derived.StillTailTactics
import Derived.RangeFuncNested
import Derived.RangeFuncBound
import Derived.RangeFuncCalls
import Derived.RangeFuncLeaves
import Derived.Shelf.Abstract
import Derived.Shelf.RegionOpen
import Derived.OwnWalkIn
import Derived.TacticsInMore
import Derived.LoopNIn
import Derived.LoopIn
/- Plain lemmas on numbers, bits of small numbers and loops that count up: nothing here speaks of a program. -/
namespace Go.Proofs.YtecjhkpldcmlaaaDoor
open Go.RowKit

theorem ofInt_small (a : Nat) (ha : a < 2 ^ 62) : (BitVec.ofInt 64 (a : Int)).toNat = a := by
  rw [BitVec.ofInt_natCast, BitVec.toNat_ofNat]; exact Nat.mod_eq_of_lt (by omega)
theorem and_nat (a b : Nat) (ha : a < 2 ^ 62) (hb : b < 2 ^ 62) : bits .and .i64 (a : Int) (b : Int) = ((a &&& b : Nat) : Int) := by
  have hx : a &&& b < 2 ^ 62 := Nat.and_lt_two_pow _ hb
  show IntKind.i64.wrap ((BitVec.ofInt 64 (a : Int) &&& BitVec.ofInt 64 (b : Int)).toNat : Int) = _
  rw [BitVec.toNat_and, ofInt_small a ha, ofInt_small b hb]
  exact IntWalk.i64_in _ (by omega)
theorem or_nat (a b : Nat) (ha : a < 2 ^ 62) (hb : b < 2 ^ 62) : bits .or .i64 (a : Int) (b : Int) = ((a ||| b : Nat) : Int) := by
  have hx : a ||| b < 2 ^ 62 := Nat.or_lt_two_pow ha hb
  show IntKind.i64.wrap ((BitVec.ofInt 64 (a : Int) ||| BitVec.ofInt 64 (b : Int)).toNat : Int) = _
  rw [BitVec.toNat_or, ofInt_small a ha, ofInt_small b hb]
  exact IntWalk.i64_in _ (by omega)
theorem two_pow_lt (v : Nat) (hv : v < 40) : 2 ^ v < 2 ^ 40 := Nat.pow_lt_pow_right (by omega) hv
theorem wrap_pow (v : Nat) (hv : v < 40) : wrap64 (2 ^ v) = ((2 ^ v : Nat) : Int) := by
  have h := two_pow_lt v hv
  have e : ((2 : Int) ^ v) = ((2 ^ v : Nat) : Int) := by simp
  rw [e]
  generalize 2 ^ v = m at h
  exact IntWalk.wrap64_in _ (by omega)
theorem shr_cast (s v : Nat) : ((s : Int) / 2 ^ v) = ((s / 2 ^ v : Nat) : Int) := by simp
theorem has_nat (s v : Nat) (hs : s < 2 ^ 40) : (bits .and .i64 ((s : Int) / 2 ^ v) 1 == 1) = s.testBit v := by
  have hd : s / 2 ^ v ≤ s := Nat.div_le_self _ _
  rw [shr_cast, show (1 : Int) = ((1 : Nat) : Int) from rfl, and_nat _ _ (by omega) (by omega)]
  rw [Nat.and_one_is_mod, Nat.testBit, Nat.shiftRight_eq_div_pow, Nat.and_comm, Nat.and_one_is_mod]
  rcases Nat.mod_two_eq_zero_or_one (s / 2 ^ v) with h | h <;> simp [h]
theorem has_nat0 (s v : Nat) (hs : s < 2 ^ 40) : (bits .and .i64 ((s : Int) / 2 ^ v) 1 == 0) = !s.testBit v := by
  have hd : s / 2 ^ v ≤ s := Nat.div_le_self _ _
  rw [shr_cast, show (1 : Int) = ((1 : Nat) : Int) from rfl, and_nat _ _ (by omega) (by omega)]
  rw [Nat.and_one_is_mod, Nat.testBit, Nat.shiftRight_eq_div_pow, Nat.and_comm, Nat.and_one_is_mod]
  rcases Nat.mod_two_eq_zero_or_one (s / 2 ^ v) with h | h <;> simp [h]
theorem with_nat (s v : Nat) (hs : s < 2 ^ 40) (hv : v < 40) : bits .or .i64 (s : Int) (wrap64 (2 ^ v)) = ((s ||| 2 ^ v : Nat) : Int) := by
  have := two_pow_lt v hv
  rw [wrap_pow v hv, or_nat _ _ (by omega) (by omega)]
theorem or_pow_lt (n s v : Nat) (hs : s < 2 ^ n) (hv : v < n) : s ||| 2 ^ v < 2 ^ n := Nat.or_lt_two_pow hs (Nat.pow_lt_pow_right (by omega) hv)

theorem ret_int {k : IntKind} {a b : Int} (h : a = b) : Ending.returned (.int k a) = .returned (.int k b) := by rw [h]
theorem ret_bool {a b : Bool} (h : a = b) : Ending.returned (.bool a) = .returned (.bool b) := by rw [h]
/-- A loop that counts up from 0. -/
def upto {α : Type} (f : Nat → α → α) : Nat → α → α
  | 0, a => a
  | k + 1, a => f k (upto f k a)
/-- What a loop over the places of a set does. -/
def overSet {α : Type} (s : Nat) (f : Nat → α → α) (n : Nat) (a : α) : α := upto (fun v x => if s.testBit v then f v x else x) n a

theorem below_grown {W w' : World} (h : Below W.heap.size W w') (hf : ∀ a, w'.frozen? a = W.frozen? a) : Grown W w' := ⟨h.frame _, hf, h.size⟩
/-- The place of any number on a ring. -/
def rest (n : Nat) (v : Int) : Nat := (v % (n : Int)).toNat
theorem rest_cast (n : Nat) (v : Int) (h : 1 ≤ n) : ((rest n v : Nat) : Int) = v % (n : Int) := by
  unfold rest
  exact Int.toNat_of_nonneg (Int.emod_nonneg _ (by omega))
theorem rest_lt (n : Nat) (v : Int) (h : 1 ≤ n) : rest n v < n := by
  have := rest_cast n v h
  have h2 := Int.emod_lt_of_pos v (b := (n : Int)) (by omega)
  omega
theorem rest_in (n : Nat) (v : Int) (h1 : 1 ≤ n) (h2 : n ≤ 12) : -12 ≤ v.tmod (n : Int) ∧ v.tmod (n : Int) ≤ 12 := by
  have := Int.tmod_lt_of_pos v (b := (n : Int)) (by omega)
  have := Int.lt_tmod_of_pos v (b := (n : Int)) (by omega)
  omega
theorem rest_eq (n : Nat) (v : Int) (h1 : 1 ≤ n) : (v.tmod (n : Int) + (n : Int)).tmod (n : Int) = ((rest n v : Nat) : Int) := by
  have a := Int.lt_tmod_of_pos v (b := (n : Int)) (by omega)
  rw [rest_cast n v h1, Int.tmod_eq_emod_of_nonneg (by omega), Int.add_emod_right]
  by_cases hv : 0 ≤ v
  · rw [Int.tmod_eq_emod_of_nonneg hv, Int.emod_emod]
  · have e : v.tmod (n : Int) = v - (n : Int) * v.tdiv (n : Int) := by have := Int.tdiv_mul_add_tmod v (n : Int); rw [Int.mul_comm] at this; omega
    rw [e, Int.sub_mul_emod_self_left]
theorem upto_lt (f : Nat → Nat → Nat) (n k a : Nat) (ha : a < 2 ^ n) (hf : ∀ v x, v < k → x < 2 ^ n → f v x < 2 ^ n) : upto f k a < 2 ^ n := by
  induction k with
  | zero => exact ha
  | succ k ih => exact hf k _ (by omega) (ih (fun v x hv hx => hf v x (by omega) hx))
/-- All places of s multiplied by m and moved by k. -/
def mapN (n s : Nat) (m k : Int) : Nat → Nat := fun j => overSet s (fun v x => x ||| 2 ^ rest n (m * (v : Int) + k)) j 0
theorem mapN_succ (n s : Nat) (m k : Int) (j : Nat) : mapN n s m k (j + 1) = if s.testBit j then mapN n s m k j ||| 2 ^ rest n (m * (j : Int) + k) else mapN n s m k j := rfl
theorem mapN_lt (n s : Nat) (m k : Int) (j : Nat) (hn : 1 ≤ n) : mapN n s m k j < 2 ^ n := by
  induction j with
  | zero => exact Nat.two_pow_pos n
  | succ j ih =>
    rw [mapN_succ]
    split
    · exact or_pow_lt _ _ _ ih (rest_lt n _ hn)
    · exact ih
/-- A number that lies on a ring, and a ring. -/
def ringB (n : Int) : Bool := decide (1 ≤ n ∧ n ≤ 12)
def setB (n s : Int) : Bool := decide (0 ≤ s ∧ s < 2 ^ n.toNat)
theorem pow_le (n : Nat) (h : n ≤ 12) : 2 ^ n ≤ 4096 := Nat.pow_le_pow_right (n := 2) (by omega) h
theorem cast_pow (n : Nat) : ((2 ^ n : Nat) : Int) = (2 : Int) ^ n := by simp
end Go.Proofs.YtecjhkpldcmlaaaDoor

/- The small functions of chapter 1, called at numbers that are in range. -/
namespace Go.Proofs.YtecjhkpldcmlaaaDoor
open Go.RowKit
set_option linter.unusedVariables false

theorem has_any (s v : Nat) (w : World) (hs : s < 2 ^ 40) (hv : v < 40) :
    Calls Tryd.prog 87 #[.int .i64 (s:Int), .int .i64 (v:Int)] w fun e w' => e = .returned (.bool (s.testBit v)) ∧ w = w' := by
  have h := has_nat s v hs
  go_enter Tryd.func87, Tryd.ntmps87
  go_wp2
  go_ret
  exact ⟨rfl, rfl⟩
theorem with_any (s v : Nat) (w : World) (hs : s < 2 ^ 40) (hv : v < 40) :
    Calls Tryd.prog 71 #[.int .i64 (s:Int), .int .i64 (v:Int)] w fun e w' => e = .returned (.int .i64 ((s ||| 2 ^ v : Nat) : Int)) ∧ w = w' := by
  have h := with_nat s v hs hv
  go_enter Tryd.func71, Tryd.ntmps71
  go_wp2
  go_ret
  exact ⟨rfl, rfl⟩
theorem all_nat (n : Nat) (hn : n ≤ 12) : wrap64 (wrap64 (2 ^ n) - 1) = ((2 ^ n - 1 : Nat) : Int) := by
  rw [wrap_pow n (by omega)]
  have h := Nat.one_le_two_pow (n := n)
  have := two_pow_lt n (by omega)
  rw [show (((2 ^ n - 1 : Nat) : Int)) = ((2 ^ n : Nat) : Int) - 1 from by omega]
  generalize 2 ^ n = m at *
  exact IntWalk.wrap64_in _ (by omega)
theorem all_any (n : Nat) (w : World) (hn : n ≤ 12) :
    Calls Tryd.prog 69 #[.agg #[.int .i64 (n:Int)]] w fun e w' => e = .returned (.int .i64 ((2 ^ n - 1 : Nat) : Int)) ∧ Below w.heap.size w w' := by
  have H := Lib.hid (all_nat n hn)
  go_enter Tryd.func69, Tryd.ntmps69
  go_wp2
  go_ret
  exact ⟨ret_int H.out, (Below.refl _ _).alloc (Nat.le_refl _) _⟩
theorem rest_any (n : Nat) (v : Int) (w : World) (h1 : 1 ≤ n) (h2 : n ≤ 12) (hv : -1000000 ≤ v ∧ v ≤ 1000000) :
    Calls Tryd.prog 59 #[.agg #[.int .i64 (n:Int)], .int .i64 v] w fun e w' => e = .returned (.int .i64 ((rest n v : Nat) : Int)) ∧ Below w.heap.size w w' := by
  have hr := rest_eq n v h1
  have hb := rest_in n v h1 h2
  have H := Lib.hid hr
  clear hr
  obtain ⟨hb1, hb2⟩ := hb
  obtain ⟨hv1, hv2⟩ := hv
  go_enter Tryd.func59, Tryd.ntmps59
  go_wp2
  go_quiet (fail)
  go_wp2
  go_ret
  exact ⟨ret_int H.out, below_drewN ((Below.refl _ _).alloc (Nat.le_refl _) _) _⟩
theorem moveIn_any (k : Int) (w : World) :
    Calls Tryd.prog 41 #[.int .i64 k] w fun e w' => e = .returned (.bool (decide (-100 ≤ k ∧ k ≤ 100))) ∧ w = w' := by
  by_cases h1 : -100 ≤ k <;> by_cases h2 : k ≤ 100 <;>
  · go_enter Tryd.func41, Tryd.ntmps41
    go_wp2
    go_ret
    exact ⟨ret_bool (by simp [h1, h2]), rfl⟩
theorem l6In_any (n a b : Int) (w : World) :
    Calls Tryd.prog 51 #[.int .i64 n, .int .i64 a, .int .i64 b] w fun e w' => e = .returned (.bool (decide (a ≤ n ∧ n ≤ b))) ∧ w = w' := by
  by_cases h1 : a ≤ n <;> by_cases h2 : n ≤ b <;>
  · go_enter Tryd.func51, Tryd.ntmps51
    go_wp2
    go_ret
    exact ⟨ret_bool (by simp [h1, h2]), rfl⟩
theorem l1Rest_any (n : Nat) (v : Int) (w : World) (h1 : 1 ≤ n) (h2 : n ≤ 12) (hv : -1000000 ≤ v ∧ v ≤ 1000000) :
    Calls Tryd.prog 62 #[.int .i64 v, .int .i64 (n:Int)] w fun e w' => e = .returned (.int .i64 ((rest n v : Nat) : Int)) ∧ w = w' := by
  have hr := rest_eq n v h1
  have hb := rest_in n v h1 h2
  have H := Lib.hid hr
  clear hr
  obtain ⟨hb1, hb2⟩ := hb
  obtain ⟨hv1, hv2⟩ := hv
  go_enter Tryd.func62, Tryd.ntmps62
  go_wp2
  go_ret
  exact ⟨ret_int H.out, rfl⟩
theorem gcd_step (x y : Nat) (h : y ≠ 0) : Nat.gcd y (x % y) = Nat.gcd x y := by
  rw [Nat.gcd_comm x y, Nat.gcd_rec y x, Nat.gcd_comm]
end Go.Proofs.YtecjhkpldcmlaaaDoor

namespace Go.Proofs.YtecjhkpldcmlaaaDoor
open Go.RowKit
set_option linter.unusedVariables false
theorem l1Map_any (n s : Nat) (m k : Int) (w : World) (h1 : 1 ≤ n) (h2 : n ≤ 12) (hs : s < 2 ^ 12) (hm1 : -1000 ≤ m) (hm2 : m ≤ 1000) (hk1 : -1000 ≤ k) (hk2 : k ≤ 1000) :
    Calls Tryd.prog 67 #[.int .i64 (n:Int), .int .i64 (s:Int), .int .i64 m, .int .i64 k] w fun e w' => e = .returned (.int .i64 ((mapN n s m k n : Nat) : Int)) ∧ w = w' := by
  go_enter Tryd.func67, Tryd.ntmps67
  go_wp2
  go_loop [9, 10] (fun u v => ∃ j : Nat, j ≤ n ∧ u = .int .i64 ((mapN n s m k j : Nat) : Int) ∧ v = .int .i64 (j : Int)) (fun _ v => n - (intOf v).toNat)
  case atStart => exact ⟨0, Nat.zero_le _, rfl, rfl⟩
  case round =>
    obtain ⟨j, hj, rfl, rfl⟩ := hrel
    by_cases hlt : j < n
    · have hb := has_nat s j (by omega)
      have hmj : -12000 ≤ m * (j : Int) ∧ m * (j : Int) ≤ 12000 := by
        have h0 : (j : Int) ≤ 12 := by omega
        have h3 : (0 : Int) ≤ (j : Int) := by omega
        constructor
        · have := Int.mul_le_mul_of_nonneg_right hm1 h3; omega
        · have := Int.mul_le_mul_of_nonneg_right hm2 h3; omega
      obtain ⟨ha, hc⟩ := hmj
      have hml := mapN_lt n s m k j h1
      have hp := pow_le n h2
      have hr := rest_lt n (m * (j : Int) + k) h1
      have hw := with_nat (mapN n s m k j) (rest n (m * (j : Int) + k)) (by omega) (by omega)
      have HS := Lib.hid (mapN_succ n s m k j)
      by_cases hbit : s.testBit j = true
      · go_wp2_with (go_at_call 62; refine (l1Rest_any n _ _ h1 h2 ⟨by omega, by omega⟩).mono ?_; rintro e w' ⟨rfl, rfl⟩)
        go_round
        case rel => exact ⟨j + 1, by omega, by rw [HS.out, if_pos hbit], by go_num⟩
        case measure => simp [intOf]; omega
      · have hbit' : s.testBit j = false := by simpa using hbit
        go_wp2
        go_round
        case rel => exact ⟨j + 1, by omega, by rw [HS.out, if_neg hbit], by go_num⟩
        case measure => simp [intOf]; omega
    · have e : j = n := by omega
      subst e
      go_wp2
      go_ret
      exact ⟨rfl, rfl⟩
theorem specIn_yes (n s : Nat) (w : World) (h1 : 1 ≤ n) (h2 : n ≤ 12) (hs : s < 2 ^ n) :
    Calls Tryd.prog 57 #[.int .i64 (n:Int), .int .i64 (s:Int)] w fun e w' => e = .returned (.bool true) ∧ w = w' := by
  have ha := all_nat n h2
  have hp := pow_le n h2
  have d1 : decide (1 ≤ (n : Int) ∧ (n : Int) ≤ 12) = true := by simp; omega
  have d2 : decide (0 ≤ (s : Int) ∧ (s : Int) ≤ ((2 ^ n - 1 : Nat) : Int)) = true := by
    rw [decide_eq_true_eq]; omega
  have D1 := Lib.hid d1
  have D2 := Lib.hid d2
  clear d1 d2
  go_enter Tryd.func57, Tryd.ntmps57
  go_wp2_with fail
  refine (l6In_any _ _ _ _).mono ?_
  rintro e w' ⟨rfl, rfl⟩
  rw [D1.out]
  go_wp2_with fail
  refine (l6In_any _ _ _ _).mono ?_
  rintro e w' ⟨rfl, rfl⟩
  rw [D2.out]
  go_wp2
  go_ret
  exact ⟨rfl, rfl⟩
/-- Not a ring and a set of it. -/
def NotIn (n s : Int) : Prop := ¬ (1 ≤ n ∧ n ≤ 12 ∧ 0 ≤ s ∧ s < 2 ^ n.toNat)
theorem specIn_no (n s : Int) (w : World) (h : NotIn n s) :
    Calls Tryd.prog 57 #[.int .i64 n, .int .i64 s] w fun e w' => e = .returned (.bool false) ∧ w = w' := by
  by_cases hn : 1 ≤ n ∧ n ≤ 12
  · obtain ⟨m, rfl⟩ : ∃ m : Nat, n = (m : Int) := ⟨n.toNat, by omega⟩
    have h2 : m ≤ 12 := by omega
    have hm : 1 ≤ m := by omega
    have ha := all_nat m h2
    have hp := pow_le m h2
    have d1 : decide (1 ≤ (m : Int) ∧ (m : Int) ≤ 12) = true := by simp; omega
    have d2 : decide (0 ≤ s ∧ s ≤ ((2 ^ m - 1 : Nat) : Int)) = false := by
      rw [decide_eq_false_iff_not]
      unfold NotIn at h
      have e : (2 : Int) ^ (m : Int).toNat = ((2 ^ m : Nat) : Int) := by simp
      rw [e] at h
      have := Nat.two_pow_pos m
      omega
    have D1 := Lib.hid d1
    have D2 := Lib.hid d2
    clear d1 d2 h hn
    go_enter Tryd.func57, Tryd.ntmps57
    go_wp2_with fail
    refine (l6In_any _ _ _ _).mono ?_
    rintro e w' ⟨rfl, rfl⟩
    rw [D1.out]
    go_wp2_with fail
    refine (l6In_any _ _ _ _).mono ?_
    rintro e w' ⟨rfl, rfl⟩
    rw [D2.out]
    go_wp2
    go_ret
    exact ⟨rfl, rfl⟩
  · have D1 := Lib.hid (show decide (1 ≤ n ∧ n ≤ 12) = false from by simpa using hn)
    clear hn h
    go_enter Tryd.func57, Tryd.ntmps57
    go_wp2_with fail
    refine (l6In_any _ _ _ _).mono ?_
    rintro e w' ⟨rfl, rfl⟩
    rw [D1.out]
    go_wp2
    go_ret
    exact ⟨rfl, rfl⟩
def shl (s r : Nat) : Nat := s <<< r
theorem shl_lt (s r : Nat) (hs : s < 2 ^ 12) (hr : r < 12) : shl s r < 2 ^ 24 := by
  unfold shl
  rw [Nat.shiftLeft_eq]
  have h : 2 ^ r ≤ 2 ^ 12 := Nat.pow_le_pow_right (by omega) (by omega)
  calc s * 2 ^ r ≤ s * 2 ^ 12 := Nat.mul_le_mul_left _ h
    _ < 2 ^ 24 := by omega
theorem shl_nat (s r : Nat) (hs : s < 2 ^ 12) (hr : r < 12) : IntKind.i64.wrap ((s : Int) * 2 ^ r) = ((shl s r : Nat) : Int) := by
  have h := shl_lt s r hs hr
  have e : ((s : Int) * 2 ^ r) = ((shl s r : Nat) : Int) := by unfold shl; rw [Nat.shiftLeft_eq]; simp
  rw [e]
  generalize shl s r = m at h
  exact IntWalk.i64_in _ (by omega)
/-- A set of a ring moved by k. -/
def shiftN (n s : Nat) (k : Int) : Nat := (shl s (rest n k) ||| s >>> (n - rest n k)) &&& (2 ^ n - 1)
theorem shift_nat (n s : Nat) (k : Int) (h2 : n ≤ 12) (hs : s < 2 ^ 12) (hr : rest n k < n) :
    bits .and .i64 (bits .or .i64 ((shl s (rest n k) : Nat) : Int) ((s : Int) / 2 ^ (n - rest n k))) ((2 ^ n - 1 : Nat) : Int) = ((shiftN n s k : Nat) : Int) := by
  have h := shl_lt s (rest n k) hs (by omega)
  have hd : s / 2 ^ (n - rest n k) ≤ s := Nat.div_le_self _ _
  have hp := pow_le n h2
  rw [shr_cast, or_nat _ _ (by omega) (by omega)]
  have ho : shl s (rest n k) ||| s / 2 ^ (n - rest n k) < 2 ^ 24 := Nat.or_lt_two_pow h (by omega)
  rw [and_nat _ _ (by omega) (by omega), shiftN, Nat.shiftRight_eq_div_pow]
theorem shift_any (n s : Nat) (k : Int) (w : World) (h1 : 1 ≤ n) (h2 : n ≤ 12) (hs : s < 2 ^ 12) (hk1 : -1000 ≤ k) (hk2 : k ≤ 1000) :
    Calls Tryd.prog 73 #[.agg #[.int .i64 (n:Int)], .int .i64 (s:Int), .int .i64 k] w fun e w' => e = .returned (.int .i64 ((shiftN n s k : Nat) : Int)) ∧ Below w.heap.size w w' := by
  have hr := rest_lt n k h1
  go_enter Tryd.func73, Tryd.ntmps73
  go_wp2_with fail
  refine (rest_any n k _ h1 h2 ⟨by omega, by omega⟩).mono ?_
  rintro e w1 ⟨rfl, hb⟩
  have hc1 : w1.cell? ⟨w.heap.size, 0, none⟩ = some (.int .i64 (n:Int)) := (hb.cell (p := ⟨w.heap.size, 0, none⟩) (by simp)).trans (by simp)
  have hB1 : Below w.heap.size w w1 := ((Below.refl _ _).alloc (Nat.le_refl _) _).trans (hb.mono (by simp))
  have hz : w.heap.size + 1 ≤ w1.heap.size := by have := hb.size; simpa using this
  clear hb
  go_wp2_with fail
  have T2 : Below w.heap.size w w1.drew := hB1.drew
  have E1 : IntKind.i64.wrap ((n : Int) - (rest n k : Int)) = ((n - rest n k : Nat) : Int) := by rw [IntWalk.i64_in _ (by omega)]; omega
  have E2 : IntKind.i64.wrap ((s : Int) * 2 ^ rest n k) = ((shl s (rest n k) : Nat) : Int) := shl_nat s _ hs (by omega)
  have HF := Lib.hid (shift_nat n s k h2 hs hr)
  have T4 : (fun W : World => W.cell? ⟨w.heap.size, 0, none⟩ = some (.int .i64 (n:Int)) ∧ Below w.heap.size w W ∧ w.heap.size + 1 ≤ W.heap.size) w1.drew := ⟨hc1, T2, hz⟩
  go_region_held3 (fun W => W.cell? ⟨w.heap.size, 0, none⟩ = some (.int .i64 (n:Int)) ∧ Below w.heap.size w W ∧ w.heap.size + 1 ≤ W.heap.size)
    (first | exact T4 | ((try dsimp only); (try go_split_ands); refine ⟨?_, ?_, ?_⟩ <;> first | assumption | (exact (hb2.cell (by simp; omega)).trans (by assumption)) | (exact Below.trans (by assumption) (hb2.mono (by omega))) | (have := hb2.size; omega)))
    (first | (go_at_call 69; refine (all_any n _ h2).mono ?_; rintro e w2 ⟨rfl, hb2⟩))
  go_split_ands
  go_wp2
  go_ret
  exact ⟨ret_int HF.out, by assumption⟩
end Go.Proofs.YtecjhkpldcmlaaaDoor

namespace Go.Proofs.YtecjhkpldcmlaaaDoor
open Go.RowKit
set_option linter.unusedVariables false
theorem ringOf_out (n : Int) (sv : Value) (w : World) (h : ¬ (1 ≤ n ∧ n ≤ 12)) :
    Calls Tryd.prog 40 #[.int .i64 n, sv] w fun e w' => e = .returned (.tuple #[.agg #[.int .i64 0], .bool false]) ∧ Below w.heap.size w w' := by
  by_cases h1 : 1 ≤ n
  · have h2 : ¬ n ≤ 12 := fun hh => h ⟨h1, hh⟩
    clear h
    go_enter Tryd.func40, Tryd.ntmps40
    go_wp2
    exact bodyPost_ret (v := .tuple #[.agg #[.int .i64 0], .bool false]) (by simp [results, Tryd.results40, go_sem]) rfl ⟨rfl, (Below.refl _ _).alloc (Nat.le_refl _) _⟩
  · clear h
    go_enter Tryd.func40, Tryd.ntmps40
    go_wp2
    exact bodyPost_ret (v := .tuple #[.agg #[.int .i64 0], .bool false]) (by simp [results, Tryd.results40, go_sem]) rfl ⟨rfl, (Below.refl _ _).alloc (Nat.le_refl _) _⟩
theorem ringOf_nil (n : Nat) (w : World) (h1 : 1 ≤ n) (h2 : n ≤ 12) :
    Calls Tryd.prog 40 #[.int .i64 (n:Int), .slice none 0 0] w fun e w' => e = .returned (.tuple #[.agg #[.int .i64 (n:Int)], .bool true]) ∧ Below w.heap.size w w' := by
  go_enter Tryd.func40, Tryd.ntmps40
  go_wp2
  go_loopw [20] (fun v wr => v = .int .i64 0 ∧ wr = ((w.alloc (.cells #[.int .i64 0] 43)).alloc (.cells #[.int .i64 (n:Int)] 43))) (fun _ _ => 0)
  case atStart => exact ⟨rfl, rfl⟩
  case round =>
    obtain ⟨rfl, rfl⟩ := hrel
    go_wp2
    exact bodyPost_ret (v := .tuple #[.agg #[.int .i64 (n:Int)], .bool true]) (by simp [results, Tryd.results40, go_sem]) rfl ⟨rfl, ((Below.refl _ _).alloc (Nat.le_refl _) _).alloc (by simp) _⟩
theorem ringOf_in (n : Nat) (f : Nat → Int) (len b : Nat) (w : World) (h1 : 1 ≤ n) (h2 : n ≤ 12) (hb : b < w.heap.size) (hl : len ≤ 10)
    (hc : ∀ i : Nat, i < len → w.cell? ⟨b, i, none⟩ = some (.int .i64 (f i))) (hz : ∀ i : Nat, i < len → 0 ≤ f i ∧ f i < ((2 ^ n : Nat) : Int)) :
    Calls Tryd.prog 40 #[.int .i64 (n:Int), .slice (some ⟨b, 0, none⟩) len len] w fun e w' => e = .returned (.tuple #[.agg #[.int .i64 (n:Int)], .bool true]) ∧ Below w.heap.size w w' := by
  have HC := Lib.hid hc
  have HZ := Lib.hid hz
  clear hc hz
  go_enter Tryd.func40, Tryd.ntmps40
  go_wp2
  go_loopw [20] (fun v wr => ∃ k : Nat, k ≤ len ∧ v = .int .i64 (k:Int) ∧ Below (w.heap.size + 2) ((w.alloc (.cells #[.int .i64 0] 43)).alloc (.cells #[.int .i64 (n:Int)] 43)) wr ∧ Hid True) (fun v _ => len - (intOf v).toNat)
  case atStart => exact ⟨0, Nat.zero_le _, rfl, Below.refl _ _, Lib.hid trivial⟩
  case round =>
    obtain ⟨k, hk, rfl, hB, _⟩ := hrel
    have hc4 : wr.cell? ⟨w.heap.size, 0, none⟩ = some (.int .i64 0) := (hB.cell (p := ⟨w.heap.size, 0, none⟩) (by simp)).trans (by simp)
    have hc6 : wr.cell? ⟨w.heap.size + 1, 0, none⟩ = some (.int .i64 (n:Int)) := (hB.cell (p := ⟨w.heap.size + 1, 0, none⟩) (by simp)).trans (by simp)
    have hf4 : wr.frozen? ⟨w.heap.size, 0, none⟩ = false := (hB.frozen (p := ⟨w.heap.size, 0, none⟩) (by simp)).trans (by simp)
    have hz : w.heap.size + 2 ≤ wr.heap.size := by have := hB.size; simpa using this
    by_cases hlt : k < len
    · have hck : wr.cell? ⟨b, k, none⟩ = some (.int .i64 (f k)) := (hB.cell (p := ⟨b, k, none⟩) (by simp; omega)).trans (by
        have h := HC.out k hlt
        rw [World.cell?_alloc_old _ _ _ (by simp; omega), World.cell?_alloc_old _ _ _ (by simp; omega)]
        exact h)
      have hr := HZ.out k hlt
      obtain ⟨hr1, hr2⟩ := hr
      generalize hfk : f k = z at hck hr1 hr2
      clear hfk
      have ha : ¬ ((2 ^ n - 1 : Nat) : Int) < z := by have := Nat.two_pow_pos n; omega
      go_wp2_with (go_at_call 69; refine (all_any n _ h2).mono ?_; rintro e w2 ⟨rfl, hb2⟩)
      go_roundw
      case rel => exact ⟨k + 1, by omega, by go_num, hB.trans (hb2.mono (by omega)), Lib.hid trivial⟩
      case measure => simp [intOf]; omega
    · have e : k = len := by omega
      subst e
      go_wp2
      refine bodyPost_ret (v := .tuple #[.agg #[.int .i64 (n:Int)], .bool true]) ?_ rfl ⟨rfl, ?_⟩
      · simp [results, Tryd.results40, go_sem, hc4]
      · exact ((((Below.refl w.heap.size w).alloc (Nat.le_refl _) _).alloc (by simp) _).trans (hB.mono (by omega))).setCell (by simp) _
theorem ringOf_bad (n : Nat) (f : Nat → Int) (len b : Nat) (w : World) (h1 : 1 ≤ n) (h2 : n ≤ 12) (hb : b < w.heap.size) (hl : len ≤ 10)
    (hc : ∀ i : Nat, i < len → w.cell? ⟨b, i, none⟩ = some (.int .i64 (f i))) (hz : ∃ i : Nat, i < len ∧ ¬ (0 ≤ f i ∧ f i < ((2 ^ n : Nat) : Int))) :
    Calls Tryd.prog 40 #[.int .i64 (n:Int), .slice (some ⟨b, 0, none⟩) len len] w fun e w' => e = .returned (.tuple #[.agg #[.int .i64 0], .bool false]) ∧ Below w.heap.size w w' := by
  have HC := Lib.hid hc
  have HZ := Lib.hid hz
  clear hc hz
  go_enter Tryd.func40, Tryd.ntmps40
  go_wp2
  go_loopw [20] (fun v wr => ∃ k : Nat, k ≤ len ∧ v = .int .i64 (k:Int) ∧ Below (w.heap.size + 2) ((w.alloc (.cells #[.int .i64 0] 43)).alloc (.cells #[.int .i64 (n:Int)] 43)) wr ∧ Hid (∀ i : Nat, i < k → 0 ≤ f i ∧ f i < ((2 ^ n : Nat) : Int))) (fun v _ => len - (intOf v).toNat)
  case atStart => exact ⟨0, Nat.zero_le _, rfl, Below.refl _ _, Lib.hid (fun i hi => by omega)⟩
  case round =>
    obtain ⟨k, hk, rfl, hB, hok⟩ := hrel
    have hc4 : wr.cell? ⟨w.heap.size, 0, none⟩ = some (.int .i64 0) := (hB.cell (p := ⟨w.heap.size, 0, none⟩) (by simp)).trans (by simp)
    have hc6 : wr.cell? ⟨w.heap.size + 1, 0, none⟩ = some (.int .i64 (n:Int)) := (hB.cell (p := ⟨w.heap.size + 1, 0, none⟩) (by simp)).trans (by simp)
    have hf4 : wr.frozen? ⟨w.heap.size, 0, none⟩ = false := (hB.frozen (p := ⟨w.heap.size, 0, none⟩) (by simp)).trans (by simp)
    have hz : w.heap.size + 2 ≤ wr.heap.size := by have := hB.size; simpa using this
    by_cases hlt : k < len
    · have hck : wr.cell? ⟨b, k, none⟩ = some (.int .i64 (f k)) := (hB.cell (p := ⟨b, k, none⟩) (by simp; omega)).trans (by
        have h := HC.out k hlt
        rw [World.cell?_alloc_old _ _ _ (by simp; omega), World.cell?_alloc_old _ _ _ (by simp; omega)]
        exact h)
      by_cases hr : 0 ≤ f k ∧ f k < ((2 ^ n : Nat) : Int)
      rotate_left
      · clear hok HZ HC hc6
        obtain ⟨z, hfk⟩ : ∃ z, f k = z := ⟨_, rfl⟩
        rw [hfk] at hck hr
        clear hfk
        have hc6 : wr.cell? ⟨w.heap.size + 1, 0, none⟩ = some (.int .i64 (n:Int)) := (hB.cell (p := ⟨w.heap.size + 1, 0, none⟩) (by simp)).trans (by simp)
        by_cases hneg : z < 0
        · clear hr
          go_wp2
          exact bodyPost_ret (v := .tuple #[.agg #[.int .i64 0], .bool false]) (by simp [results, Tryd.results40, go_sem, hc4]) rfl ⟨rfl, ((((Below.refl w.heap.size w).alloc (Nat.le_refl _) _).alloc (by simp) _).trans (hB.mono (by omega))).setCell (by simp) _⟩
        · have ha : ((2 ^ n - 1 : Nat) : Int) < z := by have := Nat.two_pow_pos n; omega
          clear hr
          go_wp2_with (go_at_call 69; refine (all_any n _ h2).mono ?_; rintro e w2 ⟨rfl, hb2⟩; have hc42 := (hb2.cell (p := ⟨w.heap.size, 0, none⟩) (by simp; omega)).trans hc4; have hf42 := (hb2.frozen (p := ⟨w.heap.size, 0, none⟩) (by simp; omega)).trans hf4)
          refine bodyPost_ret (v := .tuple #[.agg #[.int .i64 0], .bool false]) ?_ rfl ⟨rfl, ?_⟩
          · simp [results, Tryd.results40, go_sem, hc42]
          · exact ((((Below.refl w.heap.size w).alloc (Nat.le_refl _) _).alloc (by simp) _).trans ((hB.trans (hb2.mono (by omega))).mono (by omega))).setCell (by simp) _
      obtain ⟨hr1, hr2⟩ := hr
      have hokk : Hid (∀ i : Nat, i < k + 1 → 0 ≤ f i ∧ f i < ((2 ^ n : Nat) : Int)) := Lib.hid (fun i hi => by
        by_cases e : i = k
        · subst e; exact ⟨hr1, hr2⟩
        · exact hok.out i (by omega))
      generalize hfk : f k = z at hck hr1 hr2
      clear hfk
      have ha : ¬ ((2 ^ n - 1 : Nat) : Int) < z := by have := Nat.two_pow_pos n; omega
      go_wp2_with (go_at_call 69; refine (all_any n _ h2).mono ?_; rintro e w2 ⟨rfl, hb2⟩)
      go_roundw
      case rel => exact ⟨k + 1, by omega, by go_num, hB.trans (hb2.mono (by omega)), hokk⟩
      case measure => simp [intOf]; omega
    · exfalso
      obtain ⟨i, hi, hbad⟩ := HZ.out
      exact hbad (hok.out i (by omega))
end Go.Proofs.YtecjhkpldcmlaaaDoor

namespace Go.Proofs.YtecjhkpldcmlaaaDoor
open Go.RowKit
set_option linter.unusedVariables false
theorem notIn_cases {n s : Int} (h : NotIn n s) : ¬ (1 ≤ n ∧ n ≤ 12) ∨ (∃ m : Nat, n = (m : Int) ∧ 1 ≤ m ∧ m ≤ 12 ∧ ¬ (0 ≤ s ∧ s < ((2 ^ m : Nat) : Int))) := by
  by_cases hn : 1 ≤ n ∧ n ≤ 12
  · right
    refine ⟨n.toNat, by omega, by omega, by omega, fun hh => h ⟨hn.1, hn.2, hh.1, ?_⟩⟩
    have := cast_pow n.toNat
    omega
  · exact .inl hn
theorem not_notIn {n s : Int} (h : ¬ NotIn n s) : ∃ m t : Nat, n = (m : Int) ∧ s = (t : Int) ∧ 1 ≤ m ∧ m ≤ 12 ∧ t < 2 ^ m := by
  unfold NotIn at h
  have hh := Classical.not_not.1 h
  have := cast_pow n.toNat
  exact ⟨n.toNat, s.toNat, by omega, by omega, by omega, by omega, by omega⟩
theorem of1_yes (n s : Nat) (w : World) (h1 : 1 ≤ n) (h2 : n ≤ 12) (hs : s < 2 ^ n) :
    Calls Tryd.prog 40 #[.int .i64 (n:Int), .slice (some ⟨w.heap.size, 0, none⟩) 1 1] (w.alloc (.cells #[.int .i64 (s:Int)] 3)) fun e w' => e = .returned (.tuple #[.agg #[.int .i64 (n:Int)], .bool true]) ∧ Below w.heap.size w w' :=
  (ringOf_in n (fun _ => (s:Int)) 1 w.heap.size (w.alloc (.cells #[.int .i64 (s:Int)] 3)) h1 h2 (by simp) (by omega)
    (fun i hi => by obtain rfl : i = 0 := by omega
                    simp) (fun i hi => by omega)).mono
    fun e w' ⟨he, hb⟩ => ⟨he, ((Below.refl _ _).alloc (Nat.le_refl _) _).trans (hb.mono (by simp))⟩
theorem of1_no (n s : Int) (w : World) (h : NotIn n s) :
    Calls Tryd.prog 40 #[.int .i64 n, .slice (some ⟨w.heap.size, 0, none⟩) 1 1] (w.alloc (.cells #[.int .i64 s] 3)) fun e w' => e = .returned (.tuple #[.agg #[.int .i64 0], .bool false]) ∧ Below w.heap.size w w' := by
  rcases notIn_cases h with h | ⟨m, rfl, h1, h2, h⟩
  · exact (ringOf_out n _ _ h).mono fun e w' ⟨he, hb⟩ => ⟨he, ((Below.refl _ _).alloc (Nat.le_refl _) _).trans (hb.mono (by simp))⟩
  · exact (ringOf_bad m (fun _ => s) 1 w.heap.size (w.alloc (.cells #[.int .i64 s] 3)) h1 h2 (by simp) (by omega)
      (fun i hi => by obtain rfl : i = 0 := by omega
                      simp) ⟨0, by omega, h⟩).mono
      fun e w' ⟨he, hb⟩ => ⟨he, ((Below.refl _ _).alloc (Nat.le_refl _) _).trans (hb.mono (by simp))⟩
theorem of2_yes (n s t : Nat) (w : World) (h1 : 1 ≤ n) (h2 : n ≤ 12) (hs : s < 2 ^ n) (ht : t < 2 ^ n) :
    Calls Tryd.prog 40 #[.int .i64 (n:Int), .slice (some ⟨w.heap.size, 0, none⟩) 2 2] (w.alloc (.cells #[.int .i64 (s:Int), .int .i64 (t:Int)] 3)) fun e w' => e = .returned (.tuple #[.agg #[.int .i64 (n:Int)], .bool true]) ∧ Below w.heap.size w w' :=
  (ringOf_in n (fun i => if i = 0 then (s:Int) else (t:Int)) 2 w.heap.size (w.alloc (.cells #[.int .i64 (s:Int), .int .i64 (t:Int)] 3)) h1 h2 (by simp) (by omega)
    (fun i hi => by
      have hi' : i = 0 ∨ i = 1 := by omega
      rcases hi' with rfl | rfl <;> simp) (fun i hi => by split <;> omega)).mono
    fun e w' ⟨he, hb⟩ => ⟨he, ((Below.refl _ _).alloc (Nat.le_refl _) _).trans (hb.mono (by simp))⟩
theorem of2_no (n s t : Int) (w : World) (h : NotIn n s ∨ NotIn n t) :
    Calls Tryd.prog 40 #[.int .i64 n, .slice (some ⟨w.heap.size, 0, none⟩) 2 2] (w.alloc (.cells #[.int .i64 s, .int .i64 t] 3)) fun e w' => e = .returned (.tuple #[.agg #[.int .i64 0], .bool false]) ∧ Below w.heap.size w w' := by
  have h' : ¬ (1 ≤ n ∧ n ≤ 12) ∨ (∃ m : Nat, n = (m : Int) ∧ 1 ≤ m ∧ m ≤ 12 ∧ (¬ (0 ≤ s ∧ s < ((2 ^ m : Nat) : Int)) ∨ ¬ (0 ≤ t ∧ t < ((2 ^ m : Nat) : Int)))) := by
    rcases h with h | h <;> rcases notIn_cases h with h | ⟨m, h0, h1, h2, h3⟩
    · exact .inl h
    · exact .inr ⟨m, h0, h1, h2, .inl h3⟩
    · exact .inl h
    · exact .inr ⟨m, h0, h1, h2, .inr h3⟩
  rcases h' with h | ⟨m, rfl, h1, h2, h⟩
  · exact (ringOf_out n _ _ h).mono fun e w' ⟨he, hb⟩ => ⟨he, ((Below.refl _ _).alloc (Nat.le_refl _) _).trans (hb.mono (by simp))⟩
  · exact (ringOf_bad m (fun i => if i = 0 then s else t) 2 w.heap.size (w.alloc (.cells #[.int .i64 s, .int .i64 t] 3)) h1 h2 (by simp) (by omega)
      (fun i hi => by
        have hi' : i = 0 ∨ i = 1 := by omega
        rcases hi' with rfl | rfl <;> simp) (by
        rcases h with h | h
        · exact ⟨0, by omega, h⟩
        · exact ⟨1, by omega, h⟩)).mono
      fun e w' ⟨he, hb⟩ => ⟨he, ((Below.refl _ _).alloc (Nat.le_refl _) _).trans (hb.mono (by simp))⟩
theorem implIn_yes (n s : Nat) (w : World) (h1 : 1 ≤ n) (h2 : n ≤ 12) (hs : s < 2 ^ n) :
    Calls Tryd.prog 18 #[.int .i64 (n:Int), .int .i64 (s:Int)] w fun e w' => e = .returned (.bool true) ∧ Below w.heap.size w w' := by
  go_enter Tryd.func18, Tryd.ntmps18
  go_wp2_with fail
  refine (of1_yes n s w h1 h2 hs).mono ?_
  rintro e w1 ⟨rfl, hb⟩
  go_wp2
  go_ret
  exact ⟨rfl, by repeat (first | exact hb | refine Below.alloc ?_ (by have := hb.size; omega) _)⟩
theorem implIn_no (n s : Int) (w : World) (h : NotIn n s) :
    Calls Tryd.prog 18 #[.int .i64 n, .int .i64 s] w fun e w' => e = .returned (.bool false) ∧ Below w.heap.size w w' := by
  have H := Lib.hid h
  clear h
  go_enter Tryd.func18, Tryd.ntmps18
  go_wp2_with fail
  refine (of1_no n s w H.out).mono ?_
  rintro e w1 ⟨rfl, hb⟩
  go_wp2
  go_ret
  exact ⟨rfl, by repeat (first | exact hb | refine Below.alloc ?_ (by have := hb.size; omega) _)⟩
end Go.Proofs.YtecjhkpldcmlaaaDoor

/- The places of a set: the iterator and what a loop over it wants. -/
namespace Go.Proofs.YtecjhkpldcmlaaaDoor
open Go.RowKit Go.Shelf
set_option linter.unusedVariables false
attribute [local go_sem] Oper.semAt_some

/-- What a round keeps: the box in which the iterator has its set, and all below n₀. -/
structure KB (Bn n₀ : Nat) (W W' : World) : Prop where
  box : ∀ t v, Boxed W Bn t v → Boxed W' Bn t v
  below : Below n₀ W W'
theorem KB.refl (Bn n₀ : Nat) (W : World) : KB Bn n₀ W W := ⟨fun _ _ h => h, Below.refl _ _⟩
theorem KB.trans {Bn n₀ : Nat} {A B C : World} (h : KB Bn n₀ A B) (k : KB Bn n₀ B C) : KB Bn n₀ A C :=
  ⟨fun t v hb => k.box t v (h.box t v hb), h.below.trans k.below⟩
theorem KB.put {Bn n₀ : Nat} {w : World} (hn : n₀ ≤ w.heap.size) (W : World) (l : Nat) (o o' : Obj) (hl : w.heap.size ≤ l) (h : W.heap[l]? = some o) (hc : o.isCells = false) (hw : o.isWalk = false) :
    KB Bn n₀ W (W.putObj l o') :=
  ⟨fun t v hb => hb.kept (grownBy_putObj' W l o') (by
      intro e
      cases e
      have hb' : W.heap[Bn]? = some (.cells #[v] t (0, 0)) := hb
      rw [hb'] at h
      cases h
      simp [Obj.isCells] at hc),
    belowK_b (w := w) hn W l o o' hl h hc hw⟩
theorem KB.setCell {Bn n₀ : Nat} {W W' : World} (h : KB Bn n₀ W W') {p : Nat} (hp : n₀ ≤ p) (hne : Bn ≠ p) (u : Value) : KB Bn n₀ W (W'.setCell ⟨p, 0, none⟩ u) :=
  ⟨fun t v hb => (h.box t v hb).other hne u, h.below.setCell (p := ⟨p, 0, none⟩) hp u⟩
theorem KB.call {Bn n₀ : Nat} {W W1 W' : World} (h : KB Bn n₀ W W1) (hn : n₀ ≤ W1.heap.size) (hb : Below W1.heap.size W1 W') : KB Bn n₀ W W' :=
  ⟨fun t v hx => (hb.block Bn (h.box t v hx).lt).trans (h.box t v hx), h.below.trans (hb.mono hn)⟩
theorem KB.drew {Bn n₀ : Nat} {W W' : World} (h : KB Bn n₀ W W') : KB Bn n₀ W W'.drew := ⟨fun t v hb => h.box t v hb, h.below.drew⟩
theorem boxed_below {W W' : World} {B : Nat} {t : TypeId} {v : Value} (h : Boxed W B t v) {N : Nat} (hN : B < N) (hb : Below N W W') : Boxed W' B t v := (hb.block B hN).trans h
theorem others_below {W W' : World} (hb : Below W.heap.size W W') : KeepsOthers W W' :=
  ⟨hb.size, fun k o hk _ => (hb.block k (Array.getElem?_eq_some_iff.1 hk).1).trans hk⟩
theorem others_drew (W : World) : KeepsOthers W W.drew := ⟨Nat.le_refl _, fun _ _ h _ => h⟩

/-- The places that have come when k is asked next. -/
def comeTo (r s : Nat) : Nat → List (Fin r)
  | 0 => []
  | k + 1 => if h : k < r then (if s.testBit k then comeTo r s k ++ [⟨k, h⟩] else comeTo r s k) else comeTo r s k
theorem comeTo_yes {r s k : Nat} (h : k < r) (hb : s.testBit k = true) : comeTo r s (k + 1) = comeTo r s k ++ [⟨k, h⟩] := by simp [comeTo, h, hb]
theorem comeTo_no {r s k : Nat} (hb : s.testBit k = false) : comeTo r s (k + 1) = comeTo r s k := by simp [comeTo, hb]
theorem comeTo_len (r s k : Nat) : (comeTo r s k).length ≤ k := by
  induction k with
  | zero => simp [comeTo]
  | succ k ih =>
    unfold comeTo
    split
    · split
      · simp; omega
      · omega
    · omega
theorem comeTo_mem (r s k : Nat) (x : Fin r) (h : x ∈ comeTo r s k) : s.testBit x.val = true := by
  induction k with
  | zero => simp [comeTo] at h
  | succ k ih =>
    unfold comeTo at h
    split at h
    · split at h
      · rcases List.mem_append.1 h with h | h
        · exact ih h
        · have e := List.mem_singleton.1 h
          subst e
          assumption
      · exact ih h
    · exact ih h
theorem comeTo_has (r s k : Nat) (x : Fin r) (hx : x.val < k) (hb : s.testBit x.val = true) : x ∈ comeTo r s k := by
  induction k with
  | zero => omega
  | succ k ih =>
    by_cases e : x.val = k
    · have hk : k < r := e ▸ x.isLt
      have hb' : s.testBit k = true := e ▸ hb
      have hx' : x = ⟨k, hk⟩ := Fin.ext e
      unfold comeTo
      rw [dif_pos hk, if_pos hb', hx']
      exact List.mem_append.2 (.inr (List.mem_singleton.2 rfl))
    · have h := ih (by omega)
      unfold comeTo
      split
      · split
        · exact List.mem_append.2 (.inl h)
        · exact h
      · exact h
theorem comeTo_end (r s k : Nat) (hs : s < 2 ^ k) (d : Nat) : comeTo r s (k + d) = comeTo r s k := by
  induction d with
  | zero => rfl
  | succ d ih =>
    have hb : s.testBit (k + d) = false := Nat.testBit_lt_two_pow (Nat.lt_of_lt_of_le hs (Nat.pow_le_pow_right (by omega) (by omega)))
    rw [← Nat.add_assoc, comeTo_no hb, ih]
theorem comeTo_fold {α : Type} (r s : Nat) (f : Nat → α → α) (a : α) (k : Nat) (hk : k ≤ r) : (comeTo r s k).foldl (fun x v => f v.val x) a = overSet s f k a := by
  induction k with
  | zero => rfl
  | succ k ih =>
    have hlt : k < r := by omega
    by_cases hb : s.testBit k = true
    · rw [comeTo_yes hlt hb, List.foldl_append, ih (by omega)]
      simp [overSet, upto, hb]
    · have hb' : s.testBit k = false := by simpa using hb
      rw [comeTo_no hb', ih (by omega)]
      simp [overSet, upto, hb']
theorem shr_zero_iff (s v : Nat) : ((s : Int) / 2 ^ v = 0) ↔ s < 2 ^ v := by
  rw [shr_cast]
  have := Nat.two_pow_pos v
  constructor
  · intro h
    have h' : s / 2 ^ v = 0 := by omega
    exact (Nat.div_eq_zero_iff_lt this).1 h'
  · intro h
    rw [Nat.div_eq_of_lt h]; rfl

set_option maxHeartbeats 1000000 in
theorem places1_in (n : Nat) (hn : 1 ≤ n) (l Bn n₀ r s : Nat) (hs : s < 2 ^ r) (hr : r ≤ 12) (J Jx : List (Fin r) → World → Prop)
    (hY : ∀ pre x W, J pre W → pre.length < 100 → YieldAt Fence.wide (n - 1) Tryd.prog l #[.int .i64 (x.val : Int)] W fun e W' =>
      (e = .returned (.bool true) ∧ J (pre ++ [x]) W' ∧ KB Bn n₀ W W') ∨ (e = .returned (.bool false) ∧ Jx (pre ++ [x]) W'))
    (W : World) (hBn : Boxed W Bn 53 (.int .i64 (s:Int))) (h0 : J [] W) :
    CallsIn Fence.wide n Tryd.prog 86 #[.func (.yield l) #[] #[], .pointer (some ⟨Bn, 0, none⟩)] W fun e W' => (∃ v, e = .returned v) ∧
      ((∃ ys, ys = comeTo r s r ∧ J ys W') ∨ (∃ pre, (∃ k, k ≤ r ∧ pre = comeTo r s k) ∧ Jx pre W')) := by
  refine callsIn_of_wp Tryd.func86 rfl trivial ?_ rfl
  simp only [Tryd.ntmps86, List.size_toArray, List.length_cons, List.length_nil, Nat.reduceAdd, Nat.reduceSub, Array.replicate_succ, Array.replicate_zero, List.push_toArray, List.append_toArray, List.nil_append, List.cons_append]
  gi_wp2
  gi_loopw [3] (fun v wr => ∃ k : Nat, v = .int .i64 (k:Int) ∧ k ≤ r ∧ Boxed wr Bn 53 (.int .i64 (s:Int)) ∧ J (comeTo r s k) wr)
    (fun v _ => r - (intOf v).toNat)
  case atStart => exact ⟨0, rfl, Nat.zero_le _, hBn, h0⟩
  case round =>
    obtain ⟨k, rfl, hk, hB, hJ⟩ := hrel
    have hc := hB.cell
    by_cases hz : s < 2 ^ k
    · have hz' := (shr_zero_iff s k).2 hz
      have he : comeTo r s r = comeTo r s k := by
        obtain ⟨d, hd⟩ : ∃ d, r = k + d := ⟨r - k, by omega⟩
        rw [hd]; exact comeTo_end _ s k hz d
      have HE := Lib.hid he
      clear he hY
      gi_wp2
      go_end0
      exact ⟨⟨_, rfl⟩, .inl ⟨_, rfl, by rw [HE.out]; exact hJ⟩⟩
    · have hkr : k < r := by
        by_cases h : k < r
        · exact h
        · exact absurd (Nat.lt_of_lt_of_le hs (Nat.pow_le_pow_right (by omega) (by omega))) hz
      have hz' : ¬ ((s : Int) / 2 ^ k = 0) := fun h => hz ((shr_zero_iff s k).1 h)
      have hs40 : s < 2 ^ 40 := Nat.lt_of_lt_of_le hs (Nat.pow_le_pow_right (by omega) (by omega))
      have hh := has_any s k wr hs40 (by omega)
      by_cases hb : s.testBit k = true
      · obtain ⟨fn, tmps, assign, body, hy, hR⟩ := hY (comeTo r s k) ⟨k, hkr⟩ wr hJ (by have := comeTo_len r s k; omega)
        rw [hb] at hh
        have HE := Lib.hid (comeTo_yes hkr hb)
        clear hY hb hJ hz
        dsimp only at hy
        gi_wp2_with (refine ⟨trivial, ?_⟩; gi_at_call 87; refine (callsIn_wide.2 hh).mono ?_; rintro e w' ⟨rfl, rfl⟩)
        refine hR.mono ?_
        rintro e W3 (⟨rfl, hJ3, hk3⟩ | ⟨rfl, hJx3⟩)
        · have hB3 := hk3.box _ _ hB
          gi_wp2
          go_roundw
          case rel => exact ⟨k + 1, by go_num, by omega, hB3, by rw [HE.out]; exact hJ3⟩
          case measure => simp [intOf]; omega
        · gi_wp2
          refine bodyPost_ret (results_none rfl _ _ _) rfl ?_
          exact ⟨⟨_, rfl⟩, .inr ⟨_, ⟨k + 1, by omega, HE.out.symm⟩, hJx3⟩⟩
      · have hb' : s.testBit k = false := by simpa using hb
        rw [hb'] at hh
        have HE := Lib.hid (comeTo_no (r := r) hb')
        clear hY hb hb' hz
        gi_wp2_with (refine ⟨trivial, ?_⟩; gi_at_call 87; refine (callsIn_wide.2 hh).mono ?_; rintro e w' ⟨rfl, rfl⟩)
        all_goals (try (refine ⟨fun _ h => (by cases h), ?_⟩; gi_wp2))
        go_roundw
        case rel => exact ⟨k + 1, by go_num, by omega, hB, by rw [HE.out]; exact hJ⟩
        case measure => simp [intOf]; omega
theorem places_any (s : Nat) (w : World) :
    Calls Tryd.prog 70 #[.int .i64 (s:Int)] w fun e w' => e = .returned (.func (.func 86) #[] #[.pointer (some ⟨w.heap.size, 0, none⟩)]) ∧ w' = w.alloc (.cells #[.int .i64 (s:Int)] 53) := by
  go_enter Tryd.func70, Tryd.ntmps70
  go_wp2
  go_ret
  exact ⟨rfl, rfl⟩
theorem places_stops (n : Nat) (hn : 1 ≤ n) (Bn n₀ r s : Nat) (hs : s < 2 ^ r) (hr : r ≤ 12) (w : World) (hB : Boxed w Bn 53 (.int .i64 (s:Int))) :
    SeqStopsK Fence.wide n Tryd.prog 86 #[.pointer (some ⟨Bn, 0, none⟩)] (fun x : Fin r => #[Value.int .i64 (x.val : Int)]) (KB Bn n₀) (fun ys => ys = comeTo r s r) (fun pre => ∃ k, k ≤ r ∧ pre = comeTo r s k) 100 w := fun l J Jx W hW _ _ hY h0 =>
  places1_in n hn l Bn n₀ r s hs hr J Jx hY W (boxed_below hB hB.lt hW) h0
end Go.Proofs.YtecjhkpldcmlaaaDoor

/- What loops over places make of a number. -/
namespace Go.Proofs.YtecjhkpldcmlaaaDoor
open Go.RowKit Go.Shelf
set_option linter.unusedVariables false
def vals {r : Nat} (l : List (Fin r)) : List Nat := l.map Fin.val
theorem vals_snoc {r : Nat} (l : List (Fin r)) (x : Fin r) : vals (l ++ [x]) = vals l ++ [x.val] := by simp [vals]
theorem vals_fold {α : Type} {r : Nat} (l : List (Fin r)) (f : α → Nat → α) (a : α) : (vals l).foldl f a = l.foldl (fun x v => f x v.val) a := by simp [vals, List.foldl_map]
theorem vals_lt {r : Nat} (l : List (Fin r)) : ∀ v ∈ vals l, v < r := by
  intro v hv
  simp only [vals, List.mem_map] at hv
  obtain ⟨x, _, rfl⟩ := hv
  exact x.isLt
/-- A number turned by f at each place that has come. -/
def fold (f : Nat → Nat → Nat) (a : Nat) (pre : List Nat) : Nat := pre.foldl (fun x v => f v x) a
theorem fold_nil (f : Nat → Nat → Nat) (a : Nat) : fold f a [] = a := rfl
theorem fold_snoc (f : Nat → Nat → Nat) (a : Nat) {r : Nat} (pre : List (Fin r)) (x : Fin r) : fold f a (vals (pre ++ [x])) = f x.val (fold f a (vals pre)) := by simp [fold, vals_snoc]
theorem fold_come (f : Nat → Nat → Nat) (a n s : Nat) : fold f a (vals (comeTo n s n)) = overSet s f n a := by
  unfold fold
  rw [vals_fold]
  exact comeTo_fold n s f a n (Nat.le_refl n)
theorem fold_lt (f : Nat → Nat → Nat) (n N a : Nat) (ha : a < N) (hf : ∀ v x, v < n → x < N → f v x < N) (pre : List (Fin n)) : fold f a (vals pre) < N := by
  have h : ∀ (l : List Nat) (a : Nat), a < N → (∀ v ∈ l, v < n) → l.foldl (fun x v => f v x) a < N := by
    intro l
    induction l with
    | nil => exact fun a ha _ => ha
    | cons v l ih => exact fun a ha hl => ih _ (hf v a (hl v (by simp)) ha) (fun u hu => hl u (by simp [hu]))
  exact h _ a ha (vals_lt pre)
theorem overSet_lt (f : Nat → Nat → Nat) (n N a s k : Nat) (ha : a < N) (hk : k ≤ n) (hf : ∀ v x, v < n → x < N → f v x < N) : overSet s f k a < N := by
  induction k with
  | zero => exact ha
  | succ k ih =>
    show (if s.testBit k then f k (overSet s f k a) else overSet s f k a) < N
    split
    · exact hf k _ (by omega) (ih (by omega))
    · exact ih (by omega)
theorem mul_small {a m : Int} (h0 : 0 ≤ a) (h1 : a ≤ 12) (hm1 : -1000 ≤ m) (hm2 : m ≤ 1000) : -12000 ≤ a * m ∧ a * m ≤ 12000 := by
  constructor
  · have := Int.mul_le_mul_of_nonneg_left hm1 h0; omega
  · have := Int.mul_le_mul_of_nonneg_left hm2 h0; omega
theorem shiftN_lt (n s : Nat) (k : Int) : shiftN n s k < 2 ^ n := by
  have := Nat.two_pow_pos n
  have h : shiftN n s k ≤ 2 ^ n - 1 := Nat.and_le_right
  omega
def turnS (n : Nat) (m : Int) (v x : Nat) : Nat := x ||| 2 ^ rest n ((v : Int) * m)
def sumS (n a v x : Nat) : Nat := x ||| shiftN n a v
def unitS (n v x : Nat) : Nat := if Nat.gcd v n = 1 then x ||| 2 ^ v else x
def holdS (n s v x : Nat) : Nat := if shiftN n s v = s then x ||| 2 ^ v else x
def leastS (n s v x : Nat) : Nat := min x (shiftN n s v)
def turnN (n s : Nat) (m : Int) : Nat := overSet s (turnS n m) n 0
def sumN (n a b : Nat) : Nat := overSet b (sumS n a) n 0
def unitsN (n : Nat) : Nat := overSet (2 ^ n - 1) (unitS n) n 0
def holdsN (n s : Nat) : Nat := overSet (2 ^ n - 1) (holdS n s) n 0
def leastN (n s : Nat) : Nat := overSet (2 ^ n - 1) (leastS n s) n s
def firstS (n s v x : Nat) : Nat := min x (leastN n (turnN n s v))
def firstN (n s : Nat) : Nat := overSet (unitsN n) (firstS n s) n s
theorem turnS_lt (n : Nat) (m : Int) (h1 : 1 ≤ n) (v x : Nat) (hv : v < n) (hx : x < 2 ^ n) : turnS n m v x < 2 ^ n := or_pow_lt n x _ hx (rest_lt n _ h1)
theorem sumS_lt (n a v x : Nat) (hv : v < n) (hx : x < 2 ^ n) : sumS n a v x < 2 ^ n := Nat.or_lt_two_pow hx (shiftN_lt n a v)
theorem unitS_lt (n v x : Nat) (hv : v < n) (hx : x < 2 ^ n) : unitS n v x < 2 ^ n := by
  unfold unitS; split
  · exact or_pow_lt n x v hx hv
  · exact hx
theorem holdS_lt (n s v x : Nat) (hv : v < n) (hx : x < 2 ^ n) : holdS n s v x < 2 ^ n := by
  unfold holdS; split
  · exact or_pow_lt n x v hx hv
  · exact hx
theorem leastS_lt (n s v x : Nat) (hv : v < n) (hx : x < 2 ^ n) : leastS n s v x < 2 ^ n := by unfold leastS; omega
theorem firstS_lt (n s v x : Nat) (hv : v < n) (hx : x < 2 ^ n) : firstS n s v x < 2 ^ n := by unfold firstS; omega
theorem turnN_lt (n s : Nat) (m : Int) (h1 : 1 ≤ n) : turnN n s m < 2 ^ n := overSet_lt _ n _ _ _ _ (Nat.two_pow_pos n) (Nat.le_refl n) (turnS_lt n m h1)
theorem sumN_lt (n a b : Nat) : sumN n a b < 2 ^ n := overSet_lt _ n _ _ _ _ (Nat.two_pow_pos n) (Nat.le_refl n) (sumS_lt n a)
theorem unitsN_lt (n : Nat) : unitsN n < 2 ^ n := overSet_lt _ n _ _ _ _ (Nat.two_pow_pos n) (Nat.le_refl n) (unitS_lt n)
theorem holdsN_lt (n s : Nat) : holdsN n s < 2 ^ n := overSet_lt _ n _ _ _ _ (Nat.two_pow_pos n) (Nat.le_refl n) (holdS_lt n s)
theorem leastN_lt (n s : Nat) (hs : s < 2 ^ n) : leastN n s < 2 ^ n := overSet_lt _ n _ _ _ _ hs (Nat.le_refl n) (leastS_lt n s)
theorem firstN_lt (n s : Nat) (hs : s < 2 ^ n) : firstN n s < 2 ^ n := overSet_lt _ n _ _ _ _ hs (Nat.le_refl n) (firstS_lt n s)
theorem pow_mono {n s : Nat} (h2 : n ≤ 12) (hs : s < 2 ^ n) : s < 2 ^ 12 := Nat.lt_of_lt_of_le hs (Nat.pow_le_pow_right (by omega) h2)
end Go.Proofs.YtecjhkpldcmlaaaDoor

/- A region that draws its order, in a round of a loop over a function: what is held of the world through it. -/
namespace Go.Proofs.YtecjhkpldcmlaaaDoor
open Go.RowKit Go.Shelf
set_option linter.unusedVariables false
section
variable {P : Program} {ops : Array Oper} {Q : Exit → Act → World → Prop} {md : Region.Mode} {S : World → Prop}
def noDefer (o : Oper) : Bool := match o.op with | .defer _ => false | _ => true
theorem noDefer_ne {o : Oper} (h : noDefer o = true) (c : Call) : o.op ≠ .defer c := fun e => by simp [noDefer, e] at h
theorem opIn_of_op {l n i : Nat} {K : Act → World → Prop} {a : Act} {w : World} (hd : ∀ (j : Nat) o, ops[j]? = some o → noDefer o = true) (hl : ¬ LetsOut Q)
    (h : wpOp P ops Q i K a w) : wpOpIn (Fence.wide.inRound l) n P ops Q i K a w := by
  unfold wpOpIn
  unfold wpOp at h
  split
  · simpa [*] using h
  · rename_i o ho
    simp only [ho] at h
    split
    · rename_i hw
      simp only [hw, if_true] at h
      rcases h with h | ⟨_, h⟩
      · refine ⟨fun _ _ => trivial, ?_⟩
        rw [show Oper.semAt (Fence.wide.inRound l).round a.eval o = execOp a.eval o from Oper.semAt_some l _ o (noDefer_ne (hd i o ho))]
        unfold Oper.wp at h
        generalize (execOp a.eval o).run P w = r at *
        cases r with
        | ok x w' =>
          cases x <;> first
            | exact h
            | exact False.elim h
            | exact ⟨fun hh => (by cases hh), CallsIn.inRound l (callsIn_wide.2 h)⟩
            | exact ⟨fun hh => (by cases hh), fun c cs _ => let ⟨v, w', r, s⟩ := h c cs; ⟨v, w', r, stepsIn_wide.2 s⟩⟩
        | halt x w' => cases x <;> exact h
      · exact absurd h hl
    · rename_i hw
      simp only [hw] at h
      exact ⟨fun _ _ => trivial, h⟩
theorem anyIn_of_any {l n : Nat} (hd : ∀ (j : Nat) o, ops[j]? = some o → noDefer o = true) (hl : ¬ LetsOut Q) :
    ∀ (fuel : Nat) (listed : Array Bool) (a : Act) (w : World), wpAny P md ops Q fuel listed a w → wpAnyIn (Fence.wide.inRound l) n P md ops Q fuel listed a w
  | 0, _, _, _, h => h
  | fuel + 1, _, _, _, h => ⟨h.1, fun i hi => opIn_of_op hd hl (wpOp_mono (fun a' w' h' => anyIn_of_any hd hl fuel _ a' w' h') (h.2 i hi))⟩
theorem all_ops {L : List Oper} (h : L.all noDefer = true) (j : Nat) (o : Oper) (hj : L.toArray[j]? = some o) : noDefer o = true := by
  have hj' : L[j]? = some o := by simpa using hj
  exact List.all_eq_true.1 h o (List.mem_of_getElem? hj')
theorem region_round {l n id : Nat} {L : List Oper} {a : Act} {w : World} (S : World → Prop) (hm : P.follows .mixedOrders = true) (hd : L.all noDefer = true) (hl : ¬ LetsOut Q)
    (hS : S w.drew) (h : S w.drew → wpAnyH P .any L.toArray Q S L.length (Array.replicate L.length false) a w.drew) :
    (Code.region id L.toArray true).wpIn (Fence.wide.inRound l) n P Q a w :=
  wpIn_region_any hm (anyIn_of_any (all_ops hd) hl _ _ _ _ (wpAny_of_held _ _ _ _ (by simpa using h hS)))
theorem take1 {L : List Oper} (i : Nat) {oi : Oper} {v : Value} {fuel : Nat} {listed : Array Bool} {a : Act} {w : World} (hi : L[i]? = some oi)
    (hs : Region.noSelect L.toArray = true) (hf : Region.free md L.toArray listed i = true) (hr : (Region.ready md L.toArray listed).contains i = true)
    (hQ : ∀ c a w, Q (.panic c) (a.put oi.dst v) w → Q (.panic c) a w) (hw : Region.wanted oi (yielded L.toArray a.tmps) = true)
    (hy : ∀ w, S w → (execOp a.eval oi).run P w = .ok (.value v) w) (hS : S w)
    (h : wpAnyH P md L.toArray Q S fuel (listed.setIfInBounds i true) (a.put oi.dst v) w) : wpAnyH P md L.toArray Q S (fuel + 1) listed a w :=
  wpAnyH_take (by simpa using hi) hs hf hr hQ (.inl ⟨hw, hy⟩) hS h
theorem step1 {L : List Oper} (i : Nat) {o : Oper} {fuel : Nat} {listed : Array Bool} {a : Act} {w : World} (hr : Region.ready md L.toArray listed = [i]) (hi : L[i]? = some o)
    (h : ∀ K' : Act → World → Prop, Shut (∀ a w, S w → wpAnyH P md L.toArray Q S fuel (listed.setIfInBounds i true) a w → K' a w) → if Region.wanted o (yielded L.toArray a.tmps) = true then Oper.wp P o a w K' Q else K' (a.put o.dst undef) w) :
    wpAnyH P md L.toArray Q S (fuel + 1) listed a w :=
  wpAnyH_ready hr (by simp) (AllReadyH.cons (by simpa using hi) (fun K hK => h K (fun a w hS hW => hK.out a w hS (fun _ => hW))) AllReadyH.nil)
theorem step2 {L : List Oper} (i j : Nat) {o p : Oper} {fuel : Nat} {listed : Array Bool} {a : Act} {w : World} (hr : Region.ready md L.toArray listed = [i, j]) (hi : L[i]? = some o) (hj : L[j]? = some p)
    (h : ∀ K' : Act → World → Prop, Shut (∀ a w, S w → wpAnyH P md L.toArray Q S fuel (listed.setIfInBounds i true) a w → K' a w) → if Region.wanted o (yielded L.toArray a.tmps) = true then Oper.wp P o a w K' Q else K' (a.put o.dst undef) w)
    (h' : ∀ K' : Act → World → Prop, Shut (∀ a w, S w → wpAnyH P md L.toArray Q S fuel (listed.setIfInBounds j true) a w → K' a w) → if Region.wanted p (yielded L.toArray a.tmps) = true then Oper.wp P p a w K' Q else K' (a.put p.dst undef) w) :
    wpAnyH P md L.toArray Q S (fuel + 1) listed a w :=
  wpAnyH_ready hr (by simp) (AllReadyH.cons (by simpa using hi) (fun K hK => h K (fun a w hS hW => hK.out a w hS (fun _ => hW)))
    (AllReadyH.cons (by simpa using hj) (fun K hK => h' K (fun a w hS hW => hK.out a w hS (fun _ => hW))) AllReadyH.nil))
theorem stop1 {L : List Oper} {fuel : Nat} {listed : Array Bool} {a : Act} {w : World} (hr : Region.ready md L.toArray listed = []) (h : Q .normal a w) : wpAnyH P md L.toArray Q S fuel listed a w :=
  wpAnyH_done hr h fuel
end
/-- W' is W with new blocks, and with block T written: nothing else that was there has turned. -/
structure Aside (T : Nat) (W W' : World) : Prop where
  os : W'.os = W.os
  tape : W'.tape = W.tape
  output : W'.output = W.output
  size : W.heap.size ≤ W'.heap.size
  block : ∀ k, k < W.heap.size → k ≠ T → W'.heap[k]? = W.heap[k]?
theorem Aside.start (T : Nat) (W : World) : Aside T W W.drew := ⟨rfl, rfl, rfl, Nat.le_refl _, fun _ _ _ => rfl⟩
theorem Aside.refl (T : Nat) (W : World) : Aside T W W := ⟨rfl, rfl, rfl, Nat.le_refl _, fun _ _ _ => rfl⟩
theorem Aside.call {T : Nat} {W W1 W2 : World} (h : Aside T W W1) (hb : Below W1.heap.size W1 W2) : Aside T W W2 :=
  ⟨hb.os.trans h.os, hb.tape.trans h.tape, hb.output.trans h.output, Nat.le_trans h.size hb.size, fun k hk hn => (hb.block k (Nat.lt_of_lt_of_le hk h.size)).trans (h.block k hk hn)⟩
theorem Aside.set {T : Nat} {W W1 : World} (h : Aside T W W1) (u : Value) : Aside T W (W1.setCell ⟨T, 0, none⟩ u) :=
  ⟨h.os, h.tape, h.output, by simpa [World.setCell] using h.size, fun k hk hn => (Below.heap_setCell W1 ⟨T, 0, none⟩ u k hn).trans (h.block k hk hn)⟩
theorem Aside.setAt {T : Nat} {W W1 : World} (h : Aside T W W1) (i : Nat) (u : Value) : Aside T W (W1.setCell ⟨T, i, none⟩ u) :=
  ⟨h.os, h.tape, h.output, by simpa [World.setCell] using h.size, fun k hk hn => (Below.heap_setCell W1 ⟨T, i, none⟩ u k hn).trans (h.block k hk hn)⟩
theorem Aside.others' {T : Nat} {W W' : World} (h : Aside T W W') {o : Obj} (hT : W.heap[T]? = some o) (hc : o.isCells = true) : KeepsOthers W W' :=
  ⟨h.size, fun k o' hk ho => by
    by_cases e : k = T
    · subst e
      rw [hT] at hk
      cases hk
      rw [hc] at ho; cases ho
    · exact (h.block k (Array.getElem?_eq_some_iff.1 hk).1 e).trans hk⟩
theorem ownFrom_kb {β : Type} {Bn m B : Nat} {w₀ : World} (hm : m ≤ w₀.heap.size) (hB : m ≤ B) : OwnFrom B (fun (_ : β) W => KB Bn m w₀ W) :=
  fun s W W' row h hg hr => ⟨fun t v hb => (h.box t v hb).kept hg (fun e => by
      have hx := h.box t v hb
      obtain ⟨_, o, ho, hc⟩ := hr _ e.symm
      have hx' : W.heap[Bn]? = some (.cells #[v] t (0, 0)) := hx
      rw [hx'] at ho; cases ho; simp [Obj.isCells] at hc),
    ownFrom_below (β := Unit) hm hB () W W' row h.below hg hr⟩
theorem Aside.box {T : Nat} {W W' : World} (h : Aside T W W') {B : Nat} {t : TypeId} {v : Value} (hB : Boxed W B t v) (hn : B ≠ T) : Boxed W' B t v := (h.block B hB.lt hn).trans hB
theorem Aside.others {T : Nat} {W W' : World} (h : Aside T W W') {t : TypeId} {v : Value} (hT : Boxed W T t v) : KeepsOthers W W' :=
  ⟨h.size, fun k o hk ho => by
    by_cases e : k = T
    · subst e
      have hT' : W.heap[k]? = some (.cells #[v] t (0, 0)) := hT
      rw [hT'] at hk
      cases hk
      simp [Obj.isCells] at ho
    · exact (h.block k (Array.getElem?_eq_some_iff.1 hk).1 e).trans hk⟩
theorem Aside.below {T : Nat} {W W' : World} (h : Aside T W W') {m : Nat} (h1 : m ≤ T) (h2 : m ≤ W.heap.size) : Below m W W' :=
  ⟨h.os, h.tape, h.output, h.size, fun k hk => h.block k (by omega) (by omega)⟩
theorem Aside.kb {T : Nat} {W W' : World} (h : Aside T W W') {Bn m : Nat} (hn : Bn ≠ T) (h1 : m ≤ T) (h2 : m ≤ W.heap.size) : KB Bn m W W' :=
  ⟨fun t v hb => h.box hb hn, h.below h1 h2⟩
end Go.Proofs.YtecjhkpldcmlaaaDoor
