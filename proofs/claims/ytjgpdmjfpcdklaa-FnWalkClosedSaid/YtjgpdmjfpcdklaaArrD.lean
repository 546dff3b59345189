/- Walks: what is made of them: the program. -/
import Derived.Test.YtjgpdmjfpcdklaaArrC
namespace Go.Proofs.Ytjgpdmjfpcdklaa
open Go.RowKit Go.Shelf
set_option linter.unusedVariables false
attribute [local go_sem] Oper.semAt_some
/-- The places before i at which f is not 0. -/
def ledN (f : Nat → Nat) : Nat → Nat
  | 0 => 0
  | i + 1 => if 0 < f i then ledN f i ||| 2 ^ i else ledN f i
theorem led_lt (f : Nat → Nat) (i : Nat) : ledN f i < 2 ^ i := by
  induction i with
  | zero => exact Nat.one_pos
  | succ i ih =>
    have h : ledN f i < 2 ^ (i + 1) := Nat.lt_of_lt_of_le ih (Nat.pow_le_pow_right (by omega) (by omega))
    show (if 0 < f i then ledN f i ||| 2 ^ i else ledN f i) < _
    split
    · exact Nat.or_lt_two_pow h (Nat.pow_lt_pow_right (by omega) (by omega))
    · exact h
theorem led_bit (f : Nat → Nat) (i x : Nat) : (ledN f i).testBit x = (decide (x < i) && decide (0 < f x)) := by
  induction i with
  | zero => simp [ledN]
  | succ i ih =>
    show (if 0 < f i then ledN f i ||| 2 ^ i else ledN f i).testBit x = _
    by_cases hf : 0 < f i
    · rw [if_pos hf, Nat.testBit_or, ih, Nat.testBit_two_pow]
      by_cases e : x = i
      · subst e; simp [hf]
      · have e1 : decide (i = x) = false := by simp; omega
        have e2 : decide (x < i + 1) = decide (x < i) := by simp; omega
        rw [e1, e2, Bool.or_false]
    · rw [if_neg hf, ih]
      by_cases e : x = i
      · subst e; simp [hf]
      · have e2 : decide (x < i + 1) = decide (x < i) := by simp; omega
        rw [e2]
theorem led_set (n s k : Nat) (h1 : 1 ≤ n) (h2 : n ≤ 12) : ledN (msetN n s k) 12 = wsetN n s k := by
  refine Nat.eq_of_testBit_eq fun x => ?_
  rw [led_bit]
  unfold msetN
  cases hb : (wsetN n s k).testBit x
  · simp [b2n]
  · have hx : x < n := by
      by_cases c : x < n
      · exact c
      · rw [Nat.testBit_lt_two_pow (Nat.lt_of_lt_of_le (wset_lt n s k h1) (Nat.pow_le_pow_right (by omega) (by omega)))] at hb
        cases hb
    simp [b2n, show x < 12 by omega]
set_option maxHeartbeats 1000000 in
theorem led_any (f : Nat → Nat) (w : World) :
    Calls Try.prog 52 #[.agg (arrC f)] w fun e w' => e = .returned (.int .i64 ((ledN f 12 : Nat) : Int)) ∧ Below w.heap.size w w' := by
  have HA := Lib.hid (Arr.new w 51 f)
  have HB := Lib.hid ((Below.refl w.heap.size w).alloc (Nat.le_refl _) (.cells (arrC f) 51))
  have HI := Lib.hid (fun i hi W => run_idxArr f i hi W)
  have HS : Hid (∀ i, ledN f (i + 1) = if 0 < f i then ledN f i ||| 2 ^ i else ledN f i) := Lib.hid (fun i => rfl)
  have HLt := Lib.hid (fun i => led_lt f i)
  go_enter Try.func52, Try.ntmps52
  go_wp2_with (first
    | (refine wpList_loadArr _ rfl _ rfl w.heap.size 51 f rfl HA.out ?_)
    | go_in)
  obtain ⟨W0, hW0⟩ : ∃ W0, w.alloc (.cells (arrC f) 51) = W0 := ⟨_, rfl⟩
  rw [hW0] at HB ⊢
  clear hW0 HA
  go_loopw [3, 7] (fun a u wr => ∃ i : Nat, i ≤ 12 ∧ a = .int .i64 ((ledN f i : Nat) : Int) ∧ u = .int .i64 (i : Int) ∧ Below w.heap.size w wr) (fun _ u _ => 12 - (intOf u).toNat)
  case atStart => exact ⟨0, Nat.zero_le _, rfl, rfl, HB.out⟩
  case round =>
    obtain ⟨i, hi, rfl, rfl, hB⟩ := hrel
    clear HB
    have HB := Lib.hid hB
    clear hB
    by_cases hlt : i < 12
    · have hidx := HI.out i hlt
      have hl := HLt.out i
      have hl40 : ledN f i < 2 ^ 40 := Nat.lt_of_lt_of_le hl (Nat.pow_le_pow_right (by omega) (by omega))
      have HW := Lib.hid (fun W => with_any (ledN f i) i W hl40 (by omega))
      have HSi := Lib.hid (HS.out i)
      generalize f i = a at *
      generalize ledN f i = L at *
      by_cases hz : 0 < a
      · have e : (0 : Int) < (a : Int) := by omega
        rw [if_pos hz] at HSi
        clear hz hl hl40
        go_wp2_with (go_at_call 70; refine (HW.out _).mono ?_; rintro e w2 ⟨rfl, rfl⟩)
        go_roundw
        case rel => exact ⟨i + 1, by omega, by rw [HSi.out], by go_num, HB.out⟩
        case measure => simp [intOf]; omega
      · have e : ¬ (0 : Int) < (a : Int) := by omega
        rw [if_neg hz] at HSi
        clear hz hl hl40
        go_wp2
        go_roundw
        case rel => exact ⟨i + 1, by omega, by rw [HSi.out], by go_num, HB.out⟩
        case measure => simp [intOf]; omega
    · obtain rfl : i = 12 := by omega
      go_wp2
      go_ret
      exact ⟨rfl, HB.out⟩
end Go.Proofs.Ytjgpdmjfpcdklaa
