/- Walks: what is made of them: the program. -/
import Derived.Test.YtookciehnjnmnaaArrC
namespace Go.Proofs.Ytookciehnjnmnaa
open Go.RowKit Go.Shelf
set_option linter.unusedVariables false
attribute [local go_sem] Oper.semAt_some
/-- The places before i at which f is not 0. -/
def ledN (f : Nat → Nat) : Nat → Nat
  | 0 => 0
  | i + 1 => if 0 < f i then ledN f i ||| 2 ^ i else ledN f i
theorem led_lt (f : Nat → Nat) (i : Nat) : ledN f i < 2 ^ i := by
  induction i with
  | zero => exact Nat.one_pos
  | succ i ih =>
    have h : ledN f i < 2 ^ (i + 1) := Nat.lt_of_lt_of_le ih (Nat.pow_le_pow_right (by omega) (by omega))
    show (if 0 < f i then ledN f i ||| 2 ^ i else ledN f i) < _
    split
    · exact Nat.or_lt_two_pow h (Nat.pow_lt_pow_right (by omega) (by omega))
    · exact h
theorem led_bit (f : Nat → Nat) (i x : Nat) : (ledN f i).testBit x = (decide (x < i) && decide (0 < f x)) := by
  induction i with
  | zero => simp [ledN]
  | succ i ih =>
    show (if 0 < f i then ledN f i ||| 2 ^ i else ledN f i).testBit x = _
    by_cases hf : 0 < f i
    · rw [if_pos hf, Nat.testBit_or, ih, Nat.testBit_two_pow]
      by_cases e : x = i
      · subst e; simp [hf]
      · have e1 : decide (i = x) = false := by simp; omega
        have e2 : decide (x < i + 1) = decide (x < i) := by simp; omega
        rw [e1, e2, Bool.or_false]
    · rw [if_neg hf, ih]
      by_cases e : x = i
      · subst e; simp [hf]
      · have e2 : decide (x < i + 1) = decide (x < i) := by simp; omega
        rw [e2]
theorem led_set (n s k : Nat) (h1 : 1 ≤ n) (h2 : n ≤ 12) : ledN (msetN n s k) 12 = wsetN n s k := by
  refine Nat.eq_of_testBit_eq fun x => ?_
  rw [led_bit]
  unfold msetN
  cases hb : (wsetN n s k).testBit x
  · simp [b2n]
  · have hx : x < n := by
      by_cases c : x < n
      · exact c
      · rw [Nat.testBit_lt_two_pow (Nat.lt_of_lt_of_le (wset_lt n s k h1) (Nat.pow_le_pow_right (by omega) (by omega)))] at hb
        cases hb
    simp [b2n, show x < 12 by omega]
set_option maxHeartbeats 1000000 in
theorem led_any (f : Nat → Nat) (w : World) :
    Calls Try.prog 55 #[.agg (arrC f)] w fun e w' => e = .returned (.int .i64 ((ledN f 12 : Nat) : Int)) ∧ Below w.heap.size w w' := by
  have HA := Lib.hid (Arr.new w 58 f)
  have HB := Lib.hid ((Below.refl w.heap.size w).alloc (Nat.le_refl _) (.cells (arrC f) 58))
  have HI := Lib.hid (fun i hi W => run_idxArr f i hi W)
  have HS : Hid (∀ i, ledN f (i + 1) = if 0 < f i then ledN f i ||| 2 ^ i else ledN f i) := Lib.hid (fun i => rfl)
  have HLt := Lib.hid (fun i => led_lt f i)
  go_enter Try.func55, Try.ntmps55
  go_wp2_with (first
    | (refine wpList_loadArr _ rfl _ rfl w.heap.size 58 f rfl HA.out ?_)
    | go_in)
  obtain ⟨W0, hW0⟩ : ∃ W0, w.alloc (.cells (arrC f) 58) = W0 := ⟨_, rfl⟩
  rw [hW0] at HB ⊢
  clear hW0 HA
  go_loopw [3, 7] (fun a u wr => ∃ i : Nat, i ≤ 12 ∧ a = .int .i64 ((ledN f i : Nat) : Int) ∧ u = .int .i64 (i : Int) ∧ Below w.heap.size w wr) (fun _ u _ => 12 - (intOf u).toNat)
  case atStart => exact ⟨0, Nat.zero_le _, rfl, rfl, HB.out⟩
  case round =>
    obtain ⟨i, hi, rfl, rfl, hB⟩ := hrel
    clear HB
    have HB := Lib.hid hB
    clear hB
    by_cases hlt : i < 12
    · have hidx := HI.out i hlt
      have hl := HLt.out i
      have hl40 : ledN f i < 2 ^ 40 := Nat.lt_of_lt_of_le hl (Nat.pow_le_pow_right (by omega) (by omega))
      have HW := Lib.hid (fun W => with_any (ledN f i) i W hl40 (by omega))
      have HSi := Lib.hid (HS.out i)
      generalize f i = a at *
      generalize ledN f i = L at *
      by_cases hz : 0 < a
      · have e : (0 : Int) < (a : Int) := by omega
        rw [if_pos hz] at HSi
        clear hz hl hl40
        go_wp2_with (go_at_call 76; refine (HW.out _).mono ?_; rintro e w2 ⟨rfl, rfl⟩)
        go_roundw
        case rel => exact ⟨i + 1, by omega, by rw [HSi.out], by go_num, HB.out⟩
        case measure => simp [intOf]; omega
      · have e : ¬ (0 : Int) < (a : Int) := by omega
        rw [if_neg hz] at HSi
        clear hz hl hl40
        go_wp2
        go_roundw
        case rel => exact ⟨i + 1, by omega, by rw [HSi.out], by go_num, HB.out⟩
        case measure => simp [intOf]; omega
    · obtain rfl : i = 12 := by omega
      go_wp2
      go_ret
      exact ⟨rfl, HB.out⟩
set_option maxHeartbeats 1000000 in
theorem squares_any (n s k : Nat) (w : World) (h1 : 1 ≤ n) (h2 : n ≤ 12) (h0 : s.testBit 0 = false) (hk : k ≤ 5) :
    Calls Try.prog 50 #[.agg (arrC (wlkN n s k))] w fun e w' => e = .returned (.int .i64 ((sqN n s k n : Nat) : Int)) ∧ Below w.heap.size w w' := by
  have HA := Lib.hid (Arr.new w 58 (wlkN n s k))
  have HB := Lib.hid ((Below.refl w.heap.size w).alloc (Nat.le_refl _) (.cells (arrC (wlkN n s k)) 58))
  have HI := Lib.hid (fun i hi W => run_idxArr (wlkN n s k) i hi W)
  have HSt : Hid (∀ j, sqN n s k (j + 1) = sqN n s k j + wlkN n s k j * wlkN n s k j) := Lib.hid (fun j => rfl)
  have hEnd : ∀ j, sqN n s k (n + j) = sqN n s k n := fun j => by
    induction j with
    | zero => rfl
    | succ j ih =>
      show sqN n s k (n + j) + wlkN n s k (n + j) * wlkN n s k (n + j) = _
      rw [ih, wlk_out n s k (n + j) h1 (by omega)]
      rfl
  have HEnd : Hid (sqN n s k 12 = sqN n s k n) := Lib.hid (by have := hEnd (12 - n); rwa [show n + (12 - n) = 12 by omega] at this)
  have hle : ∀ j, sqN n s k j ≤ 25937424601 := fun j => by
    by_cases c : j ≤ n
    · exact sqN_le n s k j h1 h2 h0 hk c
    · have := hEnd (j - n)
      rw [show n + (j - n) = j by omega] at this
      rw [this]
      exact sqN_le n s k n h1 h2 h0 hk (Nat.le_refl n)
  have HLe := Lib.hid hle
  have HMu := Lib.hid (fun v => mul_walks (wlkN n s k v) (by
    by_cases c : v < n
    · have a := wlk_le n s k v h1 h2 h0 c
      have b : 11 ^ k ≤ 11 ^ 5 := Nat.pow_le_pow_right (by omega) hk
      omega
    · rw [wlk_out n s k v h1 (by omega)]; omega))
  clear hEnd hle
  go_enter Try.func50, Try.ntmps50
  go_wp2_with (first
    | (refine wpList_loadArr _ rfl _ rfl w.heap.size 58 (wlkN n s k) rfl HA.out ?_)
    | go_in)
  obtain ⟨W0, hW0⟩ : ∃ W0, w.alloc (.cells (arrC (wlkN n s k)) 58) = W0 := ⟨_, rfl⟩
  rw [hW0] at HB ⊢
  clear hW0 HA
  go_loopw [3, 7] (fun a u wr => ∃ i : Nat, i ≤ 12 ∧ a = .int .i64 ((sqN n s k i : Nat) : Int) ∧ u = .int .i64 (i : Int) ∧ Below w.heap.size w wr) (fun _ u _ => 12 - (intOf u).toNat)
  case atStart => exact ⟨0, Nat.zero_le _, rfl, rfl, HB.out⟩
  case round =>
    obtain ⟨i, hi, rfl, rfl, hB⟩ := hrel
    clear HB
    have HB := Lib.hid hB
    clear hB
    by_cases hlt : i < 12
    · have hidx := HI.out i hlt
      obtain ⟨m1, m2, m3⟩ := HMu.out i
      have l1 := HLe.out i
      have HSi := Lib.hid (HSt.out i)
      generalize wlkN n s k i = a at *
      generalize sqN n s k i = t at *
      obtain ⟨p, hp⟩ : ∃ p, a * a = p := ⟨_, rfl⟩
      rw [hp] at m1 m2 m3 HSi
      clear hp
      go_wp2
      go_roundw
      case rel => exact ⟨i + 1, by omega, by rw [HSi.out]; go_num, by go_num, HB.out⟩
      case measure => simp [intOf]; omega
    · obtain rfl : i = 12 := by omega
      go_wp2
      go_ret
      exact ⟨by rw [HEnd.out]; rfl, HB.out⟩
end Go.Proofs.Ytookciehnjnmnaa
