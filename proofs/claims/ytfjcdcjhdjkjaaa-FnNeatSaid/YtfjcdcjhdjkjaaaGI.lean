/- Texts of mine, laid together: FreA FreB FreC FreD FreE FreF FreX. -/
import Derived.Test.YtfjcdcjhdjkjaaaGC
import Derived.Test.YtfjcdcjhdjkjaaaGB
import Derived.Test.YtfjcdcjhdjkjaaaGG
import Derived.Test.YtfjcdcjhdjkjaaaGA
import Derived.BigQuiet
/- Free sets: what is counted, and the greatest and the least of sizes. -/
namespace Go.Proofs.Ytfjcdcjhdjkjaaa
set_option linter.unusedVariables false
/-- Whether no arc joins places of a set. -/
def fsetN (n s x : Nat) : Bool := Nat.beq (sumN n s x &&& x) 0
/-- Whether each place is in a set, or an arc leads to it from there. -/
def wideN (n s x : Nat) : Bool := Nat.beq (sumN n (s ||| 1) x) (2 ^ n - 1)
/-- Whether a set has no place that is a sum of two. -/
def sumlN (n x : Nat) : Bool := Nat.beq (sumN n x x &&& x) 0
/-- The greatest size of the first k sets that p lets by. -/
def topN (p : Nat → Bool) : Nat → Nat
  | 0 => 0
  | i + 1 => if p i && Nat.blt (topN p i) (sizeN i) then sizeN i else topN p i
/-- The least one, b at most. -/
def lowN (p : Nat → Bool) (b : Nat) : Nat → Nat
  | 0 => b
  | i + 1 => if p i && Nat.blt (sizeN i) (lowN p b i) then sizeN i else lowN p b i
/-- How many of the first k sets p lets by. -/
def cntP (p : Nat → Bool) : Nat → Nat
  | 0 => 0
  | i + 1 => if p i then cntP p i + 1 else cntP p i
theorem top_congr (p q : Nat → Bool) (k : Nat) (h : ∀ i, i < k → p i = q i) : topN p k = topN q k := by
  induction k with
  | zero => rfl
  | succ k ih =>
    show (if p k && Nat.blt (topN p k) (sizeN k) then sizeN k else topN p k) = (if q k && Nat.blt (topN q k) (sizeN k) then sizeN k else topN q k)
    rw [ih fun i hi => h i (by omega), h k (by omega)]
theorem low_congr (p q : Nat → Bool) (b k : Nat) (h : ∀ i, i < k → p i = q i) : lowN p b k = lowN q b k := by
  induction k with
  | zero => rfl
  | succ k ih =>
    show (if p k && Nat.blt (sizeN k) (lowN p b k) then sizeN k else lowN p b k) = (if q k && Nat.blt (sizeN k) (lowN q b k) then sizeN k else lowN q b k)
    rw [ih fun i hi => h i (by omega), h k (by omega)]
theorem cnt_congr (p q : Nat → Bool) (k : Nat) (h : ∀ i, i < k → p i = q i) : cntP p k = cntP q k := by
  induction k with
  | zero => rfl
  | succ k ih =>
    show (if p k then cntP p k + 1 else cntP p k) = (if q k then cntP q k + 1 else cntP q k)
    rw [ih fun i hi => h i (by omega), h k (by omega)]
theorem blt_iff (a b : Nat) : Nat.blt a b = true ↔ a < b := by
  show Nat.ble (a + 1) b = true ↔ _
  rw [Nat.ble_eq]; omega
theorem top_step (p : Nat → Bool) (i : Nat) : (p i = true ∧ topN p i < sizeN i → topN p (i + 1) = sizeN i) ∧ (¬ (p i = true ∧ topN p i < sizeN i) → topN p (i + 1) = topN p i) := by
  have e : topN p (i + 1) = if p i && Nat.blt (topN p i) (sizeN i) then sizeN i else topN p i := rfl
  constructor
  · rintro ⟨h1, h2⟩
    rw [e, if_pos]
    rw [h1, Bool.true_and, blt_iff]; exact h2
  · intro h
    rw [e, if_neg]
    rw [Bool.and_eq_true, blt_iff]; exact h
theorem low_step (p : Nat → Bool) (b i : Nat) : (p i = true ∧ sizeN i < lowN p b i → lowN p b (i + 1) = sizeN i) ∧ (¬ (p i = true ∧ sizeN i < lowN p b i) → lowN p b (i + 1) = lowN p b i) := by
  have e : lowN p b (i + 1) = if p i && Nat.blt (sizeN i) (lowN p b i) then sizeN i else lowN p b i := rfl
  constructor
  · rintro ⟨h1, h2⟩
    rw [e, if_pos]
    rw [h1, Bool.true_and, blt_iff]; exact h2
  · intro h
    rw [e, if_neg]
    rw [Bool.and_eq_true, blt_iff]; exact h
theorem cnt_step (p : Nat → Bool) (i : Nat) : cntP p (i + 1) = if p i then cntP p i + 1 else cntP p i := rfl
/-- The greatest size is one, and no size is greater. -/
theorem top_ub (p : Nat → Bool) (k i : Nat) (hi : i < k) (h : p i = true) : sizeN i ≤ topN p k := by
  induction k with
  | zero => omega
  | succ k ih =>
    obtain ⟨a, b⟩ := top_step p k
    by_cases c : p k = true ∧ topN p k < sizeN k
    · rw [a c]
      by_cases e : i = k
      · subst e; exact Nat.le_refl _
      · exact Nat.le_trans (ih (by omega)) (Nat.le_of_lt c.2)
    · rw [b c]
      by_cases e : i = k
      · subst e
        exact Nat.le_of_not_lt fun h2 => c ⟨h, h2⟩
      · exact ih (by omega)
theorem top_at (p : Nat → Bool) (k : Nat) : topN p k = 0 ∨ ∃ i, i < k ∧ p i = true ∧ sizeN i = topN p k := by
  induction k with
  | zero => exact .inl rfl
  | succ k ih =>
    obtain ⟨a, b⟩ := top_step p k
    by_cases c : p k = true ∧ topN p k < sizeN k
    · exact .inr ⟨k, by omega, c.1, (a c).symm⟩
    · rw [b c]
      rcases ih with e | ⟨i, h1, h2, h3⟩
      · exact .inl e
      · exact .inr ⟨i, by omega, h2, h3⟩
theorem top_eq (p : Nat → Bool) (k m : Nat) (h : ∀ i, i < k → p i = true → sizeN i ≤ m) (h2 : m = 0 ∨ ∃ i, i < k ∧ p i = true ∧ sizeN i = m) : topN p k = m := by
  refine Nat.le_antisymm ?_ ?_
  · rcases top_at p k with e | ⟨i, h1, h2, h3⟩
    · rw [e]; exact Nat.zero_le _
    · rw [← h3]; exact h i h1 h2
  · rcases h2 with e | ⟨i, h1, h2, h3⟩
    · rw [e]; exact Nat.zero_le _
    · rw [← h3]; exact top_ub p k i h1 h2
theorem low_lb (p : Nat → Bool) (b k i : Nat) (hi : i < k) (h : p i = true) : lowN p b k ≤ sizeN i := by
  induction k with
  | zero => omega
  | succ k ih =>
    obtain ⟨u, v⟩ := low_step p b k
    by_cases c : p k = true ∧ sizeN k < lowN p b k
    · rw [u c]
      by_cases e : i = k
      · subst e; exact Nat.le_refl _
      · exact Nat.le_trans (Nat.le_of_lt c.2) (ih (by omega))
    · rw [v c]
      by_cases e : i = k
      · subst e
        exact Nat.le_of_not_lt fun h2 => c ⟨h, h2⟩
      · exact ih (by omega)
theorem low_at (p : Nat → Bool) (b k : Nat) : lowN p b k = b ∨ ∃ i, i < k ∧ p i = true ∧ sizeN i = lowN p b k := by
  induction k with
  | zero => exact .inl rfl
  | succ k ih =>
    obtain ⟨u, v⟩ := low_step p b k
    by_cases c : p k = true ∧ sizeN k < lowN p b k
    · exact .inr ⟨k, by omega, c.1, (u c).symm⟩
    · rw [v c]
      rcases ih with e | ⟨i, h1, h2, h3⟩
      · exact .inl e
      · exact .inr ⟨i, by omega, h2, h3⟩
theorem low_le (p : Nat → Bool) (b k : Nat) : lowN p b k ≤ b := by
  induction k with
  | zero => exact Nat.le_refl _
  | succ k ih =>
    obtain ⟨u, v⟩ := low_step p b k
    by_cases c : p k = true ∧ sizeN k < lowN p b k
    · rw [u c]; omega
    · rw [v c]; exact ih
theorem low_eq (p : Nat → Bool) (b k m : Nat) (hb : m ≤ b) (h : ∀ i, i < k → p i = true → m ≤ sizeN i) (h2 : m = b ∨ ∃ i, i < k ∧ p i = true ∧ sizeN i = m) : lowN p b k = m := by
  refine Nat.le_antisymm ?_ ?_
  · rcases h2 with e | ⟨i, h1, h2, h3⟩
    · rw [e]; exact low_le p b k
    · rw [← h3]; exact low_lb p b k i h1 h2
  · rcases low_at p b k with e | ⟨i, h1, h2, h3⟩
    · rw [e]; exact hb
    · rw [← h3]; exact h i h1 h2
theorem cnt_le (p : Nat → Bool) (k : Nat) : cntP p k ≤ k := by
  induction k with
  | zero => exact Nat.le_refl _
  | succ k ih =>
    rw [cnt_step]
    split <;> omega
theorem top_le (p : Nat → Bool) (k n : Nat) (h2 : n ≤ 12) (hk : k ≤ 2 ^ n) : topN p k ≤ n := by
  rcases top_at p k with e | ⟨i, h1, _, h3⟩
  · rw [e]; exact Nat.zero_le _
  · rw [← h3]; exact sizeN_le n i h2 (Nat.lt_of_lt_of_le h1 hk)
def mostF (n s : Nat) : Nat := topN (fsetN n s) (2 ^ n)
def manyF (n s : Nat) : Nat := cntP (fsetN n s) (2 ^ n)
def fullF (n s : Nat) : Nat := mostF n (otherN n (bothN n s))
def watchF (n s : Nat) : Nat := lowN (wideN n s) n (2 ^ n)
def sumlF (n : Nat) : Nat := topN (sumlN n) (2 ^ n)
/-- Whether a set is neat. -/
def neatN (n s x : Nat) : Bool := Nat.beq (sizeN x * sizeN (s ||| 1)) n && wideN n s x
/-- The neat ones among the first k sets, in order. -/
def neatL (n s : Nat) : Nat → List Int
  | 0 => []
  | i + 1 => if neatN n s i then neatL n s i ++ [(i : Int)] else neatL n s i
theorem neat_len (n s k : Nat) : (neatL n s k).length ≤ k := by
  induction k with
  | zero => exact Nat.le_refl _
  | succ k ih =>
    have e : neatL n s (k + 1) = if neatN n s k then neatL n s k ++ [(k : Int)] else neatL n s k := rfl
    rw [e]
    split
    · rw [List.length_append, List.length_singleton]; omega
    · omega
theorem sum_empty (n s : Nat) : sumN n s 0 = 0 := by
  show overSet 0 (sumS n s) n 0 = 0
  have : ∀ k, overSet 0 (sumS n s) k 0 = 0 := fun k => by
    induction k with
    | zero => rfl
    | succ k ih =>
      show (if (0 : Nat).testBit k then _ else overSet 0 (sumS n s) k 0) = 0
      rw [Nat.zero_testBit]
      exact ih
  exact this n
theorem wide_zero (n s : Nat) (h1 : 1 ≤ n) : wideN n s 0 = false := by
  have h : 2 ≤ 2 ^ n := by have := Nat.pow_le_pow_right (n := 2) (by omega) h1; simpa using this
  unfold wideN
  rw [sum_empty]
  cases hb : Nat.beq 0 (2 ^ n - 1)
  · rfl
  · have := Nat.eq_of_beq_eq_true hb
    omega
theorem watch_one (n s : Nat) (h1 : 1 ≤ n) : lowN (wideN n s) n 1 = n := (low_step (wideN n s) n 0).2 (fun h => by rw [wide_zero n s h1] at h; exact Bool.noConfusion h.1)
theorem neat_one (n s : Nat) (h1 : 1 ≤ n) : neatL n s 1 = [] := by
  show (if neatN n s 0 then _ else neatL n s 0) = []
  unfold neatN
  rw [wide_zero n s h1, Bool.and_false]
  rfl
end Go.Proofs.Ytfjcdcjhdjkjaaa

/- Free sets: the model's functions that try all sets. -/
namespace Go.Proofs.Ytfjcdcjhdjkjaaa
open Go.RowKit Go.Shelf
set_option linter.unusedVariables false
theorem l6fFree_any (n s x : Nat) (w : World) (h1 : 1 ≤ n) (h2 : n ≤ 12) (hs : s < 2 ^ n) (hx : x < 2 ^ n) :
    Calls Try.prog 51 #[.int .i64 (n:Int), .int .i64 (s:Int), .int .i64 (x:Int)] w fun e w' => e = .returned (.bool (fsetN n s x)) ∧ w = w' := by
  have hp := pow_le n h2
  have HS := Lib.hid (l1Sum_any n x s w h1 h2 hx hs)
  have hsl := sumN_lt n s x
  have HA := and_nat (sumN n s x) x (by omega) (by omega)
  have HF : Hid (fsetN n s x = Nat.beq (sumN n s x &&& x) 0) := Lib.hid rfl
  generalize sumN n s x &&& x = q at *
  generalize sumN n s x = y at *
  by_cases h : q = 0
  · have e1 : ((q : Int) == 0) = true := by simp [h]
    have HF2 := Lib.hid (show fsetN n s x = true by rw [HF.out, h]; rfl)
    clear HF h
    go_enter Try.func51, Try.ntmps51
    go_wp2_with (go_at_call 65; refine HS.out.mono ?_; rintro e w' ⟨rfl, rfl⟩)
    go_ret
    exact ⟨ret_bool HF2.out.symm, rfl⟩
  · have e1 : ((q : Int) == 0) = false := by simp; omega
    have HF2 := Lib.hid (show fsetN n s x = false by
      rw [HF.out]
      cases hb : Nat.beq q 0
      · rfl
      · exact absurd (Nat.eq_of_beq_eq_true hb) h)
    clear HF h
    go_enter Try.func51, Try.ntmps51
    go_wp2_with (go_at_call 65; refine HS.out.mono ?_; rintro e w' ⟨rfl, rfl⟩)
    go_ret
    exact ⟨ret_bool HF2.out.symm, rfl⟩
theorem l6fMost_any (n s : Nat) (w : World) (h1 : 1 ≤ n) (h2 : n ≤ 12) (hs : s < 2 ^ n) :
    Calls Try.prog 47 #[.int .i64 (n:Int), .int .i64 (s:Int)] w fun e w' => e = .returned (.int .i64 ((mostF n s : Nat) : Int)) ∧ w = w' := by
  have hp := pow_le n h2
  have HSz := Lib.hid (fun (x : Nat) (hx : x < 2 ^ n) W => l1Size_any x W (by omega))
  have HFr := Lib.hid (fun (x : Nat) (hx : x < 2 ^ n) W => l6fFree_any n s x W h1 h2 hs hx)
  have hwp := wrap_pow n (by omega)
  have HE : Hid (topN (fsetN n s) (2 ^ n) = mostF n s) := Lib.hid rfl
  have HSt := Lib.hid (fun i => top_step (fsetN n s) i)
  obtain ⟨N, hN⟩ : ∃ N, 2 ^ n = N := ⟨_, rfl⟩
  rw [hN] at hp HSz HFr hwp HE
  have HL := Lib.hid (fun k (hk : k ≤ N) => top_le (fsetN n s) k n h2 (by omega))
  have hwi : IntKind.i64.wrap (2 ^ n) = (N : Int) := by rw [IntWalk.i64_left]; exact hwp
  clear hN hs
  go_enter Try.func47, Try.ntmps47
  go_wp2
  go_loop [5, 6] (fun u v => ∃ i : Nat, i ≤ N ∧ u = .int .i64 ((topN (fsetN n s) i : Nat) : Int) ∧ v = .int .i64 (i : Int)) (fun _ v => N - (intOf v).toNat)
  case atStart => exact ⟨0, Nat.zero_le _, rfl, rfl⟩
  case round =>
    obtain ⟨i, hi, rfl, rfl⟩ := hrel
    by_cases hlt : i < N
    · have HSi := Lib.hid (HSt.out i)
      have hm := HL.out i hi
      have HSz1 := Lib.hid (HSz.out i hlt)
      have HFr1 := Lib.hid (HFr.out i hlt)
      have HT : Hid (∀ M, topN (fsetN n s) (i + 1) = M → M = topN (fsetN n s) (i + 1)) := Lib.hid (fun M h => h.symm)
      generalize topN (fsetN n s) i = m at *
      generalize sizeN i = z at *
      by_cases hz : m < z
      · have k1 : (m : Int) < (z : Int) := by omega
        have k2 := decide_eq_true k1
        cases hf : fsetN n s i
        · rw [hf] at HFr1
          have HT2 := Lib.hid (HT.out _ (HSi.out.2 (fun h => by rw [hf] at h; cases h.1)))
          clear HSi HT hf hz
          go_wp2_with (first
            | (go_at_call 64; refine (HSz1.out _).mono ?_; rintro e w' ⟨rfl, rfl⟩)
            | (go_at_call 51; refine (HFr1.out _).mono ?_; rintro e w' ⟨rfl, rfl⟩))
          go_round
          case rel => exact ⟨i + 1, by omega, by rw [← HT2.out], by go_num⟩
          case measure => simp [intOf]; omega
        · rw [hf] at HFr1
          have HT2 := Lib.hid (HT.out _ (HSi.out.1 ⟨hf, hz⟩))
          clear HSi HT hf hz
          go_wp2_with (first
            | (go_at_call 64; refine (HSz1.out _).mono ?_; rintro e w' ⟨rfl, rfl⟩)
            | (go_at_call 51; refine (HFr1.out _).mono ?_; rintro e w' ⟨rfl, rfl⟩))
          go_round
          case rel => exact ⟨i + 1, by omega, by rw [← HT2.out], by go_num⟩
          case measure => simp [intOf]; omega
      · have k1 : ¬ (m : Int) < (z : Int) := by omega
        have k2 := decide_eq_false k1
        have HT2 := Lib.hid (HT.out _ (HSi.out.2 (fun h => hz h.2)))
        clear HSi HT hz
        go_wp2_with (go_at_call 64; refine (HSz1.out _).mono ?_; rintro e w' ⟨rfl, rfl⟩)
        go_round
        case rel => exact ⟨i + 1, by omega, by rw [← HT2.out], by go_num⟩
        case measure => simp [intOf]; omega
    · obtain rfl : i = N := by omega
      go_wp2
      go_ret
      exact ⟨ret_int (by rw [HE.out]), rfl⟩
theorem specFreeMany_yes (n s : Nat) (w : World) (h1 : 1 ≤ n) (h2 : n ≤ 12) (hs : s < 2 ^ n) (h0 : s.testBit 0 = false) :
    Calls Try.prog 18 #[.int .i64 (n:Int), .int .i64 (s:Int)] w fun e w' => e = .returned (.tuple #[.int .i64 ((manyF n s : Nat) : Int), .bool true]) ∧ w = w' := by
  have hp := pow_le n h2
  have HI := Lib.hid (specStep_yes n s w h1 h2 hs h0)
  have HFr := Lib.hid (fun (x : Nat) (hx : x < 2 ^ n) W => l6fFree_any n s x W h1 h2 hs hx)
  have hwp := wrap_pow n (by omega)
  have HE : Hid (cntP (fsetN n s) (2 ^ n) = manyF n s) := Lib.hid rfl
  have HSt := Lib.hid (fun i => cnt_step (fsetN n s) i)
  have HL := Lib.hid (fun k => cnt_le (fsetN n s) k)
  obtain ⟨N, hN⟩ : ∃ N, 2 ^ n = N := ⟨_, rfl⟩
  rw [hN] at hp HFr hwp HE
  have hwi : IntKind.i64.wrap (2 ^ n) = (N : Int) := by rw [IntWalk.i64_left]; exact hwp
  clear hN hs h0
  go_enter Try.func18, Try.ntmps18
  go_wp2_with (go_at_call 46; refine HI.out.mono ?_; rintro e w' ⟨rfl, rfl⟩)
  go_loop [6, 7] (fun u v => ∃ i : Nat, i ≤ N ∧ u = .int .i64 ((cntP (fsetN n s) i : Nat) : Int) ∧ v = .int .i64 (i : Int)) (fun _ v => N - (intOf v).toNat)
  case atStart => exact ⟨0, Nat.zero_le _, rfl, rfl⟩
  case round =>
    obtain ⟨i, hi, rfl, rfl⟩ := hrel
    by_cases hlt : i < N
    · have HSi := Lib.hid (HSt.out i)
      have hm := HL.out i
      have HFr1 := Lib.hid (HFr.out i hlt)
      generalize cntP (fsetN n s) i = m at *
      cases hf : fsetN n s i
      · rw [hf] at HFr1 HSi
        have HT2 : Hid (cntP (fsetN n s) (i + 1) = m) := HSi
        clear HSi hf
        go_wp2_with (go_at_call 51; refine (HFr1.out _).mono ?_; rintro e w' ⟨rfl, rfl⟩)
        go_round
        case rel => exact ⟨i + 1, by omega, by rw [HT2.out], by go_num⟩
        case measure => simp [intOf]; omega
      · rw [hf] at HFr1 HSi
        have HT2 : Hid (cntP (fsetN n s) (i + 1) = m + 1) := HSi
        clear HSi hf
        go_wp2_with (go_at_call 51; refine (HFr1.out _).mono ?_; rintro e w' ⟨rfl, rfl⟩)
        go_round
        case rel => exact ⟨i + 1, by omega, by rw [HT2.out]; go_num, by go_num⟩
        case measure => simp [intOf]; omega
    · obtain rfl : i = N := by omega
      go_wp2
      go_ret2
      exact ⟨by rw [HE.out]; rfl, rfl⟩
theorem specFreeMany_no (n s : Int) (w : World) (h : NoStep n s) :
    Calls Try.prog 18 #[.int .i64 n, .int .i64 s] w fun e w' => e = .returned (.tuple #[.int .i64 0, .bool false]) ∧ w = w' := by
  have HI := Lib.hid (specStep_no n s w h)
  clear h
  go_enter Try.func18, Try.ntmps18
  go_wp2_with (go_at_call 46; refine HI.out.mono ?_; rintro e w' ⟨rfl, rfl⟩)
  go_ret2
  exact ⟨rfl, rfl⟩
theorem specFreeMost_no (n s : Int) (w : World) (h : NoStep n s) :
    Calls Try.prog 13 #[.int .i64 n, .int .i64 s] w fun e w' => e = .returned (.tuple #[.int .i64 0, .bool false]) ∧ w = w' := by
  have HI := Lib.hid (specStep_no n s w h)
  clear h
  go_enter Try.func13, Try.ntmps13
  go_wp2_with (go_at_call 46; refine HI.out.mono ?_; rintro e w' ⟨rfl, rfl⟩)
  go_ret2
  exact ⟨rfl, rfl⟩
theorem specFreeMost_yes (n s : Nat) (w : World) (h1 : 1 ≤ n) (h2 : n ≤ 12) (hs : s < 2 ^ n) (h0 : s.testBit 0 = false) :
    Calls Try.prog 13 #[.int .i64 (n:Int), .int .i64 (s:Int)] w fun e w' => e = .returned (.tuple #[.int .i64 ((mostF n s : Nat) : Int), .bool true]) ∧ w = w' := by
  have HI := Lib.hid (specStep_yes n s w h1 h2 hs h0)
  have HM := Lib.hid (l6fMost_any n s w h1 h2 hs)
  clear h0 hs
  go_enter Try.func13, Try.ntmps13
  go_wp2_with (first
    | (go_at_call 46; refine HI.out.mono ?_; rintro e w' ⟨rfl, rfl⟩)
    | (go_at_call 47; refine HM.out.mono ?_; rintro e w' ⟨rfl, rfl⟩))
  go_ret2
  exact ⟨rfl, rfl⟩
theorem specFreeFull_no (n s : Int) (w : World) (h : NoStep n s) :
    Calls Try.prog 20 #[.int .i64 n, .int .i64 s] w fun e w' => e = .returned (.tuple #[.int .i64 0, .bool false]) ∧ w = w' := by
  have HI := Lib.hid (specStep_no n s w h)
  clear h
  go_enter Try.func20, Try.ntmps20
  go_wp2_with (go_at_call 46; refine HI.out.mono ?_; rintro e w' ⟨rfl, rfl⟩)
  go_ret2
  exact ⟨rfl, rfl⟩
theorem specFreeFull_yes (n s : Nat) (w : World) (h1 : 1 ≤ n) (h2 : n ≤ 12) (hs : s < 2 ^ n) (h0 : s.testBit 0 = false) :
    Calls Try.prog 20 #[.int .i64 (n:Int), .int .i64 (s:Int)] w fun e w' => e = .returned (.tuple #[.int .i64 ((fullF n s : Nat) : Int), .bool true]) ∧ Below w.heap.size w w' := by
  have hmx : Try.prog.follows .mixedOrders = true := by kernel_rfl
  have hp := pow_le n h2
  have HI := Lib.hid (specStep_yes n s w h1 h2 hs h0)
  have HB := Lib.hid (fun W => l2Both_any n s W h1 h2 hs)
  have hbl := bothN_lt n s h1 hs
  have HM := Lib.hid (fun W => l6fMost_any n (otherN n (bothN n s)) W h1 h2 (otherN_lt n _))
  have hpw := pow2_nat n h1 h2
  have hp1 := Nat.two_pow_pos n
  have HL := less_nat (2 ^ n - 2) (bothN n s) (by omega) (by omega)
  rw [other_spec n (bothN n s) h1] at HL
  have HF : Hid (mostF n (otherN n (bothN n s)) = fullF n s) := Lib.hid rfl
  generalize otherN n (bothN n s) = o at *
  generalize bothN n s = b at *
  have hpw2 : IntKind.i64.wrap (IntKind.i64.wrap (2 ^ n) - 2) = ((2 ^ n - 2 : Nat) : Int) := by rw [IntWalk.i64_left, IntWalk.i64_left]; exact hpw
  clear h0 hs
  go_enter Try.func20, Try.ntmps20
  go_wp2_with (go_at_call 46; refine HI.out.mono ?_; rintro e w' ⟨rfl, rfl⟩)
  refine wp_region_held_drew (S := fun _ => True) hmx trivial (fun _ => ?_)
  have B0 : Below w.heap.size w w.drew := (Below.refl _ _).drew
  generalize w.drew = W3 at *
  refine take1 0 (v := ?_) rfl (by kernel_rfl) (by kernel_rfl) (by kernel_rfl) (fun _ _ _ h => h) (by rfl) ?_ trivial ?_
  rotate_left
  · intro W9 hA
    clear hA
    go_simp
    try with_reducible rfl
  try simp only [Act.put, List.setIfInBounds_toArray, List.set_cons_zero, List.set_cons_succ]
  refine take1 1 (v := ?_) rfl (by kernel_rfl) (by kernel_rfl) (by kernel_rfl) (fun _ _ _ h => h) (by rfl) ?_ trivial ?_
  rotate_left
  · intro W9 hA
    clear hA
    go_simp
    try with_reducible rfl
  try simp only [Act.put, List.setIfInBounds_toArray, List.set_cons_zero, List.set_cons_succ]
  refine take1 2 (v := ?_) rfl (by kernel_rfl) (by kernel_rfl) (by kernel_rfl) (fun _ _ _ h => h) (by rfl) ?_ trivial ?_
  rotate_left
  · intro W9 hA
    clear hA
    go_simp
    try with_reducible rfl
  try simp only [Act.put, List.setIfInBounds_toArray, List.set_cons_zero, List.set_cons_succ]
  refine take1 3 (v := ?_) rfl (by kernel_rfl) (by kernel_rfl) (by kernel_rfl) (fun _ _ _ h => h) (by rfl) ?_ trivial ?_
  rotate_left
  · intro W9 hA
    clear hA
    go_simp
    try with_reducible rfl
  try simp only [Act.put, List.setIfInBounds_toArray, List.set_cons_zero, List.set_cons_succ]
  refine take1 4 (v := ?_) rfl (by kernel_rfl) (by kernel_rfl) (by kernel_rfl) (fun _ _ _ h => h) (by rfl) ?_ trivial ?_
  rotate_left
  · intro W9 hA
    clear hA
    go_simp
    try with_reducible rfl
  try simp only [Act.put, List.setIfInBounds_toArray, List.set_cons_zero, List.set_cons_succ]
  refine take1 5 (v := ?_) rfl (by kernel_rfl) (by kernel_rfl) (by kernel_rfl) (fun _ _ _ h => h) (by rfl) ?_ trivial ?_
  rotate_left
  · intro W9 hA
    clear hA
    go_simp
    try with_reducible rfl
  try simp only [Act.put, List.setIfInBounds_toArray, List.set_cons_zero, List.set_cons_succ]
  refine step1 6 (by kernel_rfl) rfl (fun K hK => ?_)
  go_simp
  refine (HB.out _).mono ?_
  rintro e W5 ⟨rfl, rfl⟩
  go_wp2_with fail
  refine hK.out _ _ trivial ?_
  clear hK K
  try simp only [Act.put, List.setIfInBounds_toArray, List.set_cons_zero, List.set_cons_succ]
  refine take1 7 (v := ?_) rfl (by kernel_rfl) (by kernel_rfl) (by kernel_rfl) (fun _ _ _ h => h) (by rfl) ?_ trivial ?_
  rotate_left
  · intro W9 hA
    clear hA
    go_simp
    try with_reducible rfl
  try simp only [Act.put, List.setIfInBounds_toArray, List.set_cons_zero, List.set_cons_succ]
  refine step1 8 (by kernel_rfl) rfl (fun K hK => ?_)
  go_simp
  refine (HM.out _).mono ?_
  rintro e W5 ⟨rfl, rfl⟩
  go_wp2_with fail
  refine hK.out _ _ trivial ?_
  clear hK K
  try simp only [Act.put, List.setIfInBounds_toArray, List.set_cons_zero, List.set_cons_succ]
  refine take1 9 (v := ?_) rfl (by kernel_rfl) (by kernel_rfl) (by kernel_rfl) (fun _ _ _ h => h) (by rfl) ?_ trivial ?_
  rotate_left
  · intro W9 hA
    clear hA
    go_simp
    try with_reducible rfl
  try simp only [Act.put, List.setIfInBounds_toArray, List.set_cons_zero, List.set_cons_succ]
  refine take1 10 (v := ?_) rfl (by kernel_rfl) (by kernel_rfl) (by kernel_rfl) (fun _ _ _ h => h) (by rfl) ?_ trivial ?_
  rotate_left
  · intro W9 hA
    clear hA
    go_simp
    try with_reducible rfl
  try simp only [Act.put, List.setIfInBounds_toArray, List.set_cons_zero, List.set_cons_succ]
  refine stop1 (by kernel_rfl) ?_
  go_wp2
  go_ret2
  exact ⟨by rw [HF.out]; rfl, B0⟩
theorem specFreeWatch_no (n s : Int) (w : World) (h : NoStep n s) :
    Calls Try.prog 32 #[.int .i64 n, .int .i64 s] w fun e w' => e = .returned (.tuple #[.int .i64 0, .bool false]) ∧ w = w' := by
  have HI := Lib.hid (specStep_no n s w h)
  clear h
  go_enter Try.func32, Try.ntmps32
  go_wp2_with (go_at_call 46; refine HI.out.mono ?_; rintro e w' ⟨rfl, rfl⟩)
  go_ret2
  exact ⟨rfl, rfl⟩
theorem specFreeNeat_no (n s : Int) (w : World) (h : NoStep n s) :
    Calls Try.prog 35 #[.int .i64 n, .int .i64 s] w (ListRes w [] false) := by
  have HI := Lib.hid (fun W => specStep_no n s W h)
  clear h
  go_enter Try.func35, Try.ntmps35
  go_wp2_with (go_at_call 46; refine (HI.out _).mono ?_; rintro e w' ⟨rfl, rfl⟩)
  go_ret2
  exact ⟨_, rfl, (Below.refl _ _).alloc (Nat.le_refl _) _, World.ownsRow_made w #[] 0 (Nat.le_refl _) (by simp [maxLen]) rfl⟩
theorem specFreeSumless_no (n : Int) (w : World) (h : ¬ (1 ≤ n ∧ n ≤ 12)) :
    Calls Try.prog 41 #[.int .i64 n] w fun e w' => e = .returned (.tuple #[.int .i64 0, .bool false]) ∧ w = w' := by
  have HI := Lib.hid (specIn_no n 0 w (fun hh => h ⟨hh.1, hh.2.1⟩))
  clear h
  go_enter Try.func41, Try.ntmps41
  go_wp2_with (go_at_call 73; refine HI.out.mono ?_; rintro e w' ⟨rfl, rfl⟩)
  go_ret2
  exact ⟨rfl, rfl⟩
end Go.Proofs.Ytfjcdcjhdjkjaaa

/- Free sets: the model's watching, neat and sumless sets. -/
namespace Go.Proofs.Ytfjcdcjhdjkjaaa
open Go.RowKit Go.Shelf
set_option linter.unusedVariables false
theorem or_one_nat (s : Nat) (hs : s < 2 ^ 40) : bits .or .i64 (s : Int) 1 = ((s ||| 1 : Nat) : Int) := or_nat s 1 (by omega) (by omega)
theorem or_one_lt (n s : Nat) (h1 : 1 ≤ n) (hs : s < 2 ^ n) : s ||| 1 < 2 ^ n := Nat.or_lt_two_pow hs (by have := Nat.pow_le_pow_right (n := 2) (by omega) h1; omega)
theorem all_cast (N : Nat) (h1 : 1 ≤ N) (h : N ≤ 4096) : IntKind.i64.wrap ((N : Int) - 1) = ((N - 1 : Nat) : Int) ∧ wrap64 ((N : Int) - 1) = ((N - 1 : Nat) : Int) := by
  rw [show (N : Int) - 1 = ((N - 1 : Nat) : Int) by omega]
  exact ⟨IntWalk.i64_in _ ⟨by omega, by omega⟩, IntWalk.wrap64_in _ ⟨by omega, by omega⟩⟩
theorem beq_cast_ne {a b : Nat} (h : a ≠ b) : ((a : Int) == (b : Int)) = false := by
  cases hb : ((a : Int) == (b : Int))
  · rfl
  · exact absurd (Int.ofNat.inj (eq_of_beq hb)) h
theorem wide_eq (n s x : Nat) : wideN n s x = true ↔ sumN n (s ||| 1) x = 2 ^ n - 1 := by
  unfold wideN
  exact ⟨Nat.eq_of_beq_eq_true, fun h => by rw [h]; exact Nat.beq_refl _⟩
theorem specFreeWatch_yes (n s : Nat) (w : World) (h1 : 1 ≤ n) (h2 : n ≤ 12) (hs : s < 2 ^ n) (h0 : s.testBit 0 = false) :
    Calls Try.prog 32 #[.int .i64 (n:Int), .int .i64 (s:Int)] w fun e w' => e = .returned (.tuple #[.int .i64 ((watchF n s : Nat) : Int), .bool true]) ∧ Below w.heap.size w w' := by
  have hp := pow_le n h2
  have hp1 := Nat.two_pow_pos n
  have HI := Lib.hid (specStep_yes n s w h1 h2 hs h0)
  have HSz := Lib.hid (fun (x : Nat) (hx : x < 2 ^ n) W => l1Size_any x W (by omega))
  have HSu := Lib.hid (fun (x : Nat) (hx : x < 2 ^ n) W => l1Sum_any n x (s ||| 1) W h1 h2 hx (or_one_lt n s h1 hs))
  have ho := or_one_nat s (by omega)
  have hwp := wrap_pow n (by omega)
  have HE : Hid (lowN (wideN n s) n (2 ^ n) = watchF n s) := Lib.hid rfl
  have HSt := Lib.hid (fun i => low_step (wideN n s) n i)
  have HL := Lib.hid (fun k => low_le (wideN n s) n k)
  have HWi := Lib.hid (fun i => wide_eq n s i)
  have HOne := Lib.hid (watch_one n s h1)
  have HSl := Lib.hid (fun x => sumN_lt n (s ||| 1) x)
  obtain ⟨N, hN⟩ : ∃ N, 2 ^ n = N := ⟨_, rfl⟩
  rw [hN] at hp hp1 HSz HSu hwp HE HWi HSl
  have hwi : IntKind.i64.wrap (2 ^ n) = (N : Int) := by rw [IntWalk.i64_left]; exact hwp
  obtain ⟨m1, m2⟩ := all_cast N (by omega) hp
  clear hN hs h0
  go_enter Try.func32, Try.ntmps32
  go_wp2_with (go_at_call 46; refine HI.out.mono ?_; rintro e w' ⟨rfl, rfl⟩)
  --GEN39
  go_loopw [6, 7] (fun u v wr => ∃ i : Nat, 1 ≤ i ∧ i ≤ N ∧ u = .int .i64 ((lowN (wideN n s) n i : Nat) : Int) ∧ v = .int .i64 (i : Int) ∧ Below w.heap.size w wr) (fun _ v _ => N - (intOf v).toNat)
  case atStart => exact ⟨1, Nat.le_refl _, hp1, by rw [HOne.out], rfl, Below.refl _ _⟩
  case round =>
    obtain ⟨i, hi1, hi, rfl, rfl, hB⟩ := hrel
    by_cases hlt : i < N
    · have HSi := Lib.hid (HSt.out i)
      have hm := HL.out i
      have HSz1 := Lib.hid (HSz.out i hlt)
      have HSu1 := Lib.hid (HSu.out i hlt)
      have HW1 := Lib.hid (HWi.out i)
      have hsl := HSl.out i
      have HT : Hid (∀ M, lowN (wideN n s) n (i + 1) = M → M = lowN (wideN n s) n (i + 1)) := Lib.hid (fun M h => h.symm)
      generalize lowN (wideN n s) n i = m at *
      generalize sizeN i = z at *
      generalize sumN n (s ||| 1) i = y at *
      by_cases hz : z < m
      · have k1 : (z : Int) < (m : Int) := by omega
        have k2 := decide_eq_true k1
        have k3 : decide (z < m) = true := decide_eq_true hz
        by_cases hy : y = N - 1
        · have HT2 := Lib.hid (HT.out _ (HSi.out.1 ⟨HW1.out.2 hy, hz⟩))
          have e1 : ((y : Int) == ((N - 1 : Nat) : Int)) = true := by simp [hy]
          clear HSi HT HW1 hz hy
          go_wp2
          refine wp_region_quiet_lit (by kernel_rfl) (by kernel_rfl) ?_
          repeat (go_big_quiet_step (fail))
          go_big_quiet_want
          go_big_quiet_op
          apply Exists.intro
          refine ⟨fun _ => ?_, ?_⟩
          · go_at_call 64
            exact Calls.quiet_of_same ((HSz1.out _).mono fun _ _ h => ⟨h.1, h.2.symm⟩)
          go_big_quiet_on
          repeat (go_big_quiet_step (fail))
          go_big_quiet_want
          go_big_quiet_op
          apply Exists.intro
          refine ⟨fun _ => ?_, ?_⟩
          · go_at_call 65
            exact Calls.quiet_of_same ((HSu1.out _).mono fun _ _ h => ⟨h.1, h.2.symm⟩)
          go_big_quiet_on
          repeat (go_big_quiet_step (fail))
          refine wpQuiet_nil ?_
          intro _ hw'
          obtain ⟨nq, hw''⟩ := hw'
          subst hw''
          go_wp2_with (go_at_call 64; refine (HSz1.out _).mono ?_; rintro e w' ⟨rfl, rfl⟩)
          go_roundw
          case rel => exact ⟨i + 1, by omega, by omega, by rw [← HT2.out], by go_num, below_drewN hB _⟩
          case measure => simp [intOf]; omega
        · have HT2 := Lib.hid (HT.out _ (HSi.out.2 (fun h => hy (HW1.out.1 h.1))))
          have e1 : ((y : Int) == ((N - 1 : Nat) : Int)) = false := by simp; omega
          clear HSi HT HW1 hz hy
          go_wp2
          refine wp_region_quiet_lit (by kernel_rfl) (by kernel_rfl) ?_
          repeat (go_big_quiet_step (fail))
          go_big_quiet_want
          go_big_quiet_op
          apply Exists.intro
          refine ⟨fun _ => ?_, ?_⟩
          · go_at_call 64
            exact Calls.quiet_of_same ((HSz1.out _).mono fun _ _ h => ⟨h.1, h.2.symm⟩)
          go_big_quiet_on
          repeat (go_big_quiet_step (fail))
          go_big_quiet_want
          go_big_quiet_op
          apply Exists.intro
          refine ⟨fun _ => ?_, ?_⟩
          · go_at_call 65
            exact Calls.quiet_of_same ((HSu1.out _).mono fun _ _ h => ⟨h.1, h.2.symm⟩)
          go_big_quiet_on
          repeat (go_big_quiet_step (fail))
          refine wpQuiet_nil ?_
          intro _ hw'
          obtain ⟨nq, hw''⟩ := hw'
          subst hw''
          go_wp2
          go_roundw
          case rel => exact ⟨i + 1, by omega, by omega, by rw [← HT2.out], by go_num, below_drewN hB _⟩
          case measure => simp [intOf]; omega
      · have k1 : ¬ (z : Int) < (m : Int) := by omega
        have k2 := decide_eq_false k1
        have k3 : decide (z < m) = false := decide_eq_false hz
        have HT2 := Lib.hid (HT.out _ (HSi.out.2 (fun h => hz h.2)))
        clear HSi HT HW1 hz
        go_wp2
        refine wp_region_quiet_lit (by kernel_rfl) (by kernel_rfl) ?_
        repeat (go_big_quiet_step (fail))
        go_big_quiet_want
        go_big_quiet_op
        apply Exists.intro
        refine ⟨fun _ => ?_, ?_⟩
        · go_at_call 64
          exact Calls.quiet_of_same ((HSz1.out _).mono fun _ _ h => ⟨h.1, h.2.symm⟩)
        go_big_quiet_on
        repeat (go_big_quiet_step (fail))
        refine wpQuiet_nil ?_
        intro _ hw'
        obtain ⟨nq, hw''⟩ := hw'
        subst hw''
        go_wp2
        go_roundw
        case rel => exact ⟨i + 1, by omega, by omega, by rw [← HT2.out], by go_num, below_drewN hB _⟩
        case measure => simp [intOf]; omega
    · obtain rfl : i = N := by omega
      go_wp2
      go_ret2
      exact ⟨by rw [HE.out]; rfl, hB⟩
theorem specFreeSumless_yes (n : Nat) (w : World) (h1 : 1 ≤ n) (h2 : n ≤ 12) :
    Calls Try.prog 41 #[.int .i64 (n:Int)] w fun e w' => e = .returned (.tuple #[.int .i64 ((sumlF n : Nat) : Int), .bool true]) ∧ w = w' := by
  have hp := pow_le n h2
  have HI := Lib.hid (specIn_yes n 0 w h1 h2 (Nat.two_pow_pos n))
  have HSz := Lib.hid (fun (x : Nat) (hx : x < 2 ^ n) W => l1Size_any x W (by omega))
  have HSu := Lib.hid (fun (x : Nat) (hx : x < 2 ^ n) W => l1Sum_any n x x W h1 h2 hx hx)
  have HAn := Lib.hid (fun (x : Nat) (hx : x < 2 ^ n) => and_nat (sumN n x x) x (by have := sumN_lt n x x; omega) (by omega))
  have hwp := wrap_pow n (by omega)
  have HE : Hid (topN (sumlN n) (2 ^ n) = sumlF n) := Lib.hid rfl
  have HSt := Lib.hid (fun i => top_step (sumlN n) i)
  have HQ : Hid (∀ i, sumlN n i = Nat.beq (sumN n i i &&& i) 0) := Lib.hid (fun i => rfl)
  obtain ⟨N, hN⟩ : ∃ N, 2 ^ n = N := ⟨_, rfl⟩
  rw [hN] at hp HSz HSu HAn hwp HE
  have HL := Lib.hid (fun k (hk : k ≤ N) => top_le (sumlN n) k n h2 (by omega))
  have hwi : IntKind.i64.wrap (2 ^ n) = (N : Int) := by rw [IntWalk.i64_left]; exact hwp
  clear hN
  go_enter Try.func41, Try.ntmps41
  go_wp2_with (go_at_call 73; refine HI.out.mono ?_; rintro e w' ⟨rfl, rfl⟩)
  --GEN39
  go_loop [4, 5] (fun u v => ∃ i : Nat, i ≤ N ∧ u = .int .i64 ((topN (sumlN n) i : Nat) : Int) ∧ v = .int .i64 (i : Int)) (fun _ v => N - (intOf v).toNat)
  case atStart => exact ⟨0, Nat.zero_le _, rfl, rfl⟩
  case round =>
    obtain ⟨i, hi, rfl, rfl⟩ := hrel
    by_cases hlt : i < N
    · have HSi := Lib.hid (HSt.out i)
      have hm := HL.out i hi
      have HSz1 := Lib.hid (HSz.out i hlt)
      have HSu1 := Lib.hid (HSu.out i hlt)
      have han := HAn.out i hlt
      have HQ1 := Lib.hid (HQ.out i)
      have HT : Hid (∀ M, topN (sumlN n) (i + 1) = M → M = topN (sumlN n) (i + 1)) := Lib.hid (fun M h => h.symm)
      generalize topN (sumlN n) i = m at *
      generalize sizeN i = z at *
      generalize sumN n i i &&& i = q at *
      generalize sumN n i i = y at *
      by_cases hz : m < z
      · have k1 : (m : Int) < (z : Int) := by omega
        have k2 := decide_eq_true k1
        by_cases hq : q = 0
        · have HT2 := Lib.hid (HT.out _ (HSi.out.1 ⟨by rw [HQ1.out, hq]; rfl, hz⟩))
          have e1 : ((q : Int) == 0) = true := by simp [hq]
          clear HSi HT HQ1 hz hq
          go_wp2_with (first | (go_at_call 64; refine (HSz1.out _).mono ?_; rintro e w' ⟨rfl, rfl⟩) | (go_at_call 65; refine (HSu1.out _).mono ?_; rintro e w' ⟨rfl, rfl⟩))
          go_round
          case rel => exact ⟨i + 1, by omega, by rw [← HT2.out], by go_num⟩
          case measure => simp [intOf]; omega
        · have HT2 := Lib.hid (HT.out _ (HSi.out.2 (fun h => by
            rw [HQ1.out] at h
            exact hq (Nat.eq_of_beq_eq_true h.1))))
          have e1 : ((q : Int) == 0) = false := by simp; omega
          clear HSi HT HQ1 hz hq
          go_wp2_with (first | (go_at_call 64; refine (HSz1.out _).mono ?_; rintro e w' ⟨rfl, rfl⟩) | (go_at_call 65; refine (HSu1.out _).mono ?_; rintro e w' ⟨rfl, rfl⟩))
          go_round
          case rel => exact ⟨i + 1, by omega, by rw [← HT2.out], by go_num⟩
          case measure => simp [intOf]; omega
      · have k1 : ¬ (m : Int) < (z : Int) := by omega
        have k2 := decide_eq_false k1
        have HT2 := Lib.hid (HT.out _ (HSi.out.2 (fun h => hz h.2)))
        clear HSi HT HQ1 hz
        go_wp2_with (go_at_call 64; refine (HSz1.out _).mono ?_; rintro e w' ⟨rfl, rfl⟩)
        go_round
        case rel => exact ⟨i + 1, by omega, by rw [← HT2.out], by go_num⟩
        case measure => simp [intOf]; omega
    · obtain rfl : i = N := by omega
      go_wp2
      go_ret2
      exact ⟨by rw [HE.out]; rfl, rfl⟩
theorem specFreeNeat_yes (n s : Nat) (w : World) (h1 : 1 ≤ n) (h2 : n ≤ 12) (hs : s < 2 ^ n) (h0 : s.testBit 0 = false) :
    Calls Try.prog 35 #[.int .i64 (n:Int), .int .i64 (s:Int)] w (ListRes w (neatL n s (2 ^ n)) true) := by
  have hp := pow_le n h2
  have hp1 := Nat.two_pow_pos n
  have HI := Lib.hid (fun W => specStep_yes n s W h1 h2 hs h0)
  have HSz := Lib.hid (fun (x : Nat) (hx : x < 2 ^ n) W => l1Size_any x W (by omega))
  have HSu := Lib.hid (fun (x : Nat) (hx : x < 2 ^ n) W => l1Sum_any n x (s ||| 1) W h1 h2 hx (or_one_lt n s h1 hs))
  have ho := or_one_nat s (by omega)
  have hol := or_one_lt n s h1 hs
  have HSo := Lib.hid (fun W => l1Size_any (s ||| 1) W (by omega))
  have hwp := wrap_pow n (by omega)
  have HNe : Hid (∀ i, neatL n s (i + 1) = if neatN n s i then neatL n s i ++ [(i : Int)] else neatL n s i) := Lib.hid (fun i => rfl)
  have HNd : Hid (∀ i, neatN n s i = (Nat.beq (sizeN i * sizeN (s ||| 1)) n && wideN n s i)) := Lib.hid (fun i => rfl)
  have HWi := Lib.hid (fun i => wide_eq n s i)
  have HOne := Lib.hid (neat_one n s h1)
  have HSl := Lib.hid (fun x => sumN_lt n (s ||| 1) x)
  have HZl := Lib.hid (fun x (hx : x < 2 ^ n) => sizeN_le n x h2 hx)
  have hzo := sizeN_le n (s ||| 1) h2 hol
  obtain ⟨N, hN⟩ : ∃ N, 2 ^ n = N := ⟨_, rfl⟩
  rw [hN] at hp hp1 HSz HSu hwp HWi HSl HZl hol ⊢
  have hwi : IntKind.i64.wrap (2 ^ n) = (N : Int) := by rw [IntWalk.i64_left]; exact hwp
  obtain ⟨m1, m2⟩ := all_cast N (by omega) hp
  clear hN hs h0
  go_enter Try.func35, Try.ntmps35
  go_wp2_with (go_at_call 46; refine (HI.out _).mono ?_; rintro e w' ⟨rfl, rfl⟩)
  --GEN39
  go_loopw [6, 7] (fun u v wr => ∃ (ov : Value) (i : Nat), u = ov ∧ 1 ≤ i ∧ i ≤ N ∧ v = .int .i64 (i : Int) ∧ Below w.heap.size w wr ∧ IsInts wr w.heap.size ov (neatL n s i)) (fun _ v _ => N - (intOf v).toNat)
  case atStart => exact ⟨_, 1, rfl, Nat.le_refl _, hp1, rfl, (Below.refl _ _).alloc (Nat.le_refl _) _, by rw [HOne.out]; exact nil_made w _ (Nat.le_refl _)⟩
  case round =>
    obtain ⟨ov, i, rfl, hi1, hi, rfl, hB, hO⟩ := hrel
    have HB := Lib.hid hB
    have HO := Lib.hid hO
    clear hB hO
    by_cases hlt : i < N
    · have HSi := Lib.hid (HNe.out i)
      have HSz1 := Lib.hid (HSz.out i hlt)
      have HSu1 := Lib.hid (HSu.out i hlt)
      have HW1 := Lib.hid (HWi.out i)
      have hsl := HSl.out i
      have hzl := HZl.out i hlt
      have HNd1 := Lib.hid (HNd.out i)
      have HT : Hid (∀ M, neatL n s (i + 1) = M → neatL n s (i + 1) = M) := Lib.hid (fun M h => h)
      have HLl := Lib.hid (neat_len n s i)
      generalize sizeN (s ||| 1) = q at *
      generalize sizeN i = z at *
      generalize sumN n (s ||| 1) i = y at *
      generalize s ||| 1 = t at *
      have hzq : z * q ≤ 144 := Nat.mul_le_mul (Nat.le_trans hzl h2) (Nat.le_trans hzo h2)
      obtain ⟨P, hP⟩ : ∃ P, z * q = P := ⟨_, rfl⟩
      rw [hP] at hzq HNd1
      obtain ⟨w1, w2⟩ := wraps_at ((z : Int) * (q : Int)) P (by rw [← hP]; exact (Int.natCast_mul z q).symm) (by omega)
      clear hP
      by_cases hz : P = n
      · have e0 : ((P : Int) == (n : Int)) = true := by simp [hz]
        have e2 : (P == n) = true := by simp [hz]
        have e3 : decide (P = n) = true := by simp [hz]
        have e4 : Value.bool (decide (P = n)) = Value.bool true := by simp [hz]
        by_cases hy : y = N - 1
        · have e1 : ((y : Int) == ((N - 1 : Nat) : Int)) = true := by simp [hy]
          have hne : neatN n s i = true := by rw [HNd1.out, HW1.out.2 hy, hz, Nat.beq_refl]; rfl
          rw [hne] at HSi
          have HT2 : Hid (neatL n s (i + 1) = neatL n s i ++ [(i : Int)]) := HSi
          clear HSi HT HW1 hz hy hne HNd1
          go_wp2
          refine wp_region_quiet_lit (by kernel_rfl) (by kernel_rfl) ?_
          repeat (go_big_quiet_step (fail))
          go_big_quiet_want
          go_big_quiet_op
          apply Exists.intro
          refine ⟨fun _ => ?_, ?_⟩
          · go_at_call 64
            exact Calls.quiet_of_same ((HSz1.out _).mono fun _ _ h => ⟨h.1, h.2.symm⟩)
          go_big_quiet_on
          repeat (go_big_quiet_step (fail))
          go_big_quiet_want
          go_big_quiet_op
          apply Exists.intro
          refine ⟨fun _ => ?_, ?_⟩
          · go_at_call 64
            exact Calls.quiet_of_same ((HSo.out _).mono fun _ _ h => ⟨h.1, h.2.symm⟩)
          go_big_quiet_on
          repeat (go_big_quiet_step (fail))
          go_big_quiet_want
          go_big_quiet_op
          apply Exists.intro
          refine ⟨fun _ => ?_, ?_⟩
          · go_at_call 65
            exact Calls.quiet_of_same ((HSu1.out _).mono fun _ _ h => ⟨h.1, h.2.symm⟩)
          go_big_quiet_on
          repeat (go_big_quiet_step (fail))
          refine wpQuiet_nil ?_
          intro _ hw'
          obtain ⟨nq, hw''⟩ := hw'
          subst hw''
          have HBq := Lib.hid (below_drewN HB.out nq)
          have HOq := Lib.hid (HO.out.belowAll (below_drewN (Below.refl wr.heap.size wr) nq))
          obtain ⟨W5, hW5⟩ : ∃ W5, wr.drewN nq = W5 := ⟨_, rfl⟩
          rw [hW5] at HBq HOq ⊢
          clear hW5
          go_wp2_with (at_builtin; refine wpList_append_ints rfl (.tmp 39) (.tmp 41) rfl _ (neatL n s i) (i : Int) W5 w.heap.size rfl rfl HOq.out (Nat.le_trans HLl.out (by omega)) HBq.out.size (fun v' W6 hv6 hk6 hb6 => ?_))
          go_roundw
          case rel => exact ⟨_, i + 1, rfl, by omega, by omega, by go_num, hb6 _ _ (Nat.le_refl _) HBq.out, by rw [HT2.out]; exact hv6⟩
          case measure => simp [intOf]; omega
        · have e1 : ((y : Int) == ((N - 1 : Nat) : Int)) = false := beq_cast_ne hy
          have hne : neatN n s i = false := by
            rw [HNd1.out]
            cases hb : wideN n s i
            · rw [Bool.and_false]
            · exact absurd (HW1.out.1 hb) hy
          rw [hne] at HSi
          have HT2 : Hid (neatL n s (i + 1) = neatL n s i) := HSi
          clear HSi HT HW1 hz hy hne HNd1
          go_wp2
          refine wp_region_quiet_lit (by kernel_rfl) (by kernel_rfl) ?_
          repeat (go_big_quiet_step (fail))
          go_big_quiet_want
          go_big_quiet_op
          apply Exists.intro
          refine ⟨fun _ => ?_, ?_⟩
          · go_at_call 64
            exact Calls.quiet_of_same ((HSz1.out _).mono fun _ _ h => ⟨h.1, h.2.symm⟩)
          go_big_quiet_on
          repeat (go_big_quiet_step (fail))
          go_big_quiet_want
          go_big_quiet_op
          apply Exists.intro
          refine ⟨fun _ => ?_, ?_⟩
          · go_at_call 64
            exact Calls.quiet_of_same ((HSo.out _).mono fun _ _ h => ⟨h.1, h.2.symm⟩)
          go_big_quiet_on
          repeat (go_big_quiet_step (fail))
          go_big_quiet_want
          go_big_quiet_op
          apply Exists.intro
          refine ⟨fun _ => ?_, ?_⟩
          · go_at_call 65
            exact Calls.quiet_of_same ((HSu1.out _).mono fun _ _ h => ⟨h.1, h.2.symm⟩)
          go_big_quiet_on
          repeat (go_big_quiet_step (fail))
          refine wpQuiet_nil ?_
          intro _ hw'
          obtain ⟨nq, hw''⟩ := hw'
          subst hw''
          go_wp2
          go_roundw
          case rel => exact ⟨_, i + 1, rfl, by omega, by omega, by go_num, below_drewN HB.out _, by rw [HT2.out]; exact HO.out.belowAll (below_drewN (Below.refl _ _) _)⟩
          case measure => simp [intOf]; omega
      · have e0 : ((P : Int) == (n : Int)) = false := beq_cast_ne hz
        have hne : neatN n s i = false := by
          rw [HNd1.out]
          cases hb : Nat.beq P n
          · rfl
          · exact absurd (Nat.eq_of_beq_eq_true hb) hz
        have e2 : (P == n) = false := by simp [hz]
        have e3 : decide (P = n) = false := by simp [hz]
        rw [hne] at HSi
        have HT2 : Hid (neatL n s (i + 1) = neatL n s i) := HSi
        clear HSi HT HW1 hz hne HNd1
        go_wp2
        refine wp_region_quiet_lit (by kernel_rfl) (by kernel_rfl) ?_
        repeat (go_big_quiet_step (fail))
        go_big_quiet_want
        go_big_quiet_op
        apply Exists.intro
        refine ⟨fun _ => ?_, ?_⟩
        · go_at_call 64
          exact Calls.quiet_of_same ((HSz1.out _).mono fun _ _ h => ⟨h.1, h.2.symm⟩)
        go_big_quiet_on
        repeat (go_big_quiet_step (fail))
        go_big_quiet_want
        go_big_quiet_op
        apply Exists.intro
        refine ⟨fun _ => ?_, ?_⟩
        · go_at_call 64
          exact Calls.quiet_of_same ((HSo.out _).mono fun _ _ h => ⟨h.1, h.2.symm⟩)
        go_big_quiet_on
        repeat (go_big_quiet_step (fail))
        refine wpQuiet_nil ?_
        intro _ hw'
        obtain ⟨nq, hw''⟩ := hw'
        subst hw''
        go_wp2
        go_roundw
        case rel => exact ⟨_, i + 1, rfl, by omega, by omega, by go_num, below_drewN HB.out _, by rw [HT2.out]; exact HO.out.belowAll (below_drewN (Below.refl _ _) _)⟩
        case measure => simp [intOf]; omega
    · obtain rfl : i = N := by omega
      go_wp2
      go_ret2
      exact ⟨_, rfl, HB.out, HO.out⟩
end Go.Proofs.Ytfjcdcjhdjkjaaa

/- Fair colours: the model's functions. -/
namespace Go.Proofs.Ytfjcdcjhdjkjaaa
open Go.RowKit Go.Shelf
set_option linter.unusedVariables false
attribute [local go_sem] Oper.semAt_some
theorem wpList_append_any {ops : Array Oper} {rest : List Oper} {o : Oper} {act : Act} {Q : Exit → Act → World → Prop} (hgd : o.guard = none) (s x : Operand) (ho : o.op = .call { callee := .builtin .append, args := #[s, x], argTypes := #[33, 33] })
    (a : Value) (ys xs : List Int) (W : World) (N g cap b : Nat) (hs : act.eval s = a) (hx : act.eval x = .slice (some ⟨g, 0, none⟩) xs.length cap) (hO : IsInts W N a ys) (hX : IsInts W b (.slice (some ⟨g, 0, none⟩) xs.length cap) xs)
    (hl : ys.length + xs.length ≤ 1000) (hN : N ≤ W.heap.size)
    (h : ∀ (v' : Value) (w1 : World), IsInts w1 N v' (ys ++ xs) → (∀ (v : Value) (zs : List Int) (N' : Nat), IsInts W N' v zs → (v.ownBlock = none ∨ v.ownBlock ≠ a.ownBlock) → IsInts w1 N' v zs) →
      (∀ (B : Nat) (w0 : World), B ≤ N → Below B w0 W → Below B w0 w1) → W.heap.size ≤ w1.heap.size → wpList Try.prog ops Q rest (act.put o.dst v') w1) : wpList Try.prog ops Q (o :: rest) act W :=
  wpList_plain hgd fun _ hK => wp_append_any s x ho a ys xs W N g cap b hs hx hO hX hl hN fun v' w1 h1 h2 h3 h4 => hK _ _ (h v' w1 h1 h2 h3 h4)
/-- Whether the colour c is fair behind the colours xs, as far as the first j of them go; q are both steps. -/
def okTo (q : Nat) (xs : List Int) (c : Nat) : Nat → Bool
  | 0 => true
  | j + 1 => okTo q xs c j && (!q.testBit (xs.length - j) || !decide (xs.getD j 0 = (c : Int)))
/-- How many ways lead on, m colours being open. -/
def waysN (q k : Nat) : Nat → List Int → Nat
  | 0, _ => 1
  | m + 1, xs => sumTo (fun c => if okTo q xs c xs.length then waysN q k m (xs ++ [(c : Int)]) else 0) k
theorem csumTo_le (f : Nat → Nat) (b k : Nat) (h : ∀ v, v < k → f v ≤ b) : sumTo f k ≤ k * b := by
  induction k with
  | zero => simp [sumTo]
  | succ k ih =>
    have e : sumTo f (k + 1) = sumTo f k + f k := rfl
    have := ih fun v hv => h v (by omega)
    have := h k (by omega)
    rw [e, Nat.succ_mul]
    omega
theorem cways_le (q k m : Nat) (xs : List Int) : waysN q k m xs ≤ k ^ m := by
  induction m generalizing xs with
  | zero => simp [waysN]
  | succ m ih =>
    rw [Nat.pow_succ, Nat.mul_comm]
    refine csumTo_le _ (k ^ m) k fun v hv => ?_
    split
    · exact ih _
    · exact Nat.zero_le _
set_option maxHeartbeats 1000000 in
theorem l6fWays_zero (n s k b g cap : Nat) (xs : List Int) (w : World) (hl : xs.length = n) :
    Calls Try.prog 62 #[.int .i64 (n:Int), .int .i64 (s:Int), .int .i64 (k:Int), .slice (some ⟨g, 0, none⟩) xs.length cap] w fun e w' => e = .returned (.int .i64 1) ∧ Below w.heap.size w w' := by
  rw [hl]
  have e1 : ((n : Int) == (n : Int)) = true := by simp
  go_enter Try.func62, Try.ntmps62
  go_wp2
  go_ret
  exact ⟨rfl, Below.refl _ _⟩
set_option maxRecDepth 100000 in
set_option maxHeartbeats 1000000 in
theorem l6fWays_succ (m n s k b g cap : Nat) (xs : List Int) (w : World) (h1 : 1 ≤ n) (h2 : n ≤ 8) (hs : s < 2 ^ n) (hk : k ≤ 4) (hl : xs.length + (m + 1) = n)
    (hI : IsInts w b (.slice (some ⟨g, 0, none⟩) xs.length cap) xs)
    (IH : ∀ (v b' g' cap' : Nat) (W : World), v < k → IsInts W b' (.slice (some ⟨g', 0, none⟩) (xs ++ [(v : Int)]).length cap') (xs ++ [(v : Int)]) →
      Calls Try.prog 62 #[.int .i64 (n:Int), .int .i64 (s:Int), .int .i64 (k:Int), .slice (some ⟨g', 0, none⟩) (xs ++ [(v : Int)]).length cap'] W fun e w' => e = .returned (.int .i64 ((waysN (bothN n s) k m (xs ++ [(v : Int)]) : Nat) : Int)) ∧ Below W.heap.size W w') :
    Calls Try.prog 62 #[.int .i64 (n:Int), .int .i64 (s:Int), .int .i64 (k:Int), .slice (some ⟨g, 0, none⟩) xs.length cap] w fun e w' => e = .returned (.int .i64 ((waysN (bothN n s) k (m + 1) xs : Nat) : Int)) ∧ Below w.heap.size w w' := by
  have hmx : Try.prog.follows .mixedOrders = true := by kernel_rfl
  have hpw := pow_le n (by omega)
  have HBo := Lib.hid (fun W => l2Both_any n s W h1 (by omega) hs)
  have hbl := bothN_lt n s h1 hs
  have HI := Lib.hid hI
  have HIH := Lib.hid IH
  have HWe : Hid (waysN (bothN n s) k (m + 1) xs = sumTo (fun c => if okTo (bothN n s) xs c xs.length then waysN (bothN n s) k m (xs ++ [(c : Int)]) else 0) k) := Lib.hid rfl
  generalize bothN n s = q at *
  have hgl := (World.ownsRow.lt hI g rfl).2
  have HLs : Hid (([] : List Int).length + xs.length ≤ 1000) := Lib.hid (by simp; omega)
  have HLs2 : Hid (∀ v : Nat, xs.length + [(v : Int)].length ≤ 1000) := Lib.hid (fun v => by simp; omega)
  obtain ⟨L, hL⟩ : ∃ L, xs.length = L := ⟨_, rfl⟩
  rw [hL] at HI hl ⊢
  have HL := Lib.hid hL
  have e1 : ((L : Int) == (n : Int)) = false := beq_cast_ne (by omega)
  rw [hL] at HWe
  have HSe : Hid (sumTo (fun c => if okTo q xs c L then waysN q k m (xs ++ [(c : Int)]) else 0) k = waysN q k (m + 1) xs) := Lib.hid HWe.out.symm
  have hpm : k ^ m ≤ 65536 := by
    have a := Nat.pow_le_pow_left hk m
    have b := Nat.pow_le_pow_right (n := 4) (by omega) (show m ≤ 8 by omega)
    have : 4 ^ 8 = 65536 := by decide
    omega
  have HCw := Lib.hid (fun c : Nat => Nat.le_trans (cways_le q k m (xs ++ [(c : Int)])) hpm)
  have HCb : Hid (∀ c, c ≤ k → sumTo (fun c => if okTo q xs c L then waysN q k m (xs ++ [(c : Int)]) else 0) c ≤ 262144) := Lib.hid (fun c hc => by
    have h := csumTo_le (fun c => if okTo q xs c L then waysN q k m (xs ++ [(c : Int)]) else 0) 65536 c (fun v hv => by
      split
      · exact HCw.out v
      · exact Nat.zero_le _)
    have : c * 65536 ≤ 4 * 65536 := Nat.mul_le_mul_right _ (by omega)
    omega)
  clear hI hL IH HWe hpm
  go_enter Try.func62, Try.ntmps62
  go_wp2_with (go_at_call 52; refine (HBo.out _).mono ?_; rintro e w' ⟨rfl, rfl⟩)
  --GEN40W
  go_loopw [11, 12] (fun cs vs wr => ∃ c : Nat, c ≤ k ∧ cs = .int .i64 ((sumTo (fun c => if okTo q xs c L then waysN q k m (xs ++ [(c : Int)]) else 0) c : Nat) : Int) ∧ vs = .int .i64 (c : Int) ∧ Below w.heap.size w wr) (fun _ vs _ => k - (intOf vs).toNat)
  case atStart => exact ⟨0, Nat.zero_le _, rfl, rfl, Below.refl _ _⟩
  case round =>
    obtain ⟨c, hc, rfl, rfl, hB⟩ := hrel
    have HB := Lib.hid hB
    have HIr := Lib.hid (HI.out.belowAll hB)
    have hsz := hB.size
    clear hB
    have HSm : Hid (sumTo (fun c => if okTo q xs c L then waysN q k m (xs ++ [(c : Int)]) else 0) (c + 1) = sumTo (fun c => if okTo q xs c L then waysN q k m (xs ++ [(c : Int)]) else 0) c + (if okTo q xs c L then waysN q k m (xs ++ [(c : Int)]) else 0)) := Lib.hid rfl
    have hcb := HCb.out c hc
    by_cases hlt : c < k
    · have hcw := HCw.out c
      generalize sumTo (fun c => if okTo q xs c L then waysN q k m (xs ++ [(c : Int)]) else 0) c = S at *
      have c1 : (c : Int) < (k : Int) := by omega
      go_wp2
      go_loop [13, 14] (fun u v => ∃ j : Nat, j ≤ L ∧ u = .bool (okTo q xs c j) ∧ v = .int .i64 (j : Int)) (fun _ v => L - (intOf v).toNat)
      case atStart => exact ⟨0, Nat.zero_le _, rfl, rfl⟩
      case round =>
        obtain ⟨j, hj, rfl, rfl⟩ := hrel
        by_cases hjl : j < L
        · have HOk : Hid (okTo q xs c (j + 1) = (okTo q xs c j && (!q.testBit (L - j) || !decide (xs.getD j 0 = (c : Int))))) := Lib.hid (by rw [← HL.out]; rfl)
          have cj := HIr.out.cell (i := j) (by rw [HL.out]; exact hjl)
          obtain ⟨Dd, hD⟩ : ∃ Dd, L - j = Dd := ⟨_, rfl⟩
          rw [hD] at HOk
          have dI : (L : Int) - (j : Int) = (Dd : Int) := by omega
          have d1 : IntKind.i64.wrap ((L : Int) - (j : Int)) = (Dd : Int) := by rw [dI]; exact IntWalk.i64_in _ ⟨by omega, by omega⟩
          have d2 : wrap64 ((L : Int) - (j : Int)) = (Dd : Int) := by rw [dI]; exact IntWalk.wrap64_in _ ⟨by omega, by omega⟩
          have hD64 : min Dd 64 = Dd := by omega
          have hbt := has_nat0 q Dd (by omega)
          have i1 : (0 : Int) ≤ (j : Int) := by omega
          have i2 : (j : Int) < (L : Int) := by omega
          have i3 : (0 : Int) ≤ (Dd : Int) := by omega
          generalize xs.getD j 0 = z at *
          clear hD dI
          cases ho : okTo q xs c j
          · rw [ho] at HOk
            have HOk2 : Hid (okTo q xs c (j + 1) = false) := HOk
            clear HOk ho hbt
            go_wp2
            go_round
            case rel => exact ⟨j + 1, by omega, by rw [HOk2.out], by go_num⟩
            case measure => simp [intOf]; omega
          · rw [ho] at HOk
            cases hb : q.testBit Dd
            · rw [hb] at hbt HOk
              have HOk2 : Hid (okTo q xs c (j + 1) = true) := HOk
              clear HOk ho hb
              go_wp2
              go_round
              case rel => exact ⟨j + 1, by omega, by rw [HOk2.out], by go_num⟩
              case measure => simp [intOf]; omega
            · rw [hb] at hbt HOk
              by_cases hz : z = (c : Int)
              · rw [decide_eq_true hz] at HOk
                have HOk2 : Hid (okTo q xs c (j + 1) = false) := HOk
                have e1 : (z == (c : Int)) = true := by simp [hz]
                have e2 : (z != (c : Int)) = false := by simp [hz]
                clear HOk ho hb hz
                go_wp2
                go_round
                case rel => exact ⟨j + 1, by omega, by rw [HOk2.out], by go_num⟩
                case measure => simp [intOf]; omega
              · rw [decide_eq_false hz] at HOk
                have HOk2 : Hid (okTo q xs c (j + 1) = true) := HOk
                have e1 : (z == (c : Int)) = false := by simp [hz]
                have e2 : (z != (c : Int)) = true := by simp [hz]
                clear HOk ho hb hz
                go_wp2
                go_round
                case rel => exact ⟨j + 1, by omega, by rw [HOk2.out], by go_num⟩
                case measure => simp [intOf]; omega
        · obtain rfl : j = L := by omega
          cases ho : okTo q xs c j
          · rw [ho] at HSm
            have HS2 : Hid (sumTo (fun c => if okTo q xs c j then waysN q k m (xs ++ [(c : Int)]) else 0) (c + 1) = S) := HSm
            clear HSm ho
            go_wp2
            go_roundw
            case rel => exact ⟨c + 1, by omega, by rw [HS2.out], by go_num, HB.out⟩
            case measure => simp [intOf]; omega
          · rw [ho] at HSm
            have HIH1 := Lib.hid (fun b' g' cap' W h => HIH.out c b' g' cap' W hlt h)
            generalize waysN q k m (xs ++ [(c : Int)]) = y at *
            have HS2 : Hid (sumTo (fun c => if okTo q xs c j then waysN q k m (xs ++ [(c : Int)]) else 0) (c + 1) = S + y) := HSm
            clear HSm ho
            have hHB := HB.out
            have hBa := hHB.alloc hsz (.cells #[] 3)
            have HIa := Lib.hid (show IsInts (wr.alloc (.cells #[] 3)) b (.slice (some ⟨g, 0, none⟩) j cap) xs from World.ownsRow.alloc HIr.out _)
            have HX1 := Lib.hid (nil_made wr wr.heap.size (Nat.le_refl _))
            have hzW : wr.heap.size ≤ (wr.alloc (.cells #[] 3)).heap.size := by simp
            have HBa := Lib.hid hBa
            have HzW := Lib.hid hzW
            clear hBa hzW hHB
            go_wp2_with (first
              | (at_builtin; refine wpList_append_any rfl (.tmp 56) (.tmp 57) rfl (.slice (some ⟨wr.heap.size, 0, none⟩) 0 0) [] xs (wr.alloc (.cells #[] 3)) wr.heap.size g cap b rfl (by rw [HL.out]; rfl) HX1.out (by rw [HL.out]; exact HIa.out) HLs.out HzW.out (fun v2 W5 hX2 hkeep2 hbelow2 hgrow2 => ?_);
                  have HX2 := Lib.hid (show IsInts W5 wr.heap.size v2 xs from hX2); have HB5 := Lib.hid (hbelow2 _ _ hsz HBa.out); have HG5 := Lib.hid (Nat.le_trans HzW.out hgrow2); clear hX2 hkeep2 hbelow2 hgrow2)
              | (at_builtin; refine wpList_append_any rfl (.tmp 58) (.tmp 60) rfl v2 xs [(c : Int)] (W5.alloc (.cells #[.int .i64 (c : Int)] 3)) wr.heap.size W5.heap.size 1 wr.heap.size rfl rfl (World.ownsRow.alloc HX2.out _) (lit_one W5 wr.heap.size (c : Int) HG5.out) (HLs2.out c) (Nat.le_trans HG5.out (by simp)) (fun v3 W7 hX3 hkeep3 hbelow3 hgrow3 => ?_);
                  have HX3 := Lib.hid hX3; have HB7 := Lib.hid (hbelow3 _ _ hsz (HB5.out.alloc (Nat.le_trans hsz HG5.out) (.cells #[.int .i64 (c : Int)] 3))); clear hX3 hkeep3 hbelow3 hgrow3)
              | fail)
            clear HX2 HIa HX1
            rcases HX3.out.shape with ⟨_, e⟩ | ⟨g3, cap3, hv3, hg31, hg32, hg33⟩
            · exact absurd e (by simp)
            subst hv3
            refine (HIH1.out _ _ _ _ HX3.out).mono ?_
            rintro e W9 ⟨rfl, hb9⟩
            have HB9 := Lib.hid (HB7.out.trans (hb9.mono HB7.out.size))
            clear hb9 hg33
            obtain ⟨Z, hZ⟩ : ∃ Z, S + y = Z := ⟨_, rfl⟩
            rw [hZ] at HS2
            have s2 : IntKind.i64.wrap ((S : Int) + (y : Int)) = (Z : Int) := by rw [show (S : Int) + (y : Int) = (Z : Int) by omega]; exact IntWalk.i64_in _ ⟨by omega, by omega⟩
            have s3 : wrap64 ((S : Int) + (y : Int)) = (Z : Int) := by rw [show (S : Int) + (y : Int) = (Z : Int) by omega]; exact IntWalk.wrap64_in _ ⟨by omega, by omega⟩
            clear hZ hcw hcb
            go_wp2
            go_roundw
            case rel => exact ⟨c + 1, by omega, by rw [HS2.out], by go_num, HB9.out⟩
            case measure => simp [intOf]; omega
    · obtain rfl : c = k := by omega
      rw [HSe.out]
      go_wp2
      go_ret
      exact ⟨rfl, HB.out⟩
theorem l6fWays_any (m n s k b g cap : Nat) (xs : List Int) (w : World) (h1 : 1 ≤ n) (h2 : n ≤ 8) (hs : s < 2 ^ n) (hk : k ≤ 4) (hl : xs.length + m = n)
    (hI : IsInts w b (.slice (some ⟨g, 0, none⟩) xs.length cap) xs) :
    Calls Try.prog 62 #[.int .i64 (n:Int), .int .i64 (s:Int), .int .i64 (k:Int), .slice (some ⟨g, 0, none⟩) xs.length cap] w fun e w' => e = .returned (.int .i64 ((waysN (bothN n s) k m xs : Nat) : Int)) ∧ Below w.heap.size w w' := by
  induction m generalizing xs b g cap w with
  | zero => exact l6fWays_zero n s k b g cap xs w (by omega)
  | succ m ih =>
    exact l6fWays_succ m n s k b g cap xs w h1 h2 hs hk hl hI fun v b' g' cap' W hv hX => ih b' g' cap' (xs ++ [(v : Int)]) W (by rw [List.length_append, List.length_singleton]; omega) hX
def waysF (n s k : Nat) : Nat := waysN (bothN n s) k n []
/-- Where FreeWays tells nothing. -/
def NoWays (n s k : Int) : Prop := NoStep n s ∨ ¬ n ≤ 8 ∨ ¬ (0 ≤ k ∧ k ≤ 4)
theorem specFreeWays_yes (n s k : Nat) (w : World) (h1 : 1 ≤ n) (h2 : n ≤ 8) (hs : s < 2 ^ n) (h0 : s.testBit 0 = false) (hk : k ≤ 4) :
    Calls Try.prog 29 #[.int .i64 (n:Int), .int .i64 (s:Int), .int .i64 (k:Int)] w fun e w' => e = .returned (.tuple #[.int .i64 ((waysF n s k : Nat) : Int), .bool true]) ∧ Below w.heap.size w w' := by
  have HI := Lib.hid (fun W => specStep_yes n s W h1 (by omega) hs h0)
  have HK := Lib.hid (fun W => l6In_yes (k : Int) 0 4 W (by omega) (by omega))
  have HL := Lib.hid (l6fWays_any n n s k w.heap.size w.heap.size 0 [] (w.alloc (.cells #[] 3)) h1 h2 hs hk (by simp) (nil_made w w.heap.size (Nat.le_refl _)))
  have HF : Hid (waysN (bothN n s) k n [] = waysF n s k) := Lib.hid rfl
  have HB := Lib.hid ((Below.refl w.heap.size w).alloc (Nat.le_refl _) (.cells #[] 3))
  generalize waysN (bothN n s) k n [] = q at *
  have k1 : ¬ (8 : Int) < (n : Int) := by omega
  have k2 : decide ((8 : Int) < (n : Int)) = false := decide_eq_false k1
  clear h0
  go_enter Try.func29, Try.ntmps29
  go_wp2_with (first
    | (go_at_call 46; refine (HI.out _).mono ?_; rintro e w' ⟨rfl, rfl⟩)
    | (go_at_call 61; refine (HK.out _).mono ?_; rintro e w' ⟨rfl, rfl⟩)
    | (go_at_call 62; refine HL.out.mono ?_; rintro e w2 ⟨rfl, hb2⟩))
  go_ret2
  exact ⟨by rw [HF.out]; rfl, HB.out.trans (hb2.mono HB.out.size)⟩
theorem specFreeWays_no (n s k : Int) (w : World) (h : NoWays n s k) :
    Calls Try.prog 29 #[.int .i64 n, .int .i64 s, .int .i64 k] w fun e w' => e = .returned (.tuple #[.int .i64 0, .bool false]) ∧ w = w' := by
  by_cases hn : NoStep n s
  · have HI := Lib.hid (specStep_no n s w hn)
    clear h hn
    go_enter Try.func29, Try.ntmps29
    go_wp2_with (go_at_call 46; refine HI.out.mono ?_; rintro e w' ⟨rfl, rfl⟩)
    go_ret2
    exact ⟨rfl, rfl⟩
  · obtain ⟨m, t, rfl, rfl, h1, h2, h3, h4⟩ := not_noStep hn
    have HI := Lib.hid (specStep_yes m t w h1 h2 h3 h4)
    by_cases h8 : (m : Int) ≤ 8
    · have hk : ¬ (0 ≤ k ∧ k ≤ 4) := (h.resolve_left hn).resolve_left (fun c => c h8)
      have HK := Lib.hid (fun W => l6In_any k 0 4 W)
      rw [decide_eq_false hk] at HK
      have k1 : ¬ (8 : Int) < (m : Int) := by omega
      have k2 : decide ((8 : Int) < (m : Int)) = false := decide_eq_false k1
      clear h hn hk h8
      go_enter Try.func29, Try.ntmps29
      go_wp2_with (first
        | (go_at_call 46; refine HI.out.mono ?_; rintro e w' ⟨rfl, rfl⟩)
        | (go_at_call 61; refine (HK.out _).mono ?_; rintro e w' ⟨rfl, rfl⟩))
      go_ret2
      exact ⟨rfl, rfl⟩
    · have k1 : (8 : Int) < (m : Int) := by omega
      have k2 : decide ((8 : Int) < (m : Int)) = true := decide_eq_true k1
      clear h hn h8
      go_enter Try.func29, Try.ntmps29
      go_wp2_with (go_at_call 46; refine HI.out.mono ?_; rintro e w' ⟨rfl, rfl⟩)
      go_ret2
      exact ⟨rfl, rfl⟩
end Go.Proofs.Ytfjcdcjhdjkjaaa

/- Fair colours: the model's least number. -/
namespace Go.Proofs.Ytfjcdcjhdjkjaaa
open Go.RowKit Go.Shelf
set_option linter.unusedVariables false
attribute [local go_sem] Oper.semAt_some
theorem wpList_append_want {ops : Array Oper} {rest : List Oper} {o : Oper} {act : Act} {Q : Exit → Act → World → Prop} (hgd : Region.wanted o (yielded ops act.tmps) = true) (s x : Operand) (ho : o.op = .call { callee := .builtin .append, args := #[s, x], argTypes := #[33, 33] })
    (a : Value) (ys xs : List Int) (W : World) (N g cap b : Nat) (hs : act.eval s = a) (hx : act.eval x = .slice (some ⟨g, 0, none⟩) xs.length cap) (hO : IsInts W N a ys) (hX : IsInts W b (.slice (some ⟨g, 0, none⟩) xs.length cap) xs)
    (hl : ys.length + xs.length ≤ 1000) (hN : N ≤ W.heap.size)
    (h : ∀ (v' : Value) (w1 : World), IsInts w1 N v' (ys ++ xs) → (∀ (v : Value) (zs : List Int) (N' : Nat), IsInts W N' v zs → (v.ownBlock = none ∨ v.ownBlock ≠ a.ownBlock) → IsInts w1 N' v zs) →
      (∀ (B : Nat) (w0 : World), B ≤ N → Below B w0 W → Below B w0 w1) → W.heap.size ≤ w1.heap.size → wpList Try.prog ops Q rest (act.put o.dst v') w1) : wpList Try.prog ops Q (o :: rest) act W :=
  BigFrame.wpList_want hgd fun _ hK => wp_append_any s x ho a ys xs W N g cap b hs hx hO hX hl hN fun v' w1 h1 h2 h3 h4 => hK _ _ (h v' w1 h1 h2 h3 h4)
/-- Whether there are fair colours that begin with xs, a new colour being tried once. -/
def canN (q k : Nat) : Nat → List Int → Nat → Bool
  | 0, _, _ => true
  | m + 1, xs, used => anyN (fun c => okTo q xs c xs.length && canN q k m (xs ++ [(c : Int)]) (max used (c + 1))) (min k (used + 1))
theorem l6fCan_zero (n s k b g cap used : Nat) (xs : List Int) (w : World) (hl : xs.length = n) :
    Calls Try.prog 58 #[.int .i64 (n:Int), .int .i64 (s:Int), .int .i64 (k:Int), .slice (some ⟨g, 0, none⟩) xs.length cap, .int .i64 (used:Int)] w fun e w' => e = .returned (.bool true) ∧ Below w.heap.size w w' := by
  rw [hl]
  have e1 : ((n : Int) == (n : Int)) = true := by simp
  go_enter Try.func58, Try.ntmps58
  go_wp2
  go_ret
  exact ⟨rfl, Below.refl _ _⟩
set_option maxRecDepth 100000 in
set_option maxHeartbeats 1000000 in
theorem l6fCan_lo (m n s k b g cap used : Nat) (xs : List Int) (w : World) (h1 : 1 ≤ n) (h2 : n ≤ 8) (hs : s < 2 ^ n) (hk : k ≤ 1000) (hu : used ≤ 1000) (hl : xs.length + (m + 1) = n) (hmk : used + 1 < k)
    (hI : IsInts w b (.slice (some ⟨g, 0, none⟩) xs.length cap) xs)
    (IH : ∀ (v b' g' cap' : Nat) (W : World), v < k → v ≤ used → IsInts W b' (.slice (some ⟨g', 0, none⟩) (xs ++ [(v : Int)]).length cap') (xs ++ [(v : Int)]) →
      Calls Try.prog 58 #[.int .i64 (n:Int), .int .i64 (s:Int), .int .i64 (k:Int), .slice (some ⟨g', 0, none⟩) (xs ++ [(v : Int)]).length cap', .int .i64 ((max used (v + 1) : Nat) : Int)] W fun e w' => e = .returned (.bool (canN (bothN n s) k m (xs ++ [(v : Int)]) (max used (v + 1)))) ∧ Below W.heap.size W w') :
    Calls Try.prog 58 #[.int .i64 (n:Int), .int .i64 (s:Int), .int .i64 (k:Int), .slice (some ⟨g, 0, none⟩) xs.length cap, .int .i64 (used:Int)] w fun e w' => e = .returned (.bool (canN (bothN n s) k (m + 1) xs used)) ∧ Below w.heap.size w w' := by
  have hmx : Try.prog.follows .mixedOrders = true := by kernel_rfl
  have hpw := pow_le n (by omega)
  have HBo := Lib.hid (fun W => l2Both_any n s W h1 (by omega) hs)
  have hbl := bothN_lt n s h1 hs
  have HI := Lib.hid hI
  have HIH := Lib.hid IH
  have HWe : Hid (canN (bothN n s) k (m + 1) xs used = anyN (fun c => okTo (bothN n s) xs c xs.length && canN (bothN n s) k m (xs ++ [(c : Int)]) (max used (c + 1))) (min k (used + 1))) := Lib.hid rfl
  generalize bothN n s = q at *
  have hgl := (World.ownsRow.lt hI g rfl).2
  have HLs : Hid (([] : List Int).length + xs.length ≤ 1000) := Lib.hid (by simp; omega)
  have HLs2 : Hid (∀ v : Nat, xs.length + [(v : Int)].length ≤ 1000) := Lib.hid (fun v => by simp; omega)
  obtain ⟨L, hL⟩ : ∃ L, xs.length = L := ⟨_, rfl⟩
  rw [hL] at HI hl HWe ⊢
  have HL := Lib.hid hL
  have e1 : ((L : Int) == (n : Int)) = false := beq_cast_ne (by omega)
  obtain ⟨canF, hcanF⟩ : ∃ canF : Nat → Bool, canF = fun c => okTo q xs c L && canN q k m (xs ++ [(c : Int)]) (max used (c + 1)) := ⟨_, rfl⟩
  rw [← hcanF] at HWe
  have HCan : Hid (∀ c, canF c = (okTo q xs c L && canN q k m (xs ++ [(c : Int)]) (max used (c + 1)))) := Lib.hid (fun c => by rw [hcanF])
  obtain ⟨K, hK⟩ : ∃ K, min k (used + 1) = K := ⟨_, rfl⟩
  rw [hK] at HWe
  have hKe : K = used + 1 := by omega
  rw [hKe] at HWe
  clear hKe hK
  have m1 : (used : Int) + 1 < (k : Int) := by omega
  have m2 := decide_eq_true m1
  have m3 : decide (used + 1 < k) = true := decide_eq_true hmk
  have p0 : IntKind.i64.wrap ((used : Int) + 1) = (used : Int) + 1 := IntWalk.i64_in _ ⟨by omega, by omega⟩
  have HEnd : Hid ((∀ d, d < used + 1 → canF d = false) → canN q k (m + 1) xs used = false) := Lib.hid (fun h => by rw [HWe.out]; exact anyN_false canF (used + 1) h)
  have HYes : Hid (∀ d, d < used + 1 → canF d = true → canN q k (m + 1) xs used = true) := Lib.hid (fun d hd h => by rw [HWe.out]; exact anyN_true canF (used + 1) d hd h)
  have HMa : Hid (∀ c : Nat, True) := Lib.hid (fun _ => trivial)
  clear hI hL IH HWe hcanF hmk
  go_enter Try.func58, Try.ntmps58
  go_wp2_with (go_at_call 52; refine (HBo.out _).mono ?_; rintro e w' ⟨rfl, rfl⟩)
  --GEN40Clo
  go_loopw [13] (fun vs wr => ∃ c : Nat, c ≤ (used + 1) ∧ vs = .int .i64 (c : Int) ∧ Below w.heap.size w wr ∧ Hid (∀ d, d < c → canF d = false)) (fun vs _ => (used + 1) - (intOf vs).toNat)
  case atStart => exact ⟨0, Nat.zero_le _, rfl, Below.refl _ _, Lib.hid (fun d hd => absurd hd (by omega))⟩
  case round =>
    obtain ⟨c, hc, rfl, hB, HNo⟩ := hrel
    have HB := Lib.hid hB
    have HIr := Lib.hid (HI.out.belowAll hB)
    have hsz := hB.size
    clear hB
    by_cases hlt : c < (used + 1)
    · have hck : c < k := by omega
      have hcu : c ≤ used := by omega
      have c1 : (c : Int) < (used : Int) + 1 := by omega
      have c2 := decide_eq_true c1
      have c3 : decide (c < (used + 1)) = true := decide_eq_true hlt
      go_wp2
      go_loop [14, 15] (fun u v => ∃ j : Nat, j ≤ L ∧ u = .bool (okTo q xs c j) ∧ v = .int .i64 (j : Int)) (fun _ v => L - (intOf v).toNat)
      case atStart => exact ⟨0, Nat.zero_le _, rfl, rfl⟩
      case round =>
        obtain ⟨j, hj, rfl, rfl⟩ := hrel
        by_cases hjl : j < L
        · have HOk : Hid (okTo q xs c (j + 1) = (okTo q xs c j && (!q.testBit (L - j) || !decide (xs.getD j 0 = (c : Int))))) := Lib.hid (by rw [← HL.out]; rfl)
          have cj := HIr.out.cell (i := j) (by rw [HL.out]; exact hjl)
          obtain ⟨Dd, hD⟩ : ∃ Dd, L - j = Dd := ⟨_, rfl⟩
          rw [hD] at HOk
          have dI : (L : Int) - (j : Int) = (Dd : Int) := by omega
          have d1 : IntKind.i64.wrap ((L : Int) - (j : Int)) = (Dd : Int) := by rw [dI]; exact IntWalk.i64_in _ ⟨by omega, by omega⟩
          have d2 : wrap64 ((L : Int) - (j : Int)) = (Dd : Int) := by rw [dI]; exact IntWalk.wrap64_in _ ⟨by omega, by omega⟩
          have hD64 : min Dd 64 = Dd := by omega
          have hbt := has_nat0 q Dd (by omega)
          have i1 : (0 : Int) ≤ (j : Int) := by omega
          have i2 : (j : Int) < (L : Int) := by omega
          have i3 : (0 : Int) ≤ (Dd : Int) := by omega
          generalize xs.getD j 0 = z at *
          clear hD dI
          cases ho : okTo q xs c j
          · rw [ho] at HOk
            have HOk2 : Hid (okTo q xs c (j + 1) = false) := HOk
            clear HOk ho hbt
            go_wp2
            go_round
            case rel => exact ⟨j + 1, by omega, by rw [HOk2.out], by go_num⟩
            case measure => simp [intOf]; omega
          · rw [ho] at HOk
            cases hb : q.testBit Dd
            · rw [hb] at hbt HOk
              have HOk2 : Hid (okTo q xs c (j + 1) = true) := HOk
              clear HOk ho hb
              go_wp2
              go_round
              case rel => exact ⟨j + 1, by omega, by rw [HOk2.out], by go_num⟩
              case measure => simp [intOf]; omega
            · rw [hb] at hbt HOk
              by_cases hz : z = (c : Int)
              · rw [decide_eq_true hz] at HOk
                have HOk2 : Hid (okTo q xs c (j + 1) = false) := HOk
                have e1 : (z == (c : Int)) = true := by simp [hz]
                have e2 : (z != (c : Int)) = false := by simp [hz]
                clear HOk ho hb hz
                go_wp2
                go_round
                case rel => exact ⟨j + 1, by omega, by rw [HOk2.out], by go_num⟩
                case measure => simp [intOf]; omega
              · rw [decide_eq_false hz] at HOk
                have HOk2 : Hid (okTo q xs c (j + 1) = true) := HOk
                have e1 : (z == (c : Int)) = false := by simp [hz]
                have e2 : (z != (c : Int)) = true := by simp [hz]
                clear HOk ho hb hz
                go_wp2
                go_round
                case rel => exact ⟨j + 1, by omega, by rw [HOk2.out], by go_num⟩
                case measure => simp [intOf]; omega
        · obtain rfl : j = L := by omega
          have HCf := Lib.hid (HCan.out c)
          have HNo2 : Hid (canF c = false → ∀ d, d < c + 1 → canF d = false) := Lib.hid (fun h d hd => by
            by_cases e : d = c
            · subst e; exact h
            · exact HNo.out d (by omega))
          cases ho : okTo q xs c j
          · rw [ho] at HCf
            have HN3 := Lib.hid (HNo2.out HCf.out)
            clear HCf HNo2 ho
            go_wp2
            go_roundw
            case rel => exact ⟨c + 1, by omega, by go_num, HB.out, HN3⟩
            case measure => simp [intOf]; omega
          · rw [ho] at HCf
            have HIH1 := Lib.hid (fun b' g' cap' W h => HIH.out c b' g' cap' W hck hcu h)
            have p1 : IntKind.i64.wrap ((c : Int) + 1) = (c : Int) + 1 := IntWalk.i64_in _ ⟨by omega, by omega⟩
            have hHB := HB.out
            have hBa := hHB.alloc hsz (.cells #[] 3)
            have HIa := Lib.hid (show IsInts (wr.alloc (.cells #[] 3)) b (.slice (some ⟨g, 0, none⟩) j cap) xs from World.ownsRow.alloc HIr.out _)
            have HX1 := Lib.hid (nil_made wr wr.heap.size (Nat.le_refl _))
            have hzW : wr.heap.size ≤ (wr.alloc (.cells #[] 3)).heap.size := by simp
            have HBa := Lib.hid hBa
            have HzW := Lib.hid hzW
            have HYc := Lib.hid (HYes.out c hlt)
            clear hBa hzW hHB
            by_cases hmu : used < c + 1
            · have hM : max used (c + 1) = c + 1 := by omega
              have x1 : (used : Int) < (c : Int) + 1 := by omega
              have x2 := decide_eq_true x1
              have x3 : decide (used < c + 1) = true := decide_eq_true hmu
              rw [hM] at HIH1 HCf
              have HIH2 := Lib.hid (fun b' g' cap' W h => HIH1.out b' g' cap' W h)
              rw [Int.natCast_add] at HIH2
              have HCf2 : Hid (canF c = canN q k m (xs ++ [(c : Int)]) (c + 1)) := HCf
              generalize canN q k m (xs ++ [(c : Int)]) (c + 1) = y at *
              clear hM hmu HCf ho HIH1
              go_wp2_with (first
                | (at_builtin; refine wpList_append_want rfl (.tmp 60) (.tmp 61) rfl (.slice (some ⟨wr.heap.size, 0, none⟩) 0 0) [] xs (wr.alloc (.cells #[] 3)) wr.heap.size g cap b rfl (by rw [HL.out]; rfl) HX1.out (by rw [HL.out]; exact HIa.out) HLs.out HzW.out (fun v2 W5 hX2 hkeep2 hbelow2 hgrow2 => ?_);
                    have HX2 := Lib.hid (show IsInts W5 wr.heap.size v2 xs from hX2); have HB5 := Lib.hid (hbelow2 _ _ hsz HBa.out); have HG5 := Lib.hid (Nat.le_trans HzW.out hgrow2); clear hX2 hkeep2 hbelow2 hgrow2)
                | (at_builtin; refine wpList_append_want rfl (.tmp 62) (.tmp 64) rfl v2 xs [(c : Int)] (W5.alloc (.cells #[.int .i64 (c : Int)] 3)) wr.heap.size W5.heap.size 1 wr.heap.size rfl rfl (World.ownsRow.alloc HX2.out _) (lit_one W5 wr.heap.size (c : Int) HG5.out) (HLs2.out c) (Nat.le_trans HG5.out (by simp)) (fun v3 W7 hX3 hkeep3 hbelow3 hgrow3 => ?_);
                    have HX3 := Lib.hid hX3; have HB7 := Lib.hid (hbelow3 _ _ hsz (HB5.out.alloc (Nat.le_trans hsz HG5.out) (.cells #[.int .i64 (c : Int)] 3))); clear hX3 hkeep3 hbelow3 hgrow3)
                | fail)
              clear HX2 HIa HX1
              rcases HX3.out.shape with ⟨_, e⟩ | ⟨g3, cap3, hv3, hg31, hg32, hg33⟩
              · exact absurd e (by simp)
              subst hv3
              refine (HIH2.out _ _ _ _ HX3.out).mono ?_
              rintro e W9 ⟨rfl, hb9⟩
              have HB9 := Lib.hid (HB7.out.trans (hb9.mono HB7.out.size))
              clear hb9 hg33
              cases hy : y
              · have HN3 := Lib.hid (HNo2.out (by rw [HCf2.out, hy]))
                clear HCf2 HNo2 hy HYc
                go_wp2
                go_roundw
                case rel => exact ⟨c + 1, by omega, by go_num, HB9.out, HN3⟩
                case measure => simp [intOf]; omega
              · have HF := Lib.hid (HYc.out (by rw [HCf2.out, hy]))
                clear HCf2 HNo2 hy HYc
                go_wp2
                go_ret
                exact ⟨ret_bool HF.out.symm, HB9.out⟩
            · have hM : max used (c + 1) = used := by omega
              have x1 : ¬ (used : Int) < (c : Int) + 1 := by omega
              have x2 := decide_eq_false x1
              have x3 : decide (used < c + 1) = false := decide_eq_false hmu
              rw [hM] at HIH1 HCf
              have HIH2 := Lib.hid (fun b' g' cap' W h => HIH1.out b' g' cap' W h)
              have HCf2 : Hid (canF c = canN q k m (xs ++ [(c : Int)]) used) := HCf
              generalize canN q k m (xs ++ [(c : Int)]) used = y at *
              clear hM hmu HCf ho HIH1
              go_wp2_with (first
                | (at_builtin; refine wpList_append_want rfl (.tmp 60) (.tmp 61) rfl (.slice (some ⟨wr.heap.size, 0, none⟩) 0 0) [] xs (wr.alloc (.cells #[] 3)) wr.heap.size g cap b rfl (by rw [HL.out]; rfl) HX1.out (by rw [HL.out]; exact HIa.out) HLs.out HzW.out (fun v2 W5 hX2 hkeep2 hbelow2 hgrow2 => ?_);
                    have HX2 := Lib.hid (show IsInts W5 wr.heap.size v2 xs from hX2); have HB5 := Lib.hid (hbelow2 _ _ hsz HBa.out); have HG5 := Lib.hid (Nat.le_trans HzW.out hgrow2); clear hX2 hkeep2 hbelow2 hgrow2)
                | (at_builtin; refine wpList_append_want rfl (.tmp 62) (.tmp 64) rfl v2 xs [(c : Int)] (W5.alloc (.cells #[.int .i64 (c : Int)] 3)) wr.heap.size W5.heap.size 1 wr.heap.size rfl rfl (World.ownsRow.alloc HX2.out _) (lit_one W5 wr.heap.size (c : Int) HG5.out) (HLs2.out c) (Nat.le_trans HG5.out (by simp)) (fun v3 W7 hX3 hkeep3 hbelow3 hgrow3 => ?_);
                    have HX3 := Lib.hid hX3; have HB7 := Lib.hid (hbelow3 _ _ hsz (HB5.out.alloc (Nat.le_trans hsz HG5.out) (.cells #[.int .i64 (c : Int)] 3))); clear hX3 hkeep3 hbelow3 hgrow3)
                | fail)
              clear HX2 HIa HX1
              rcases HX3.out.shape with ⟨_, e⟩ | ⟨g3, cap3, hv3, hg31, hg32, hg33⟩
              · exact absurd e (by simp)
              subst hv3
              refine (HIH2.out _ _ _ _ HX3.out).mono ?_
              rintro e W9 ⟨rfl, hb9⟩
              have HB9 := Lib.hid (HB7.out.trans (hb9.mono HB7.out.size))
              clear hb9 hg33
              cases hy : y
              · have HN3 := Lib.hid (HNo2.out (by rw [HCf2.out, hy]))
                clear HCf2 HNo2 hy HYc
                go_wp2
                go_roundw
                case rel => exact ⟨c + 1, by omega, by go_num, HB9.out, HN3⟩
                case measure => simp [intOf]; omega
              · have HF := Lib.hid (HYc.out (by rw [HCf2.out, hy]))
                clear HCf2 HNo2 hy HYc
                go_wp2
                go_ret
                exact ⟨ret_bool HF.out.symm, HB9.out⟩
    · obtain rfl : c = (used + 1) := by omega
      have HF := Lib.hid (HEnd.out HNo.out)
      go_wp2
      go_ret
      exact ⟨ret_bool HF.out.symm, HB.out⟩
set_option maxRecDepth 100000 in
set_option maxHeartbeats 1000000 in
theorem l6fCan_hi (m n s k b g cap used : Nat) (xs : List Int) (w : World) (h1 : 1 ≤ n) (h2 : n ≤ 8) (hs : s < 2 ^ n) (hk : k ≤ 1000) (hu : used ≤ 1000) (hl : xs.length + (m + 1) = n) (hmk : ¬ used + 1 < k)
    (hI : IsInts w b (.slice (some ⟨g, 0, none⟩) xs.length cap) xs)
    (IH : ∀ (v b' g' cap' : Nat) (W : World), v < k → v ≤ used → IsInts W b' (.slice (some ⟨g', 0, none⟩) (xs ++ [(v : Int)]).length cap') (xs ++ [(v : Int)]) →
      Calls Try.prog 58 #[.int .i64 (n:Int), .int .i64 (s:Int), .int .i64 (k:Int), .slice (some ⟨g', 0, none⟩) (xs ++ [(v : Int)]).length cap', .int .i64 ((max used (v + 1) : Nat) : Int)] W fun e w' => e = .returned (.bool (canN (bothN n s) k m (xs ++ [(v : Int)]) (max used (v + 1)))) ∧ Below W.heap.size W w') :
    Calls Try.prog 58 #[.int .i64 (n:Int), .int .i64 (s:Int), .int .i64 (k:Int), .slice (some ⟨g, 0, none⟩) xs.length cap, .int .i64 (used:Int)] w fun e w' => e = .returned (.bool (canN (bothN n s) k (m + 1) xs used)) ∧ Below w.heap.size w w' := by
  have hmx : Try.prog.follows .mixedOrders = true := by kernel_rfl
  have hpw := pow_le n (by omega)
  have HBo := Lib.hid (fun W => l2Both_any n s W h1 (by omega) hs)
  have hbl := bothN_lt n s h1 hs
  have HI := Lib.hid hI
  have HIH := Lib.hid IH
  have HWe : Hid (canN (bothN n s) k (m + 1) xs used = anyN (fun c => okTo (bothN n s) xs c xs.length && canN (bothN n s) k m (xs ++ [(c : Int)]) (max used (c + 1))) (min k (used + 1))) := Lib.hid rfl
  generalize bothN n s = q at *
  have hgl := (World.ownsRow.lt hI g rfl).2
  have HLs : Hid (([] : List Int).length + xs.length ≤ 1000) := Lib.hid (by simp; omega)
  have HLs2 : Hid (∀ v : Nat, xs.length + [(v : Int)].length ≤ 1000) := Lib.hid (fun v => by simp; omega)
  obtain ⟨L, hL⟩ : ∃ L, xs.length = L := ⟨_, rfl⟩
  rw [hL] at HI hl HWe ⊢
  have HL := Lib.hid hL
  have e1 : ((L : Int) == (n : Int)) = false := beq_cast_ne (by omega)
  obtain ⟨canF, hcanF⟩ : ∃ canF : Nat → Bool, canF = fun c => okTo q xs c L && canN q k m (xs ++ [(c : Int)]) (max used (c + 1)) := ⟨_, rfl⟩
  rw [← hcanF] at HWe
  have HCan : Hid (∀ c, canF c = (okTo q xs c L && canN q k m (xs ++ [(c : Int)]) (max used (c + 1)))) := Lib.hid (fun c => by rw [hcanF])
  obtain ⟨K, hK⟩ : ∃ K, min k (used + 1) = K := ⟨_, rfl⟩
  rw [hK] at HWe
  have hKe : K = k := by omega
  rw [hKe] at HWe
  clear hKe hK
  have m1 : ¬ (used : Int) + 1 < (k : Int) := by omega
  have m2 := decide_eq_false m1
  have m3 : decide (used + 1 < k) = false := decide_eq_false hmk
  have p0 : IntKind.i64.wrap ((used : Int) + 1) = (used : Int) + 1 := IntWalk.i64_in _ ⟨by omega, by omega⟩
  have HEnd : Hid ((∀ d, d < k → canF d = false) → canN q k (m + 1) xs used = false) := Lib.hid (fun h => by rw [HWe.out]; exact anyN_false canF k h)
  have HYes : Hid (∀ d, d < k → canF d = true → canN q k (m + 1) xs used = true) := Lib.hid (fun d hd h => by rw [HWe.out]; exact anyN_true canF k d hd h)
  have HMa : Hid (∀ c : Nat, True) := Lib.hid (fun _ => trivial)
  clear hI hL IH HWe hcanF
  go_enter Try.func58, Try.ntmps58
  go_wp2_with (go_at_call 52; refine (HBo.out _).mono ?_; rintro e w' ⟨rfl, rfl⟩)
  --GEN40Chi
  go_loopw [13] (fun vs wr => ∃ c : Nat, c ≤ k ∧ vs = .int .i64 (c : Int) ∧ Below w.heap.size w wr ∧ Hid (∀ d, d < c → canF d = false)) (fun vs _ => k - (intOf vs).toNat)
  case atStart => exact ⟨0, Nat.zero_le _, rfl, Below.refl _ _, Lib.hid (fun d hd => absurd hd (by omega))⟩
  case round =>
    obtain ⟨c, hc, rfl, hB, HNo⟩ := hrel
    have HB := Lib.hid hB
    have HIr := Lib.hid (HI.out.belowAll hB)
    have hsz := hB.size
    clear hB
    by_cases hlt : c < k
    · have hck : c < k := by omega
      have hcu : c ≤ used := by omega
      have c1 : (c : Int) < (k : Int) := by omega
      have c2 := decide_eq_true c1
      have c3 : decide (c < k) = true := decide_eq_true hlt
      go_wp2
      go_loop [14, 15] (fun u v => ∃ j : Nat, j ≤ L ∧ u = .bool (okTo q xs c j) ∧ v = .int .i64 (j : Int)) (fun _ v => L - (intOf v).toNat)
      case atStart => exact ⟨0, Nat.zero_le _, rfl, rfl⟩
      case round =>
        obtain ⟨j, hj, rfl, rfl⟩ := hrel
        by_cases hjl : j < L
        · have HOk : Hid (okTo q xs c (j + 1) = (okTo q xs c j && (!q.testBit (L - j) || !decide (xs.getD j 0 = (c : Int))))) := Lib.hid (by rw [← HL.out]; rfl)
          have cj := HIr.out.cell (i := j) (by rw [HL.out]; exact hjl)
          obtain ⟨Dd, hD⟩ : ∃ Dd, L - j = Dd := ⟨_, rfl⟩
          rw [hD] at HOk
          have dI : (L : Int) - (j : Int) = (Dd : Int) := by omega
          have d1 : IntKind.i64.wrap ((L : Int) - (j : Int)) = (Dd : Int) := by rw [dI]; exact IntWalk.i64_in _ ⟨by omega, by omega⟩
          have d2 : wrap64 ((L : Int) - (j : Int)) = (Dd : Int) := by rw [dI]; exact IntWalk.wrap64_in _ ⟨by omega, by omega⟩
          have hD64 : min Dd 64 = Dd := by omega
          have hbt := has_nat0 q Dd (by omega)
          have i1 : (0 : Int) ≤ (j : Int) := by omega
          have i2 : (j : Int) < (L : Int) := by omega
          have i3 : (0 : Int) ≤ (Dd : Int) := by omega
          generalize xs.getD j 0 = z at *
          clear hD dI
          cases ho : okTo q xs c j
          · rw [ho] at HOk
            have HOk2 : Hid (okTo q xs c (j + 1) = false) := HOk
            clear HOk ho hbt
            go_wp2
            go_round
            case rel => exact ⟨j + 1, by omega, by rw [HOk2.out], by go_num⟩
            case measure => simp [intOf]; omega
          · rw [ho] at HOk
            cases hb : q.testBit Dd
            · rw [hb] at hbt HOk
              have HOk2 : Hid (okTo q xs c (j + 1) = true) := HOk
              clear HOk ho hb
              go_wp2
              go_round
              case rel => exact ⟨j + 1, by omega, by rw [HOk2.out], by go_num⟩
              case measure => simp [intOf]; omega
            · rw [hb] at hbt HOk
              by_cases hz : z = (c : Int)
              · rw [decide_eq_true hz] at HOk
                have HOk2 : Hid (okTo q xs c (j + 1) = false) := HOk
                have e1 : (z == (c : Int)) = true := by simp [hz]
                have e2 : (z != (c : Int)) = false := by simp [hz]
                clear HOk ho hb hz
                go_wp2
                go_round
                case rel => exact ⟨j + 1, by omega, by rw [HOk2.out], by go_num⟩
                case measure => simp [intOf]; omega
              · rw [decide_eq_false hz] at HOk
                have HOk2 : Hid (okTo q xs c (j + 1) = true) := HOk
                have e1 : (z == (c : Int)) = false := by simp [hz]
                have e2 : (z != (c : Int)) = true := by simp [hz]
                clear HOk ho hb hz
                go_wp2
                go_round
                case rel => exact ⟨j + 1, by omega, by rw [HOk2.out], by go_num⟩
                case measure => simp [intOf]; omega
        · obtain rfl : j = L := by omega
          have HCf := Lib.hid (HCan.out c)
          have HNo2 : Hid (canF c = false → ∀ d, d < c + 1 → canF d = false) := Lib.hid (fun h d hd => by
            by_cases e : d = c
            · subst e; exact h
            · exact HNo.out d (by omega))
          cases ho : okTo q xs c j
          · rw [ho] at HCf
            have HN3 := Lib.hid (HNo2.out HCf.out)
            clear HCf HNo2 ho
            go_wp2
            go_roundw
            case rel => exact ⟨c + 1, by omega, by go_num, HB.out, HN3⟩
            case measure => simp [intOf]; omega
          · rw [ho] at HCf
            have HIH1 := Lib.hid (fun b' g' cap' W h => HIH.out c b' g' cap' W hck hcu h)
            have p1 : IntKind.i64.wrap ((c : Int) + 1) = (c : Int) + 1 := IntWalk.i64_in _ ⟨by omega, by omega⟩
            have hHB := HB.out
            have hBa := hHB.alloc hsz (.cells #[] 3)
            have HIa := Lib.hid (show IsInts (wr.alloc (.cells #[] 3)) b (.slice (some ⟨g, 0, none⟩) j cap) xs from World.ownsRow.alloc HIr.out _)
            have HX1 := Lib.hid (nil_made wr wr.heap.size (Nat.le_refl _))
            have hzW : wr.heap.size ≤ (wr.alloc (.cells #[] 3)).heap.size := by simp
            have HBa := Lib.hid hBa
            have HzW := Lib.hid hzW
            have HYc := Lib.hid (HYes.out c hlt)
            clear hBa hzW hHB
            by_cases hmu : used < c + 1
            · have hM : max used (c + 1) = c + 1 := by omega
              have x1 : (used : Int) < (c : Int) + 1 := by omega
              have x2 := decide_eq_true x1
              have x3 : decide (used < c + 1) = true := decide_eq_true hmu
              rw [hM] at HIH1 HCf
              have HIH2 := Lib.hid (fun b' g' cap' W h => HIH1.out b' g' cap' W h)
              rw [Int.natCast_add] at HIH2
              have HCf2 : Hid (canF c = canN q k m (xs ++ [(c : Int)]) (c + 1)) := HCf
              generalize canN q k m (xs ++ [(c : Int)]) (c + 1) = y at *
              clear hM hmu HCf ho HIH1
              go_wp2_with (first
                | (at_builtin; refine wpList_append_want rfl (.tmp 60) (.tmp 61) rfl (.slice (some ⟨wr.heap.size, 0, none⟩) 0 0) [] xs (wr.alloc (.cells #[] 3)) wr.heap.size g cap b rfl (by rw [HL.out]; rfl) HX1.out (by rw [HL.out]; exact HIa.out) HLs.out HzW.out (fun v2 W5 hX2 hkeep2 hbelow2 hgrow2 => ?_);
                    have HX2 := Lib.hid (show IsInts W5 wr.heap.size v2 xs from hX2); have HB5 := Lib.hid (hbelow2 _ _ hsz HBa.out); have HG5 := Lib.hid (Nat.le_trans HzW.out hgrow2); clear hX2 hkeep2 hbelow2 hgrow2)
                | (at_builtin; refine wpList_append_want rfl (.tmp 62) (.tmp 64) rfl v2 xs [(c : Int)] (W5.alloc (.cells #[.int .i64 (c : Int)] 3)) wr.heap.size W5.heap.size 1 wr.heap.size rfl rfl (World.ownsRow.alloc HX2.out _) (lit_one W5 wr.heap.size (c : Int) HG5.out) (HLs2.out c) (Nat.le_trans HG5.out (by simp)) (fun v3 W7 hX3 hkeep3 hbelow3 hgrow3 => ?_);
                    have HX3 := Lib.hid hX3; have HB7 := Lib.hid (hbelow3 _ _ hsz (HB5.out.alloc (Nat.le_trans hsz HG5.out) (.cells #[.int .i64 (c : Int)] 3))); clear hX3 hkeep3 hbelow3 hgrow3)
                | fail)
              clear HX2 HIa HX1
              rcases HX3.out.shape with ⟨_, e⟩ | ⟨g3, cap3, hv3, hg31, hg32, hg33⟩
              · exact absurd e (by simp)
              subst hv3
              refine (HIH2.out _ _ _ _ HX3.out).mono ?_
              rintro e W9 ⟨rfl, hb9⟩
              have HB9 := Lib.hid (HB7.out.trans (hb9.mono HB7.out.size))
              clear hb9 hg33
              cases hy : y
              · have HN3 := Lib.hid (HNo2.out (by rw [HCf2.out, hy]))
                clear HCf2 HNo2 hy HYc
                go_wp2
                go_roundw
                case rel => exact ⟨c + 1, by omega, by go_num, HB9.out, HN3⟩
                case measure => simp [intOf]; omega
              · have HF := Lib.hid (HYc.out (by rw [HCf2.out, hy]))
                clear HCf2 HNo2 hy HYc
                go_wp2
                go_ret
                exact ⟨ret_bool HF.out.symm, HB9.out⟩
            · have hM : max used (c + 1) = used := by omega
              have x1 : ¬ (used : Int) < (c : Int) + 1 := by omega
              have x2 := decide_eq_false x1
              have x3 : decide (used < c + 1) = false := decide_eq_false hmu
              rw [hM] at HIH1 HCf
              have HIH2 := Lib.hid (fun b' g' cap' W h => HIH1.out b' g' cap' W h)
              have HCf2 : Hid (canF c = canN q k m (xs ++ [(c : Int)]) used) := HCf
              generalize canN q k m (xs ++ [(c : Int)]) used = y at *
              clear hM hmu HCf ho HIH1
              go_wp2_with (first
                | (at_builtin; refine wpList_append_want rfl (.tmp 60) (.tmp 61) rfl (.slice (some ⟨wr.heap.size, 0, none⟩) 0 0) [] xs (wr.alloc (.cells #[] 3)) wr.heap.size g cap b rfl (by rw [HL.out]; rfl) HX1.out (by rw [HL.out]; exact HIa.out) HLs.out HzW.out (fun v2 W5 hX2 hkeep2 hbelow2 hgrow2 => ?_);
                    have HX2 := Lib.hid (show IsInts W5 wr.heap.size v2 xs from hX2); have HB5 := Lib.hid (hbelow2 _ _ hsz HBa.out); have HG5 := Lib.hid (Nat.le_trans HzW.out hgrow2); clear hX2 hkeep2 hbelow2 hgrow2)
                | (at_builtin; refine wpList_append_want rfl (.tmp 62) (.tmp 64) rfl v2 xs [(c : Int)] (W5.alloc (.cells #[.int .i64 (c : Int)] 3)) wr.heap.size W5.heap.size 1 wr.heap.size rfl rfl (World.ownsRow.alloc HX2.out _) (lit_one W5 wr.heap.size (c : Int) HG5.out) (HLs2.out c) (Nat.le_trans HG5.out (by simp)) (fun v3 W7 hX3 hkeep3 hbelow3 hgrow3 => ?_);
                    have HX3 := Lib.hid hX3; have HB7 := Lib.hid (hbelow3 _ _ hsz (HB5.out.alloc (Nat.le_trans hsz HG5.out) (.cells #[.int .i64 (c : Int)] 3))); clear hX3 hkeep3 hbelow3 hgrow3)
                | fail)
              clear HX2 HIa HX1
              rcases HX3.out.shape with ⟨_, e⟩ | ⟨g3, cap3, hv3, hg31, hg32, hg33⟩
              · exact absurd e (by simp)
              subst hv3
              refine (HIH2.out _ _ _ _ HX3.out).mono ?_
              rintro e W9 ⟨rfl, hb9⟩
              have HB9 := Lib.hid (HB7.out.trans (hb9.mono HB7.out.size))
              clear hb9 hg33
              cases hy : y
              · have HN3 := Lib.hid (HNo2.out (by rw [HCf2.out, hy]))
                clear HCf2 HNo2 hy HYc
                go_wp2
                go_roundw
                case rel => exact ⟨c + 1, by omega, by go_num, HB9.out, HN3⟩
                case measure => simp [intOf]; omega
              · have HF := Lib.hid (HYc.out (by rw [HCf2.out, hy]))
                clear HCf2 HNo2 hy HYc
                go_wp2
                go_ret
                exact ⟨ret_bool HF.out.symm, HB9.out⟩
    · obtain rfl : c = k := by omega
      have HF := Lib.hid (HEnd.out HNo.out)
      go_wp2
      go_ret
      exact ⟨ret_bool HF.out.symm, HB.out⟩
end Go.Proofs.Ytfjcdcjhdjkjaaa

/- Fair colours: the model's FreeColours. -/
namespace Go.Proofs.Ytfjcdcjhdjkjaaa
open Go.RowKit Go.Shelf
set_option linter.unusedVariables false
theorem l6fCan_any (m n s k b g cap used : Nat) (xs : List Int) (w : World) (h1 : 1 ≤ n) (h2 : n ≤ 8) (hs : s < 2 ^ n) (hk : k ≤ 1000) (hu : used ≤ 1000) (hl : xs.length + m = n)
    (hI : IsInts w b (.slice (some ⟨g, 0, none⟩) xs.length cap) xs) :
    Calls Try.prog 58 #[.int .i64 (n:Int), .int .i64 (s:Int), .int .i64 (k:Int), .slice (some ⟨g, 0, none⟩) xs.length cap, .int .i64 (used:Int)] w fun e w' => e = .returned (.bool (canN (bothN n s) k m xs used)) ∧ Below w.heap.size w w' := by
  induction m generalizing xs b g cap w used with
  | zero => exact l6fCan_zero n s k b g cap used xs w (by omega)
  | succ m ih =>
    have IH := fun (v b' g' cap' : Nat) (W : World) (hv : v < k) (hu' : v ≤ used) hX => ih b' g' cap' (max used (v + 1)) (xs ++ [(v : Int)]) W (by omega) (by rw [List.length_append, List.length_singleton]; omega) hX
    by_cases hmk : used + 1 < k
    · exact l6fCan_lo m n s k b g cap used xs w h1 h2 hs hk hu hl hmk hI IH
    · exact l6fCan_hi m n s k b g cap used xs w h1 h2 hs hk hu hl hmk hI IH
/-- The least number from k on that p lets by, f ones being tried. -/
def leastK (p : Nat → Bool) : Nat → Nat → Nat
  | 0, k => k
  | f + 1, k => if p k then k else leastK p f (k + 1)
theorem leastK_eq (p : Nat → Bool) (f k m : Nat) (h1 : k ≤ m) (h2 : m ≤ k + f) (h3 : p m = true) (h4 : ∀ j, k ≤ j → j < m → p j = false) : leastK p f k = m := by
  induction f generalizing k with
  | zero =>
    show k = m
    omega
  | succ f ih =>
    show (if p k then k else leastK p f (k + 1)) = m
    by_cases e : k = m
    · subst e; rw [if_pos h3]
    · rw [h4 k (Nat.le_refl _) (by omega)]
      exact ih (k + 1) (by omega) (by omega) fun j hj hm => h4 j (by omega) hm
theorem ok_fresh (q : Nat) (xs : List Int) (c j : Nat) (hj : j ≤ xs.length) (h : ∀ i, i < xs.length → xs.getD i 0 < (c : Int)) : okTo q xs c j = true := by
  induction j with
  | zero => rfl
  | succ j ih =>
    show (okTo q xs c j && (!q.testBit (xs.length - j) || !decide (xs.getD j 0 = (c : Int)))) = true
    rw [ih (by omega), decide_eq_false (by have := h j (by omega); omega)]
    simp
/-- With as many colours as are open there are fair ones. -/
theorem can_fresh (q k m : Nat) (xs : List Int) (used : Nat) (hu : used + m ≤ k) (h : ∀ i, i < xs.length → xs.getD i 0 < (used : Int)) : canN q k m xs used = true := by
  induction m generalizing xs used with
  | zero => rfl
  | succ m ih =>
    show anyN (fun c => okTo q xs c xs.length && canN q k m (xs ++ [(c : Int)]) (max used (c + 1))) (min k (used + 1)) = true
    refine anyN_true _ _ used (by omega) ?_
    have hm : max used (used + 1) = used + 1 := by omega
    show (okTo q xs used xs.length && canN q k m (xs ++ [(used : Int)]) (max used (used + 1))) = true
    rw [ok_fresh q xs used xs.length (Nat.le_refl _) h, hm, Bool.true_and]
    refine ih _ _ (by omega) fun i hi => ?_
    rw [List.length_append, List.length_singleton] at hi
    by_cases e : i < xs.length
    · have := h i e
      rw [List.getD_eq_getElem?_getD, List.getElem?_append_left e, ← List.getD_eq_getElem?_getD]
      omega
    · obtain rfl : i = xs.length := by omega
      rw [List.getD_eq_getElem?_getD, List.getElem?_append_right (Nat.le_refl _), Nat.sub_self]
      show (used : Int) < ((used + 1 : Nat) : Int)
      omega
def canF (n s k : Nat) : Bool := canN (bothN n s) k n [] 0
def colF (n s : Nat) : Nat := leastK (canF n s) 8 1
theorem canF_n (n s : Nat) : canF n s n = true := can_fresh _ n n [] 0 (by omega) (fun i hi => by simp at hi)
theorem colF_eq (n s k : Nat) (h1 : 1 ≤ k) (h2 : k ≤ 9) (h3 : canF n s k = true) (h4 : ∀ j, 1 ≤ j → j < k → canF n s j = false) : colF n s = k := leastK_eq _ 8 1 k h1 (by omega) h3 h4
/-- Where FreeColours tells nothing. -/
def NoCol (n s : Int) : Prop := NoStep n s ∨ ¬ n ≤ 8
theorem specFreeColours_yes (n s : Nat) (w : World) (h1 : 1 ≤ n) (h2 : n ≤ 8) (hs : s < 2 ^ n) (h0 : s.testBit 0 = false) :
    Calls Try.prog 25 #[.int .i64 (n:Int), .int .i64 (s:Int)] w fun e w' => e = .returned (.tuple #[.int .i64 ((colF n s : Nat) : Int), .bool true]) ∧ Below w.heap.size w w' := by
  have HI := Lib.hid (fun W => specStep_yes n s W h1 (by omega) hs h0)
  have HC := Lib.hid (fun k (hk : k ≤ n) W => l6fCan_any n n s k W.heap.size W.heap.size 0 0 [] (W.alloc (.cells #[] 3)) h1 h2 hs (by omega) (by omega) (by simp) (nil_made W W.heap.size (Nat.le_refl _)))
  have HF : Hid (∀ k, canN (bothN n s) k n [] 0 = canF n s k) := Lib.hid (fun k => rfl)
  have HN := Lib.hid (canF_n n s)
  have HE := Lib.hid (fun k h1 h2 h3 h4 => colF_eq n s k h1 h2 h3 h4)
  have k1 : ¬ (8 : Int) < (n : Int) := by omega
  have k2 : decide ((8 : Int) < (n : Int)) = false := decide_eq_false k1
  clear h0
  go_enter Try.func25, Try.ntmps25
  go_wp2_with (go_at_call 46; refine (HI.out _).mono ?_; rintro e w' ⟨rfl, rfl⟩)
  go_loopw [6] (fun u wr => ∃ k : Nat, 1 ≤ k ∧ k ≤ n ∧ u = .int .i64 (k : Int) ∧ Below w.heap.size w wr ∧ Hid (∀ j, 1 ≤ j → j < k → canF n s j = false)) (fun u _ => n + 1 - (intOf u).toNat)
  case atStart => exact ⟨1, Nat.le_refl _, h1, rfl, Below.refl _ _, Lib.hid (fun j a b => absurd b (by omega))⟩
  case round =>
    obtain ⟨k, hk1, hk, rfl, hB, HNo⟩ := hrel
    have HB := Lib.hid hB
    have HBa := Lib.hid (hB.alloc hB.size (.cells #[] 3))
    have HC1 := Lib.hid (HC.out k hk)
    rw [HF.out] at HC1
    clear hB
    cases hc : canF n s k
    · rw [hc] at HC1
      have hne : k ≠ n := fun e => by
        subst e
        rw [HN.out] at hc
        cases hc
      have HN2 : Hid (∀ j, 1 ≤ j → j < k + 1 → canF n s j = false) := Lib.hid (fun j h1 h2 => by
        by_cases e : j = k
        · subst e; exact hc
        · exact HNo.out j h1 (by omega))
      clear hc
      go_wp2_with fail
      refine (HC1.out _).mono ?_
      rintro e w2 ⟨rfl, hb2⟩
      have HB2 := Lib.hid (HBa.out.trans (hb2.mono HBa.out.size))
      clear hb2
      go_wp2
      go_roundw
      case rel => exact ⟨k + 1, by omega, by omega, by go_num, HB2.out, HN2⟩
      case measure => simp [intOf]; omega
    · rw [hc] at HC1
      have HF2 := Lib.hid (HE.out k hk1 (by omega) hc HNo.out)
      clear hc
      go_wp2_with fail
      refine (HC1.out _).mono ?_
      rintro e w2 ⟨rfl, hb2⟩
      have HB2 := Lib.hid (HBa.out.trans (hb2.mono HBa.out.size))
      clear hb2
      go_wp2
      go_ret2
      exact ⟨by rw [HF2.out]; rfl, HB2.out⟩
theorem specFreeColours_no (n s : Int) (w : World) (h : NoCol n s) :
    Calls Try.prog 25 #[.int .i64 n, .int .i64 s] w fun e w' => e = .returned (.tuple #[.int .i64 0, .bool false]) ∧ w = w' := by
  by_cases hn : NoStep n s
  · have HI := Lib.hid (specStep_no n s w hn)
    clear h hn
    go_enter Try.func25, Try.ntmps25
    go_wp2_with (go_at_call 46; refine HI.out.mono ?_; rintro e w' ⟨rfl, rfl⟩)
    go_ret2
    exact ⟨rfl, rfl⟩
  · obtain ⟨m, t, rfl, rfl, h1, h2, h3, h4⟩ := not_noStep hn
    have HI := Lib.hid (specStep_yes m t w h1 h2 h3 h4)
    have h8 := h.resolve_left hn
    have k1 : (8 : Int) < (m : Int) := by omega
    have k2 : decide ((8 : Int) < (m : Int)) = true := decide_eq_true k1
    clear h hn h8
    go_enter Try.func25, Try.ntmps25
    go_wp2_with (go_at_call 46; refine HI.out.mono ?_; rintro e w' ⟨rfl, rfl⟩)
    go_ret2
    exact ⟨rfl, rfl⟩
end Go.Proofs.Ytfjcdcjhdjkjaaa

/- The exact laws of chapter 6 over given contracts of the program. -/
namespace Go.Proofs.Ytfjcdcjhdjkjaaa
open Go.RowKit Go.Shelf
set_option linter.unusedVariables false
def NoFreeMost : Prop := ∀ (n s : Int) (W : World), NoStep n s → Calls Try.prog 12 #[.int .i64 n, .int .i64 s] W fun e w' => e = .returned (.tuple #[.int .i64 0, .bool false]) ∧ Below W.heap.size W w'
def YesFreeMost : Prop := ∀ (n s : Nat) (W : World), 1 ≤ n → n ≤ 12 → s < 2 ^ n → s.testBit 0 = false → Calls Try.prog 12 #[.int .i64 (n:Int), .int .i64 (s:Int)] W fun e w' => e = .returned (.tuple #[.int .i64 ((mostF n s : Nat) : Int), .bool true]) ∧ Below W.heap.size W w'
def NoFreeMany : Prop := ∀ (n s : Int) (W : World), NoStep n s → Calls Try.prog 17 #[.int .i64 n, .int .i64 s] W fun e w' => e = .returned (.tuple #[.int .i64 0, .bool false]) ∧ Below W.heap.size W w'
def YesFreeMany : Prop := ∀ (n s : Nat) (W : World), 1 ≤ n → n ≤ 12 → s < 2 ^ n → s.testBit 0 = false → Calls Try.prog 17 #[.int .i64 (n:Int), .int .i64 (s:Int)] W fun e w' => e = .returned (.tuple #[.int .i64 ((manyF n s : Nat) : Int), .bool true]) ∧ Below W.heap.size W w'
def NoFreeFull : Prop := ∀ (n s : Int) (W : World), NoStep n s → Calls Try.prog 15 #[.int .i64 n, .int .i64 s] W fun e w' => e = .returned (.tuple #[.int .i64 0, .bool false]) ∧ Below W.heap.size W w'
def YesFreeFull : Prop := ∀ (n s : Nat) (W : World), 1 ≤ n → n ≤ 12 → s < 2 ^ n → s.testBit 0 = false → Calls Try.prog 15 #[.int .i64 (n:Int), .int .i64 (s:Int)] W fun e w' => e = .returned (.tuple #[.int .i64 ((fullF n s : Nat) : Int), .bool true]) ∧ Below W.heap.size W w'
def NoFreeWatch : Prop := ∀ (n s : Int) (W : World), NoStep n s → Calls Try.prog 31 #[.int .i64 n, .int .i64 s] W fun e w' => e = .returned (.tuple #[.int .i64 0, .bool false]) ∧ Below W.heap.size W w'
def YesFreeWatch : Prop := ∀ (n s : Nat) (W : World), 1 ≤ n → n ≤ 12 → s < 2 ^ n → s.testBit 0 = false → Calls Try.prog 31 #[.int .i64 (n:Int), .int .i64 (s:Int)] W fun e w' => e = .returned (.tuple #[.int .i64 ((watchF n s : Nat) : Int), .bool true]) ∧ Below W.heap.size W w'
theorem not_noCol {n s : Int} (h : ¬ NoCol n s) : ∃ m t : Nat, n = (m : Int) ∧ s = (t : Int) ∧ 1 ≤ m ∧ m ≤ 8 ∧ t < 2 ^ m ∧ t.testBit 0 = false := by
  obtain ⟨m, t, rfl, rfl, h1, h2, h3, h4⟩ := not_noStep (fun hh => h (.inl hh))
  have h5 : (m : Int) ≤ 8 := Decidable.byContradiction fun hh => h (.inr hh)
  exact ⟨m, t, rfl, rfl, h1, by omega, h3, h4⟩
theorem not_noWays {n s k : Int} (h : ¬ NoWays n s k) : ∃ m t j : Nat, n = (m : Int) ∧ s = (t : Int) ∧ k = (j : Int) ∧ 1 ≤ m ∧ m ≤ 8 ∧ t < 2 ^ m ∧ t.testBit 0 = false ∧ j ≤ 4 := by
  obtain ⟨m, t, rfl, rfl, h1, h2, h3, h4⟩ := not_noStep (fun hh => h (.inl hh))
  have h5 : (m : Int) ≤ 8 := Decidable.byContradiction fun hh => h (.inr (.inl hh))
  have h6 : 0 ≤ k ∧ k ≤ 4 := Decidable.byContradiction fun hh => h (.inr (.inr hh))
  exact ⟨m, t, k.toNat, rfl, rfl, by omega, h1, by omega, h3, h4, by omega⟩
def NoFreeColours : Prop := ∀ (n s : Int) (W : World), NoCol n s → Calls Try.prog 24 #[.int .i64 n, .int .i64 s] W fun e w' => e = .returned (.tuple #[.int .i64 0, .bool false]) ∧ Below W.heap.size W w'
def YesFreeColours : Prop := ∀ (n s : Nat) (W : World), 1 ≤ n → n ≤ 8 → s < 2 ^ n → s.testBit 0 = false → Calls Try.prog 24 #[.int .i64 (n:Int), .int .i64 (s:Int)] W fun e w' => e = .returned (.tuple #[.int .i64 ((colF n s : Nat) : Int), .bool true]) ∧ Below W.heap.size W w'
def NoFreeWays : Prop := ∀ (n s k : Int) (W : World), NoWays n s k → Calls Try.prog 28 #[.int .i64 n, .int .i64 s, .int .i64 k] W fun e w' => e = .returned (.tuple #[.int .i64 0, .bool false]) ∧ Below W.heap.size W w'
def YesFreeWays : Prop := ∀ (n s k : Nat) (W : World), 1 ≤ n → n ≤ 8 → s < 2 ^ n → s.testBit 0 = false → k ≤ 4 → Calls Try.prog 28 #[.int .i64 (n:Int), .int .i64 (s:Int), .int .i64 (k:Int)] W fun e w' => e = .returned (.tuple #[.int .i64 ((waysF n s k : Nat) : Int), .bool true]) ∧ Below W.heap.size W w'
def NoFreeSumless : Prop := ∀ (n : Int) (W : World), ¬ (1 ≤ n ∧ n ≤ 12) → Calls Try.prog 40 #[.int .i64 n] W fun e w' => e = .returned (.tuple #[.int .i64 0, .bool false]) ∧ Below W.heap.size W w'
def YesFreeSumless : Prop := ∀ (n : Nat) (W : World), 1 ≤ n → n ≤ 12 → Calls Try.prog 40 #[.int .i64 (n:Int)] W fun e w' => e = .returned (.tuple #[.int .i64 ((sumlF n : Nat) : Int), .bool true]) ∧ Below W.heap.size W w'
def NoFreeNeat : Prop := ∀ (n s : Int) (W : World), NoStep n s → Calls Try.prog 34 #[.int .i64 n, .int .i64 s] W (ListRes W [] false)
def YesFreeNeat : Prop := ∀ (n s : Nat) (W : World), 1 ≤ n → n ≤ 12 → s < 2 ^ n → s.testBit 0 = false → Calls Try.prog 34 #[.int .i64 (n:Int), .int .i64 (s:Int)] W (ListRes W (neatL n s (2 ^ n)) true)
end Go.Proofs.Ytfjcdcjhdjkjaaa
