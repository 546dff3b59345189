/- Rounds, the program's side: steps of a ring, all of them, lists in order. -/
import Derived.Test.YtfgolkbafnfblaaRndC
import Derived.Test.YtfgolkbafnfblaaRndF
import Derived.Test.YtfgolkbafnfblaaGC
namespace Go.Proofs.Ytfgolkbafnfblaa
open Go.RowKit
set_option linter.unusedVariables false
theorem isStep_any (n : Nat) (v : Int) (w : World) :
    Calls Try.prog 41 #[.agg #[.int .i64 (n:Int)], .int .i64 v] w fun e w' => e = .returned (.bool (decide (1 ≤ v ∧ v < (n:Int)))) ∧ Below w.heap.size w w' := by
  have HP := Lib.hid (fun W => isPlace_any n v W)
  by_cases hp : 0 ≤ v ∧ v < (n:Int)
  · rw [decide_eq_true hp] at HP
    by_cases hz : v = 0
    · have HF := Lib.hid (show decide (1 ≤ v ∧ v < (n:Int)) = false from decide_eq_false (by omega))
      subst hz
      clear hp
      go_enter Try.func41, Try.ntmps41
      go_wp2_with fail
      refine (HP.out _).mono ?_
      rintro e w1 ⟨rfl, hb⟩
      go_wp2
      go_ret
      exact ⟨ret_bool HF.out.symm, ((Below.refl _ _).alloc (Nat.le_refl _) _).trans (hb.mono (by simp))⟩
    · have HF := Lib.hid (show decide (1 ≤ v ∧ v < (n:Int)) = true from decide_eq_true (by omega))
      have e1 : (v == 0) = false := by simpa using hz
      have e2 : (v != 0) = true := by simpa using hz
      clear hp hz
      go_enter Try.func41, Try.ntmps41
      go_wp2_with fail
      refine (HP.out _).mono ?_
      rintro e w1 ⟨rfl, hb⟩
      go_wp2
      go_ret
      exact ⟨ret_bool HF.out.symm, ((Below.refl _ _).alloc (Nat.le_refl _) _).trans (hb.mono (by simp))⟩
  · rw [decide_eq_false hp] at HP
    have HF := Lib.hid (show decide (1 ≤ v ∧ v < (n:Int)) = false from decide_eq_false (by omega))
    clear hp
    go_enter Try.func41, Try.ntmps41
    go_wp2_with fail
    refine (HP.out _).mono ?_
    rintro e w1 ⟨rfl, hb⟩
    go_wp2
    go_ret
    exact ⟨ret_bool HF.out.symm, ((Below.refl _ _).alloc (Nat.le_refl _) _).trans (hb.mono (by simp))⟩
theorem duoSet2 {W : World} {B : Nat} {t : TypeId} {u v : Value} (h : Duo W B t u v) (x y : Value) : Duo ((W.setCell ⟨B, 0, none⟩ x).setCell ⟨B, 1, none⟩ y) B t x y := by
  unfold Duo at *
  simp [World.setCell, Array.getElem?_modify, h]
theorem duoFrozen {W : World} {B : Nat} {t : TypeId} {u v : Value} (h : Duo W B t u v) (i : Nat) : W.frozen? ⟨B, i, none⟩ = false := by simp [World.frozen?, show W.heap[B]? = _ from h]
theorem otherN_zero (n : Nat) (h2 : n ≤ 12) : otherN n 0 = butN n := by
  unfold butN
  have : n = 0 ∨ n = 1 ∨ n = 2 ∨ n = 3 ∨ n = 4 ∨ n = 5 ∨ n = 6 ∨ n = 7 ∨ n = 8 ∨ n = 9 ∨ n = 10 ∨ n = 11 ∨ n = 12 := by omega
  rcases this with rfl | rfl | rfl | rfl | rfl | rfl | rfl | rfl | rfl | rfl | rfl | rfl | rfl <;> decide
theorem allSteps_any (n : Nat) (w : World) (h1 : 1 ≤ n) (h2 : n ≤ 12) :
    Calls Try.prog 38 #[.agg #[.int .i64 (n:Int)]] w fun e w' => e = .returned (.agg #[.int .i64 (n:Int), .int .i64 ((butN n : Nat) : Int)]) ∧ Below w.heap.size w w' := by
  have ho := fun W => other_any n 0 W h1 h2 (Nat.two_pow_pos n)
  rw [otherN_zero n h2] at ho
  have HO := Lib.hid ho
  clear ho
  generalize butN n = q at *
  have hmx : Try.prog.follows .mixedOrders = true := by kernel_rfl
  have hA0 : Boxed ((w.alloc (.cells #[.int .i64 (n:Int)] 49)).alloc (.cells #[.int .i64 0, .int .i64 0] 52)) w.heap.size 49 (.int .i64 (n:Int)) ∧ Duo ((w.alloc (.cells #[.int .i64 (n:Int)] 49)).alloc (.cells #[.int .i64 0, .int .i64 0] 52)) (w.heap.size + 1) 52 (.int .i64 0) (.int .i64 0) := by
    constructor
    · exact (Boxed.new w 49 (.int .i64 (n:Int))).alloc _
    · have h := Duo.new (w.alloc (.cells #[.int .i64 (n:Int)] 49)) 52 (.int .i64 0) (.int .i64 0)
      rwa [World.size_alloc] at h
  have hB0 : Below w.heap.size w ((w.alloc (.cells #[.int .i64 (n:Int)] 49)).alloc (.cells #[.int .i64 0, .int .i64 0] 52)) := ((Below.refl _ _).alloc (Nat.le_refl _) _).alloc (by simp) _
  have hz0 : w.heap.size + 2 ≤ ((w.alloc (.cells #[.int .i64 (n:Int)] 49)).alloc (.cells #[.int .i64 0, .int .i64 0] 52)).heap.size := by simp
  go_enter Try.func38, Try.ntmps38
  go_wp2_with fail
  obtain ⟨W0, hW0⟩ : ∃ W0, (w.alloc (.cells #[.int .i64 (n:Int)] 49)).alloc (.cells #[.int .i64 0, .int .i64 0] 52) = W0 := ⟨_, rfl⟩
  rw [hW0] at hA0 hB0 hz0 ⊢
  clear hW0
  have hA0 : Boxed W0.drew w.heap.size 49 (.int .i64 (n:Int)) ∧ Duo W0.drew (w.heap.size + 1) 52 (.int .i64 0) (.int .i64 0) := hA0
  have hB0 : Below w.heap.size w W0.drew := hB0.drew
  have hz0 : w.heap.size + 2 ≤ W0.drew.heap.size := hz0
  refine wp_region_held_drew (S := fun W => Boxed W w.heap.size 49 (.int .i64 (n:Int)) ∧ ∃ u v, Duo W (w.heap.size + 1) 52 u v) hmx ⟨hA0.1, _, _, hA0.2⟩ (fun _ => ?_)
  generalize W0.drew = W4 at *
  refine take1 0 (v := ?_) rfl (by kernel_rfl) (by kernel_rfl) (by kernel_rfl) (fun _ _ _ h => h) (by rfl) ?_ ⟨hA0.1, _, _, hA0.2⟩ ?_
  rotate_left
  · intro W9 hA
    have c0 := hA.1.cell
    clear hA
    go_simp
    try with_reducible rfl
  try simp only [Act.put, List.setIfInBounds_toArray, List.set_cons_zero, List.set_cons_succ]
  refine take1 1 (v := ?_) rfl (by kernel_rfl) (by kernel_rfl) (by kernel_rfl) (fun _ _ _ h => h) (by rfl) ?_ ⟨hA0.1, _, _, hA0.2⟩ ?_
  rotate_left
  · intro W9 hA
    have c0 := hA.1.cell
    clear hA
    go_simp
    try with_reducible rfl
  try simp only [Act.put, List.setIfInBounds_toArray, List.set_cons_zero, List.set_cons_succ]
  refine take1 2 (v := ?_) rfl (by kernel_rfl) (by kernel_rfl) (by kernel_rfl) (fun _ _ _ h => h) (by rfl) ?_ ⟨hA0.1, _, _, hA0.2⟩ ?_
  rotate_left
  · intro W9 hA
    have c0 := hA.1.cell
    clear hA
    go_simp
    try with_reducible rfl
  try simp only [Act.put, List.setIfInBounds_toArray, List.set_cons_zero, List.set_cons_succ]
  refine step1 3 (by kernel_rfl) rfl (fun K hK => ?_)
  go_simp
  refine (HO.out _).mono ?_
  rintro e Wt ⟨rfl, hbt⟩
  go_wp2_with fail
  have hA1 : Boxed Wt w.heap.size 49 (.int .i64 (n:Int)) ∧ Duo Wt (w.heap.size + 1) 52 (.int .i64 0) (.int .i64 0) := ⟨boxed_below hA0.1 hA0.1.lt hbt, duo_below hA0.2 hA0.2.lt hbt⟩
  have hB1 := hB0.trans (hbt.mono hB0.size)
  refine hK.out _ _ ⟨hA1.1, _, _, hA1.2⟩ ?_
  clear hK K
  try simp only [Act.put, List.setIfInBounds_toArray, List.set_cons_zero, List.set_cons_succ]
  refine take1 4 (v := ?_) rfl (by kernel_rfl) (by kernel_rfl) (by kernel_rfl) (fun _ _ _ h => h) (by rfl) ?_ ⟨hA1.1, _, _, hA1.2⟩ ?_
  rotate_left
  · intro W9 hA
    have c0 := hA.1.cell
    clear hA
    go_simp
    try with_reducible rfl
  try simp only [Act.put, List.setIfInBounds_toArray, List.set_cons_zero, List.set_cons_succ]
  have g0 := hA1.2.cell0
  have g1 := hA1.2.cell1
  have k0 := duoFrozen hA1.2 0
  have k1 := duoFrozen hA1.2 1
  have hz1 : w.heap.size + 2 ≤ Wt.heap.size := Nat.le_trans hz0 hbt.size
  refine step1 5 (by kernel_rfl) rfl (fun K hK => ?_)
  go_simp
  have hA2 := duoSet2 hA1.2 (.int .i64 (n:Int)) (.int .i64 (q:Int))
  have hN2 : Boxed ((Wt.setCell ⟨w.heap.size + 1, 0, none⟩ (.int .i64 (n:Int))).setCell ⟨w.heap.size + 1, 1, none⟩ (.int .i64 (q:Int))) w.heap.size 49 (.int .i64 (n:Int)) :=
    ((Below.heap_setCell _ _ _ w.heap.size (by simp)).trans (Below.heap_setCell Wt _ _ w.heap.size (by simp))).trans hA1.1
  have hB2 := (hB1.setCell (p := ⟨w.heap.size + 1, 0, none⟩) (by simp) (.int .i64 (n:Int))).setCell (p := ⟨w.heap.size + 1, 1, none⟩) (by simp) (.int .i64 (q:Int))
  refine hK.out _ _ ⟨hN2, _, _, hA2⟩ ?_
  clear hK K
  try simp only [Act.put, List.setIfInBounds_toArray, List.set_cons_zero, List.set_cons_succ]
  have c0 := hA2.cell0
  have c1 := hA2.cell1
  refine stop1 (by kernel_rfl) ?_
  go_wp2
  refine bodyPost_ret (v := .agg #[.int .i64 (n:Int), .int .i64 (q:Int)]) ?_ rfl ⟨rfl, hB2⟩
  simp [results, Try.results38, go_sem, c0, c1]
/-- A list that has each place once, 0 ahead. -/
structure InOrd (n : Nat) (xs : List Int) : Prop where
  len : xs.length = n
  zero : xs.getD 0 0 = 0
  inn : ∀ i, i < n → 0 ≤ xs.getD i 0 ∧ xs.getD i 0 < (n : Int)
  all : seenN xs n = 2 ^ n - 1
noncomputable def inOrdB (n : Nat) (xs : List Int) : Bool := @decide (InOrd n xs) (Classical.propDecidable _)
theorem inOrd_yes {n : Nat} {xs : List Int} (h : InOrd n xs) : inOrdB n xs = true := by
  unfold inOrdB
  exact @decide_eq_true _ (Classical.propDecidable _) h
theorem inOrd_no {n : Nat} {xs : List Int} (h : ¬ InOrd n xs) : inOrdB n xs = false := by
  unfold inOrdB
  exact @decide_eq_false _ (Classical.propDecidable _) h
theorem inOrd_iff {n : Nat} {xs : List Int} : inOrdB n xs = true ↔ InOrd n xs :=
  ⟨fun h => Classical.byContradiction fun c => (by rw [inOrd_no c] at h; cases h), inOrd_yes⟩
set_option maxHeartbeats 1000000 in
theorem allInOrder_any (n : Nat) (sv : Value) (xs : List Int) (b : Nat) (w : World) (h1 : 1 ≤ n) (h2 : n ≤ 12) (hI : IsInts w b sv xs) :
    Calls Try.prog 54 #[.agg #[.int .i64 (n:Int)], sv] w fun e w' => e = .returned (.bool (inOrdB n xs)) ∧ Below w.heap.size w w' := by
  have hpw := pow_le n h2
  by_cases hlen : xs.length = n
  · rcases hI.shape with ⟨_, rfl⟩ | ⟨g, cap, rfl, hg1, hg2, hg3⟩
    · simp at hlen; omega
    have c0 := hI.cell (i := 0) (by omega)
    by_cases hz : xs.getD 0 0 = 0
    · rw [hz] at c0
      have HI := Lib.hid hI
      have HZ := Lib.hid hz
      have HL := Lib.hid hlen
      rw [hlen] at HI hg3 ⊢
      have HP := Lib.hid (fun v W => isPlace_any n v W)
      have HA := Lib.hid (fun W => all_any n W h2)
      clear hI hz hlen
      go_enter Try.func54, Try.ntmps54
      go_wp2
      go_loopw [5, 21] (fun a u wr => ∃ i : Nat, i ≤ n ∧ Hid (∀ j, j < i → 0 ≤ xs.getD j 0 ∧ xs.getD j 0 < (n : Int)) ∧ a = .int .i64 ((seenN xs i : Nat) : Int) ∧ u = .int .i64 (i : Int) ∧ Below w.heap.size w wr ∧ Boxed wr w.heap.size 49 (.int .i64 (n:Int))) (fun _ u _ => n - (intOf u).toNat)
      case atStart => exact ⟨0, Nat.zero_le _, Lib.hid (fun j hj => by omega), rfl, rfl, (Below.refl _ _).alloc (Nat.le_refl _) _, Boxed.new _ _ _⟩
      case round =>
        obtain ⟨i, hi, HIn, rfl, rfl, hB, hX⟩ := hrel
        have HB := Lib.hid hB
        have HIr := Lib.hid (HI.out.belowAll hB)
        have hzr : w.heap.size + 1 ≤ wr.heap.size := hX.lt
        have cX := hX.cell
        clear hB
        have hsn := seen_lt n xs i HIn.out
        by_cases hlt : i < n
        · have ci := HIr.out.cell (i := i) (by rw [HL.out]; exact hlt)
          have HSn : Hid (seenN xs i ||| 2 ^ (xs.getD i 0).toNat = seenN xs (i + 1)) := Lib.hid rfl
          have HOut : Hid (¬ (0 ≤ xs.getD i 0 ∧ xs.getD i 0 < (n : Int)) → ¬ InOrd n xs) := Lib.hid (fun h hr => h (hr.inn i hlt))
          have HAs : Hid (0 ≤ xs.getD i 0 ∧ xs.getD i 0 < (n : Int) → ∀ j, j < i + 1 → 0 ≤ xs.getD j 0 ∧ xs.getD j 0 < (n : Int)) := Lib.hid (fun h j hj => by
            by_cases e : j = i
            · subst e; exact h
            · exact HIn.out j (by omega))
          have HPz := Lib.hid (HP.out (xs.getD i 0))
          generalize xs.getD i 0 = z at *
          generalize seenN xs i = S at *
          have i1 : (0 : Int) ≤ (i : Int) := by omega
          have i2 : (i : Int) < (n : Int) := by omega
          by_cases hz : 0 ≤ z ∧ z < (n : Int)
          · rw [decide_eq_true hz] at HPz
            have HA2 := Lib.hid (HAs.out hz)
            obtain ⟨v, rfl⟩ : ∃ v : Nat, z = (v : Int) := ⟨z.toNat, by omega⟩
            have hv : v < n := by omega
            have HWt := Lib.hid (fun W => with_int S v (v : Int) W rfl (by omega) (by omega))
            clear HAs HOut hz
            go_wp2_with (first
              | (go_at_call 59; refine (HPz.out _).mono ?_; rintro e w2 ⟨rfl, hb2⟩)
              | (go_at_call 61; refine (HWt.out _).mono ?_; rintro e w3 ⟨rfl, rfl⟩))
            go_roundw
            case rel => exact ⟨i + 1, by omega, HA2.out, by rw [← HSn.out]; rfl, by go_num, HB.out.trans (hb2.mono (by omega)), boxed_below hX hX.lt hb2⟩
            case measure => simp [intOf]; omega
          · rw [decide_eq_false hz] at HPz
            have HF := Lib.hid (inOrd_no (HOut.out hz))
            clear HAs HOut hz
            go_wp2_with (go_at_call 59; refine (HPz.out _).mono ?_; rintro e w2 ⟨rfl, hb2⟩)
            go_ret
            exact ⟨ret_bool HF.out.symm, HB.out.trans (hb2.mono (by omega))⟩
        · obtain rfl : i = n := by omega
          have hp1 := Nat.two_pow_pos i
          have hend : seenN xs i = 2 ^ i - 1 ↔ InOrd i xs := ⟨fun h => ⟨HL.out, HZ.out, HIn.out, h⟩, fun h => h.all⟩
          generalize seenN xs i = S at *
          generalize 2 ^ i - 1 = N at *
          by_cases hS : S = N
          · have HF := Lib.hid (inOrd_yes (hend.1 hS))
            have e1 : ((S : Int) == (N : Int)) = true := by simp [hS]
            clear hend hS
            go_wp2_with (go_at_call 55; refine (HA.out _).mono ?_; rintro e w2 ⟨rfl, hb2⟩)
            go_ret
            exact ⟨ret_bool HF.out.symm, HB.out.trans (hb2.mono (by omega))⟩
          · have HF := Lib.hid (inOrd_no (fun h => hS (hend.2 h)))
            have e1 : ((S : Int) == (N : Int)) = false := by simp; omega
            clear hend hS
            go_wp2_with (go_at_call 55; refine (HA.out _).mono ?_; rintro e w2 ⟨rfl, hb2⟩)
            go_ret
            exact ⟨ret_bool HF.out.symm, HB.out.trans (hb2.mono (by omega))⟩
    · have hno : ¬ InOrd n xs := fun h => hz h.zero
      have HF := Lib.hid (inOrd_no hno)
      rw [hlen] at hg3 ⊢
      generalize xs.getD 0 0 = z at *
      have e1 : (z == 0) = false := by simpa using hz
      have e2 : (z != 0) = true := by simpa using hz
      have e3 : (0 : Int) < (n : Int) := by omega
      clear hno hI hz hlen
      go_enter Try.func54, Try.ntmps54
      go_wp2
      go_ret
      exact ⟨ret_bool HF.out.symm, (Below.refl _ _).alloc (Nat.le_refl _) _⟩
  · have hno : ¬ InOrd n xs := fun h => hlen h.len
    have HF := Lib.hid (inOrd_no hno)
    rcases hI.shape with ⟨rfl, rfl⟩ | ⟨g, cap, rfl, hg1, hg2, hg3⟩
    · have e1 : ((0 : Int) == (n : Int)) = false := by simp; omega
      have e2 : ((0 : Int) != (n : Int)) = true := by simp; omega
      clear hno hI hlen
      go_enter Try.func54, Try.ntmps54
      go_wp2
      go_ret
      exact ⟨ret_bool HF.out.symm, (Below.refl _ _).alloc (Nat.le_refl _) _⟩
    · generalize xs.length = L at *
      have e1 : ((L : Int) == (n : Int)) = false := by simp; omega
      have e2 : ((L : Int) != (n : Int)) = true := by simp; omega
      clear hno hI hlen
      go_enter Try.func54, Try.ntmps54
      go_wp2
      go_ret
      exact ⟨ret_bool HF.out.symm, (Below.refl _ _).alloc (Nat.le_refl _) _⟩
end Go.Proofs.Ytfgolkbafnfblaa
