/- Free sets: the model's functions that try all sets. -/
import Derived.Test.YtcmobeeneleidaaFreA
import Derived.Test.YtcmobeeneleidaaGB
import Derived.Test.YtcmobeeneleidaaFarLL
import Derived.Test.YtcmobeeneleidaaRndF
import Derived.Test.YtcmobeeneleidaaGA
namespace Go.Proofs.Ytcmobeeneleidaa
open Go.RowKit Go.Shelf
set_option linter.unusedVariables false
theorem l6fFree_any (n s x : Nat) (w : World) (h1 : 1 ≤ n) (h2 : n ≤ 12) (hs : s < 2 ^ n) (hx : x < 2 ^ n) :
    Calls Try.prog 35 #[.int .i64 (n:Int), .int .i64 (s:Int), .int .i64 (x:Int)] w fun e w' => e = .returned (.bool (fsetN n s x)) ∧ w = w' := by
  have hp := pow_le n h2
  have HS := Lib.hid (l1Sum_any n x s w h1 h2 hx hs)
  have hsl := sumN_lt n s x
  have HA := and_nat (sumN n s x) x (by omega) (by omega)
  have HF : Hid (fsetN n s x = Nat.beq (sumN n s x &&& x) 0) := Lib.hid rfl
  generalize sumN n s x &&& x = q at *
  generalize sumN n s x = y at *
  by_cases h : q = 0
  · have e1 : ((q : Int) == 0) = true := by simp [h]
    have HF2 := Lib.hid (show fsetN n s x = true by rw [HF.out, h]; rfl)
    clear HF h
    go_enter Try.func35, Try.ntmps35
    go_wp2_with (go_at_call 45; refine HS.out.mono ?_; rintro e w' ⟨rfl, rfl⟩)
    go_ret
    exact ⟨ret_bool HF2.out.symm, rfl⟩
  · have e1 : ((q : Int) == 0) = false := by simp; omega
    have HF2 := Lib.hid (show fsetN n s x = false by
      rw [HF.out]
      cases hb : Nat.beq q 0
      · rfl
      · exact absurd (Nat.eq_of_beq_eq_true hb) h)
    clear HF h
    go_enter Try.func35, Try.ntmps35
    go_wp2_with (go_at_call 45; refine HS.out.mono ?_; rintro e w' ⟨rfl, rfl⟩)
    go_ret
    exact ⟨ret_bool HF2.out.symm, rfl⟩
theorem l6fMost_any (n s : Nat) (w : World) (h1 : 1 ≤ n) (h2 : n ≤ 12) (hs : s < 2 ^ n) :
    Calls Try.prog 31 #[.int .i64 (n:Int), .int .i64 (s:Int)] w fun e w' => e = .returned (.int .i64 ((mostF n s : Nat) : Int)) ∧ w = w' := by
  have hp := pow_le n h2
  have HSz := Lib.hid (fun (x : Nat) (hx : x < 2 ^ n) W => l1Size_any x W (by omega))
  have HFr := Lib.hid (fun (x : Nat) (hx : x < 2 ^ n) W => l6fFree_any n s x W h1 h2 hs hx)
  have hwp := wrap_pow n (by omega)
  have HE : Hid (topN (fsetN n s) (2 ^ n) = mostF n s) := Lib.hid rfl
  have HSt := Lib.hid (fun i => top_step (fsetN n s) i)
  obtain ⟨N, hN⟩ : ∃ N, 2 ^ n = N := ⟨_, rfl⟩
  rw [hN] at hp HSz HFr hwp HE
  have HL := Lib.hid (fun k (hk : k ≤ N) => top_le (fsetN n s) k n h2 (by omega))
  have hwi : IntKind.i64.wrap (2 ^ n) = (N : Int) := by rw [IntWalk.i64_left]; exact hwp
  clear hN hs
  go_enter Try.func31, Try.ntmps31
  go_wp2
  go_loop [5, 6] (fun u v => ∃ i : Nat, i ≤ N ∧ u = .int .i64 ((topN (fsetN n s) i : Nat) : Int) ∧ v = .int .i64 (i : Int)) (fun _ v => N - (intOf v).toNat)
  case atStart => exact ⟨0, Nat.zero_le _, rfl, rfl⟩
  case round =>
    obtain ⟨i, hi, rfl, rfl⟩ := hrel
    by_cases hlt : i < N
    · have HSi := Lib.hid (HSt.out i)
      have hm := HL.out i hi
      have HSz1 := Lib.hid (HSz.out i hlt)
      have HFr1 := Lib.hid (HFr.out i hlt)
      have HT : Hid (∀ M, topN (fsetN n s) (i + 1) = M → M = topN (fsetN n s) (i + 1)) := Lib.hid (fun M h => h.symm)
      generalize topN (fsetN n s) i = m at *
      generalize sizeN i = z at *
      by_cases hz : m < z
      · have k1 : (m : Int) < (z : Int) := by omega
        have k2 := decide_eq_true k1
        cases hf : fsetN n s i
        · rw [hf] at HFr1
          have HT2 := Lib.hid (HT.out _ (HSi.out.2 (fun h => by rw [hf] at h; cases h.1)))
          clear HSi HT hf hz
          go_wp2_with (first
            | (go_at_call 44; refine (HSz1.out _).mono ?_; rintro e w' ⟨rfl, rfl⟩)
            | (go_at_call 35; refine (HFr1.out _).mono ?_; rintro e w' ⟨rfl, rfl⟩))
          go_round
          case rel => exact ⟨i + 1, by omega, by rw [← HT2.out], by go_num⟩
          case measure => simp [intOf]; omega
        · rw [hf] at HFr1
          have HT2 := Lib.hid (HT.out _ (HSi.out.1 ⟨hf, hz⟩))
          clear HSi HT hf hz
          go_wp2_with (first
            | (go_at_call 44; refine (HSz1.out _).mono ?_; rintro e w' ⟨rfl, rfl⟩)
            | (go_at_call 35; refine (HFr1.out _).mono ?_; rintro e w' ⟨rfl, rfl⟩))
          go_round
          case rel => exact ⟨i + 1, by omega, by rw [← HT2.out], by go_num⟩
          case measure => simp [intOf]; omega
      · have k1 : ¬ (m : Int) < (z : Int) := by omega
        have k2 := decide_eq_false k1
        have HT2 := Lib.hid (HT.out _ (HSi.out.2 (fun h => hz h.2)))
        clear HSi HT hz
        go_wp2_with (go_at_call 44; refine (HSz1.out _).mono ?_; rintro e w' ⟨rfl, rfl⟩)
        go_round
        case rel => exact ⟨i + 1, by omega, by rw [← HT2.out], by go_num⟩
        case measure => simp [intOf]; omega
    · obtain rfl : i = N := by omega
      go_wp2
      go_ret
      exact ⟨ret_int (by rw [HE.out]), rfl⟩
theorem specFreeMany_yes (n s : Nat) (w : World) (h1 : 1 ≤ n) (h2 : n ≤ 12) (hs : s < 2 ^ n) (h0 : s.testBit 0 = false) :
    Calls Try.prog 13 #[.int .i64 (n:Int), .int .i64 (s:Int)] w fun e w' => e = .returned (.tuple #[.int .i64 ((manyF n s : Nat) : Int), .bool true]) ∧ w = w' := by
  have hp := pow_le n h2
  have HI := Lib.hid (specStep_yes n s w h1 h2 hs h0)
  have HFr := Lib.hid (fun (x : Nat) (hx : x < 2 ^ n) W => l6fFree_any n s x W h1 h2 hs hx)
  have hwp := wrap_pow n (by omega)
  have HE : Hid (cntP (fsetN n s) (2 ^ n) = manyF n s) := Lib.hid rfl
  have HSt := Lib.hid (fun i => cnt_step (fsetN n s) i)
  have HL := Lib.hid (fun k => cnt_le (fsetN n s) k)
  obtain ⟨N, hN⟩ : ∃ N, 2 ^ n = N := ⟨_, rfl⟩
  rw [hN] at hp HFr hwp HE
  have hwi : IntKind.i64.wrap (2 ^ n) = (N : Int) := by rw [IntWalk.i64_left]; exact hwp
  clear hN hs h0
  go_enter Try.func13, Try.ntmps13
  go_wp2_with (go_at_call 30; refine HI.out.mono ?_; rintro e w' ⟨rfl, rfl⟩)
  go_loop [6, 7] (fun u v => ∃ i : Nat, i ≤ N ∧ u = .int .i64 ((cntP (fsetN n s) i : Nat) : Int) ∧ v = .int .i64 (i : Int)) (fun _ v => N - (intOf v).toNat)
  case atStart => exact ⟨0, Nat.zero_le _, rfl, rfl⟩
  case round =>
    obtain ⟨i, hi, rfl, rfl⟩ := hrel
    by_cases hlt : i < N
    · have HSi := Lib.hid (HSt.out i)
      have hm := HL.out i
      have HFr1 := Lib.hid (HFr.out i hlt)
      generalize cntP (fsetN n s) i = m at *
      cases hf : fsetN n s i
      · rw [hf] at HFr1 HSi
        have HT2 : Hid (cntP (fsetN n s) (i + 1) = m) := HSi
        clear HSi hf
        go_wp2_with (go_at_call 35; refine (HFr1.out _).mono ?_; rintro e w' ⟨rfl, rfl⟩)
        go_round
        case rel => exact ⟨i + 1, by omega, by rw [HT2.out], by go_num⟩
        case measure => simp [intOf]; omega
      · rw [hf] at HFr1 HSi
        have HT2 : Hid (cntP (fsetN n s) (i + 1) = m + 1) := HSi
        clear HSi hf
        go_wp2_with (go_at_call 35; refine (HFr1.out _).mono ?_; rintro e w' ⟨rfl, rfl⟩)
        go_round
        case rel => exact ⟨i + 1, by omega, by rw [HT2.out]; go_num, by go_num⟩
        case measure => simp [intOf]; omega
    · obtain rfl : i = N := by omega
      go_wp2
      go_ret2
      exact ⟨by rw [HE.out]; rfl, rfl⟩
theorem specFreeMany_no (n s : Int) (w : World) (h : NoStep n s) :
    Calls Try.prog 13 #[.int .i64 n, .int .i64 s] w fun e w' => e = .returned (.tuple #[.int .i64 0, .bool false]) ∧ w = w' := by
  have HI := Lib.hid (specStep_no n s w h)
  clear h
  go_enter Try.func13, Try.ntmps13
  go_wp2_with (go_at_call 30; refine HI.out.mono ?_; rintro e w' ⟨rfl, rfl⟩)
  go_ret2
  exact ⟨rfl, rfl⟩
theorem specFreeMost_no (n s : Int) (w : World) (h : NoStep n s) :
    Calls Try.prog 11 #[.int .i64 n, .int .i64 s] w fun e w' => e = .returned (.tuple #[.int .i64 0, .bool false]) ∧ w = w' := by
  have HI := Lib.hid (specStep_no n s w h)
  clear h
  go_enter Try.func11, Try.ntmps11
  go_wp2_with (go_at_call 30; refine HI.out.mono ?_; rintro e w' ⟨rfl, rfl⟩)
  go_ret2
  exact ⟨rfl, rfl⟩
theorem specFreeMost_yes (n s : Nat) (w : World) (h1 : 1 ≤ n) (h2 : n ≤ 12) (hs : s < 2 ^ n) (h0 : s.testBit 0 = false) :
    Calls Try.prog 11 #[.int .i64 (n:Int), .int .i64 (s:Int)] w fun e w' => e = .returned (.tuple #[.int .i64 ((mostF n s : Nat) : Int), .bool true]) ∧ w = w' := by
  have HI := Lib.hid (specStep_yes n s w h1 h2 hs h0)
  have HM := Lib.hid (l6fMost_any n s w h1 h2 hs)
  clear h0 hs
  go_enter Try.func11, Try.ntmps11
  go_wp2_with (first
    | (go_at_call 30; refine HI.out.mono ?_; rintro e w' ⟨rfl, rfl⟩)
    | (go_at_call 31; refine HM.out.mono ?_; rintro e w' ⟨rfl, rfl⟩))
  go_ret2
  exact ⟨rfl, rfl⟩
theorem specFreeFull_no (n s : Int) (w : World) (h : NoStep n s) :
    Calls Try.prog 15 #[.int .i64 n, .int .i64 s] w fun e w' => e = .returned (.tuple #[.int .i64 0, .bool false]) ∧ w = w' := by
  have HI := Lib.hid (specStep_no n s w h)
  clear h
  go_enter Try.func15, Try.ntmps15
  go_wp2_with (go_at_call 30; refine HI.out.mono ?_; rintro e w' ⟨rfl, rfl⟩)
  go_ret2
  exact ⟨rfl, rfl⟩
theorem specFreeFull_yes (n s : Nat) (w : World) (h1 : 1 ≤ n) (h2 : n ≤ 12) (hs : s < 2 ^ n) (h0 : s.testBit 0 = false) :
    Calls Try.prog 15 #[.int .i64 (n:Int), .int .i64 (s:Int)] w fun e w' => e = .returned (.tuple #[.int .i64 ((fullF n s : Nat) : Int), .bool true]) ∧ Below w.heap.size w w' := by
  have hmx : Try.prog.follows .mixedOrders = true := by kernel_rfl
  have hp := pow_le n h2
  have HI := Lib.hid (specStep_yes n s w h1 h2 hs h0)
  have HB := Lib.hid (fun W => l2Both_any n s W h1 h2 hs)
  have hbl := bothN_lt n s h1 hs
  have HM := Lib.hid (fun W => l6fMost_any n (otherN n (bothN n s)) W h1 h2 (otherN_lt n _))
  have hpw := pow2_nat n h1 h2
  have hp1 := Nat.two_pow_pos n
  have HL := less_nat (2 ^ n - 2) (bothN n s) (by omega) (by omega)
  rw [other_spec n (bothN n s) h1] at HL
  have HF : Hid (mostF n (otherN n (bothN n s)) = fullF n s) := Lib.hid rfl
  generalize otherN n (bothN n s) = o at *
  generalize bothN n s = b at *
  have hpw2 : IntKind.i64.wrap (IntKind.i64.wrap (2 ^ n) - 2) = ((2 ^ n - 2 : Nat) : Int) := by rw [IntWalk.i64_left, IntWalk.i64_left]; exact hpw
  clear h0 hs
  go_enter Try.func15, Try.ntmps15
  go_wp2_with (go_at_call 30; refine HI.out.mono ?_; rintro e w' ⟨rfl, rfl⟩)
  refine wp_region_held_drew (S := fun _ => True) hmx trivial (fun _ => ?_)
  have B0 : Below w.heap.size w w.drew := (Below.refl _ _).drew
  generalize w.drew = W3 at *
  refine take1 0 (v := ?_) rfl (by kernel_rfl) (by kernel_rfl) (by kernel_rfl) (fun _ _ _ h => h) (by rfl) ?_ trivial ?_
  rotate_left
  · intro W9 hA
    clear hA
    go_simp
    try with_reducible rfl
  try simp only [Act.put, List.setIfInBounds_toArray, List.set_cons_zero, List.set_cons_succ]
  refine take1 1 (v := ?_) rfl (by kernel_rfl) (by kernel_rfl) (by kernel_rfl) (fun _ _ _ h => h) (by rfl) ?_ trivial ?_
  rotate_left
  · intro W9 hA
    clear hA
    go_simp
    try with_reducible rfl
  try simp only [Act.put, List.setIfInBounds_toArray, List.set_cons_zero, List.set_cons_succ]
  refine take1 2 (v := ?_) rfl (by kernel_rfl) (by kernel_rfl) (by kernel_rfl) (fun _ _ _ h => h) (by rfl) ?_ trivial ?_
  rotate_left
  · intro W9 hA
    clear hA
    go_simp
    try with_reducible rfl
  try simp only [Act.put, List.setIfInBounds_toArray, List.set_cons_zero, List.set_cons_succ]
  refine take1 3 (v := ?_) rfl (by kernel_rfl) (by kernel_rfl) (by kernel_rfl) (fun _ _ _ h => h) (by rfl) ?_ trivial ?_
  rotate_left
  · intro W9 hA
    clear hA
    go_simp
    try with_reducible rfl
  try simp only [Act.put, List.setIfInBounds_toArray, List.set_cons_zero, List.set_cons_succ]
  refine take1 4 (v := ?_) rfl (by kernel_rfl) (by kernel_rfl) (by kernel_rfl) (fun _ _ _ h => h) (by rfl) ?_ trivial ?_
  rotate_left
  · intro W9 hA
    clear hA
    go_simp
    try with_reducible rfl
  try simp only [Act.put, List.setIfInBounds_toArray, List.set_cons_zero, List.set_cons_succ]
  refine take1 5 (v := ?_) rfl (by kernel_rfl) (by kernel_rfl) (by kernel_rfl) (fun _ _ _ h => h) (by rfl) ?_ trivial ?_
  rotate_left
  · intro W9 hA
    clear hA
    go_simp
    try with_reducible rfl
  try simp only [Act.put, List.setIfInBounds_toArray, List.set_cons_zero, List.set_cons_succ]
  refine step1 6 (by kernel_rfl) rfl (fun K hK => ?_)
  go_simp
  refine (HB.out _).mono ?_
  rintro e W5 ⟨rfl, rfl⟩
  go_wp2_with fail
  refine hK.out _ _ trivial ?_
  clear hK K
  try simp only [Act.put, List.setIfInBounds_toArray, List.set_cons_zero, List.set_cons_succ]
  refine take1 7 (v := ?_) rfl (by kernel_rfl) (by kernel_rfl) (by kernel_rfl) (fun _ _ _ h => h) (by rfl) ?_ trivial ?_
  rotate_left
  · intro W9 hA
    clear hA
    go_simp
    try with_reducible rfl
  try simp only [Act.put, List.setIfInBounds_toArray, List.set_cons_zero, List.set_cons_succ]
  refine step1 8 (by kernel_rfl) rfl (fun K hK => ?_)
  go_simp
  refine (HM.out _).mono ?_
  rintro e W5 ⟨rfl, rfl⟩
  go_wp2_with fail
  refine hK.out _ _ trivial ?_
  clear hK K
  try simp only [Act.put, List.setIfInBounds_toArray, List.set_cons_zero, List.set_cons_succ]
  refine take1 9 (v := ?_) rfl (by kernel_rfl) (by kernel_rfl) (by kernel_rfl) (fun _ _ _ h => h) (by rfl) ?_ trivial ?_
  rotate_left
  · intro W9 hA
    clear hA
    go_simp
    try with_reducible rfl
  try simp only [Act.put, List.setIfInBounds_toArray, List.set_cons_zero, List.set_cons_succ]
  refine take1 10 (v := ?_) rfl (by kernel_rfl) (by kernel_rfl) (by kernel_rfl) (fun _ _ _ h => h) (by rfl) ?_ trivial ?_
  rotate_left
  · intro W9 hA
    clear hA
    go_simp
    try with_reducible rfl
  try simp only [Act.put, List.setIfInBounds_toArray, List.set_cons_zero, List.set_cons_succ]
  refine stop1 (by kernel_rfl) ?_
  go_wp2
  go_ret2
  exact ⟨by rw [HF.out]; rfl, B0⟩
theorem specFreeWatch_no (n s : Int) (w : World) (h : NoStep n s) :
    Calls Try.prog 21 #[.int .i64 n, .int .i64 s] w fun e w' => e = .returned (.tuple #[.int .i64 0, .bool false]) ∧ w = w' := by
  have HI := Lib.hid (specStep_no n s w h)
  clear h
  go_enter Try.func21, Try.ntmps21
  go_wp2_with (go_at_call 30; refine HI.out.mono ?_; rintro e w' ⟨rfl, rfl⟩)
  go_ret2
  exact ⟨rfl, rfl⟩
theorem specFreeNeat_no (n s : Int) (w : World) (h : NoStep n s) :
    Calls Try.prog 23 #[.int .i64 n, .int .i64 s] w (ListRes w [] false) := by
  have HI := Lib.hid (fun W => specStep_no n s W h)
  clear h
  go_enter Try.func23, Try.ntmps23
  go_wp2_with (go_at_call 30; refine (HI.out _).mono ?_; rintro e w' ⟨rfl, rfl⟩)
  go_ret2
  exact ⟨_, rfl, (Below.refl _ _).alloc (Nat.le_refl _) _, World.ownsRow_made w #[] 0 (Nat.le_refl _) (by simp [maxLen]) rfl⟩
theorem specFreeSumless_no (n : Int) (w : World) (h : ¬ (1 ≤ n ∧ n ≤ 12)) :
    Calls Try.prog 28 #[.int .i64 n] w fun e w' => e = .returned (.tuple #[.int .i64 0, .bool false]) ∧ w = w' := by
  have HI := Lib.hid (specIn_no n 0 w (fun hh => h ⟨hh.1, hh.2.1⟩))
  clear h
  go_enter Try.func28, Try.ntmps28
  go_wp2_with (go_at_call 48; refine HI.out.mono ?_; rintro e w' ⟨rfl, rfl⟩)
  go_ret2
  exact ⟨rfl, rfl⟩
end Go.Proofs.Ytcmobeeneleidaa
