/- Promises of chapter 9 over given contracts: least choices, counts of a row with a place more. Written by gen92.py. -/
import Derived.Test.YtkddaecfljiehaaPZerB
namespace Go.Proofs.Ytkddaecfljiehaa
open Go.RowKit Go.Shelf
set_option linter.unusedVariables false
theorem cast_beq1 (a : Nat) : ((a : Int) == 1) = Nat.beq a 1 := by
  by_cases h : a = 1
  · subst h; rfl
  · have e : Nat.beq a 1 = false := by
      cases hc : Nat.beq a 1
      · rfl
      · exact absurd (Nat.eq_of_beq_eq_true hc) h
    rw [e]; simp; omega
theorem ints_take {W : World} {b g n cp : Nat} {xs : List Int} (h : IsInts W b (.slice (some ⟨g, 0, none⟩) n cp) xs) (k : Nat) (hk : k ≤ xs.length) : IsInts W b (.slice (some ⟨g, 0, none⟩) (xs.take k).length cp) (xs.take k) := by
  have hl : (xs.take k).length = k := by rw [List.length_take]; omega
  refine ⟨by simp, ?_⟩
  rcases h.2 with ⟨e, _⟩ | ⟨g', cap, cur, e, q1, q2, q3, q4, q5, q6⟩
  · cases e
  · injection e with e1 e2 e3
    subst e3
    injection e1 with e4
    injection e4 with e5
    subst e5
    refine .inr ⟨g, cp, cur, rfl, q1, q2, by omega, q4, q5, ?_⟩
    rw [hl, Nat.mul_one, List.map_take, ← q6, List.take_take, Nat.mul_one, Nat.min_eq_left hk]
set_option maxHeartbeats 2000000 in
set_option maxRecDepth 4000 in
theorem lawP_FnZeroLeast (W : World) (B len cap : Nat) (A : Option Addr) (f : Nat → Nat) (hC : Code W B A len f) (hB : B ≤ W.heap.size) (hlc : len ≤ cap) (hcap : cap ≤ 9223372036854775807)
    (hN : NoZeroLeast) (hY : YesZeroLeast) (hP : YesZeroPlain) :
    Calls Try.prog 5 #[.slice A len cap] W fun e w' => e = .returned (.bool true) ∧ Below W.heap.size W w' := by
  have HC := Lib.hid (drawZeroLeast_any W B len cap A f hC hB hlc hcap)
  clear hC
  by_cases hlen : (1048576 : Int) < (len : Int)
  · go_enter Try.func5, Try.ntmps5
    go_wp2
    go_ret
    exact ⟨rfl, Below.refl _ _⟩
  go_enter Try.func5, Try.ntmps5
  go_wp2_with fail
  refine HC.out.mono ?_
  rintro e w1 ⟨n, sv, xs, rfl, hx, hbl, hI0⟩
  have HB := Lib.hid hbl
  have HV := Lib.hid hI0
  have hx2 : xs.length ≤ 2000000 := Nat.le_trans hx (by decide)
  clear hbl hI0 hB hlc hcap HC
  by_cases hno : ¬ (RowIn n xs ∧ xs.length ≤ 8)
  · skip
    go_wp2_with fail
    refine (hN n sv xs _ _ hno hx2 HV.out).mono ?_
    rintro e w2 ⟨sa, rfl, hb2, hI2⟩
    have HV := Lib.hid (HV.out.belowAll hb2)
    have HO := Lib.hid hI2
    clear hI2
    have HB := Lib.hid (HB.out.trans (hb2.mono HB.out.size))
    clear hb2
    go_wp2_with fail
    refine (specZeroLeast_no n sv xs _ _ hno hx2 HV.out).mono ?_
    rintro e w3 ⟨sb, rfl, hb3, hI3⟩
    have HV := Lib.hid (HV.out.belowAll hb3)
    have HO := Lib.hid (HO.out.belowAll hb3)
    have HP := Lib.hid hI3
    clear hI3
    have HB := Lib.hid (HB.out.trans (hb3.mono HB.out.size))
    clear hb3
    go_wp2_with fail
    refine (sameInts_any _ _ [] _ _ _ HO.out HP.out).mono ?_
    rintro e w4 ⟨rfl, hb4⟩
    have HO := Lib.hid (HO.out.belowAll hb4)
    have HP := Lib.hid (HP.out.belowAll hb4)
    have HB := Lib.hid (HB.out.trans (hb4.mono HB.out.size))
    clear hb4
    go_wp2_with fail
    refine (sameInts_any _ _ [] _ _ _ HO.out HP.out).mono ?_
    rintro e w5 ⟨rfl, hb5⟩
    have HB := Lib.hid (HB.out.trans (hb5.mono HB.out.size))
    clear hb5
    go_wp2
    go_ret
    exact ⟨rfl, HB.out⟩
  have hrow0 : RowIn n xs ∧ xs.length ≤ 8 := Classical.byContradiction hno
  clear hno
  obtain ⟨hrow, h8⟩ := hrow0
  obtain ⟨m, rfl, h1, h2⟩ := row_nat hrow
  have h12 := hrow.2.1
  have hr := row_lt hrow
  have HYs := Lib.hid (fun W1 b h => hY m sv xs b W1 hrow h8 h)
  have HSs := Lib.hid (fun W1 b h => specZeroLeast_yes m sv xs b W1 hrow h8 h)
  have HPs := Lib.hid (fun W1 b h => hP m sv xs b W1 hrow h)
  have hnone := leastL_none m (rowZ xs) xs.length
  have hat := fun i hi => pick_at (leastC m (rowZ xs) xs.length) (2 ^ xs.length) i hi
  have hup := fun i j hij hj => pick_up (leastC m (rowZ xs) xs.length) (2 ^ xs.length) i j hij hj
  have hsm := fun c hc h => least_small m (rowZ xs) xs.length c h1 h2 hr hc h
  have hap := fun c d hc hd hs => least_apart m (rowZ xs) xs.length c d hc hd hs
  have hpw : 2 ^ xs.length ≤ 256 := Nat.le_trans (Nat.pow_le_pow_right (by omega) h8) (by decide)
  have hat : ∀ i, i < (leastL m (rowZ xs) xs.length).length → ∃ x : Nat, (leastL m (rowZ xs) xs.length).getD i 0 = (x : Int) ∧ x < 2 ^ xs.length ∧ leastC m (rowZ xs) xs.length x = true := hat
  have hup : ∀ i j, i < j → j < (leastL m (rowZ xs) xs.length).length → (leastL m (rowZ xs) xs.length).getD i 0 < (leastL m (rowZ xs) xs.length).getD j 0 := hup
  obtain ⟨ls, hls⟩ : ∃ ls, leastL m (rowZ xs) xs.length = ls := ⟨_, rfl⟩
  rw [hls] at HYs HSs hnone hat hup
  have HAt : Hid (∀ i, i < ls.length → ∃ x : Nat, ls.getD i 0 = (x : Int) ∧ x < 2 ^ 40 ∧ sizeN x ≤ m) := Lib.hid (fun i hi => by
    obtain ⟨x, e1, e2, e3⟩ := hat i hi
    exact ⟨x, e1, by omega, by rw [size_cnt x xs.length e2 (by omega)]; exact hsm x e2 e3⟩)
  have HApart : Hid (∀ i k, i < ls.length → k < ls.length → i ≠ k → ∀ x y : Nat, ls.getD i 0 = (x : Int) → ls.getD k 0 = (y : Int) → lessN x y ≠ 0) := Lib.hid (fun i k hi hk hne x y ex ey e0 => by
    obtain ⟨x', e1, _, e3⟩ := hat i hi
    obtain ⟨y', f1, _, f3⟩ := hat k hk
    obtain rfl : x = x' := by rw [ex] at e1; omega
    obtain rfl : y = y' := by rw [ey] at f1; omega
    have hs : SubM x y := fun b hb => by
      have := lessN_bit x y b
      rw [e0, Nat.zero_testBit, hb, Bool.true_and] at this
      simpa using this.symm
    have exy := hap y x f3 e3 hs
    rcases Nat.lt_or_gt_of_ne hne with h | h
    · have := hup i k h hk
      rw [ex, ey] at this
      omega
    · have := hup k i h hi
      rw [ex, ey] at this
      omega)
  have HPl : Hid (plainB m (rowZ xs) xs.length = Nat.beq ls.length 0) := Lib.hid (by
    unfold plainB
    exact bool_iff ⟨fun h => by rw [hnone.2 (Nat.eq_of_beq_eq_true h)]; rfl, fun h => by rw [hnone.1 (List.eq_nil_of_length_eq_zero (Nat.eq_of_beq_eq_true h))]; rfl⟩)
  rw [HPl.out] at HPs
  have HMl : Hid (ls.length ≤ 256) := Lib.hid (by rw [← hls]; exact Nat.le_trans (pick_len _ _) hpw)
  obtain ⟨A, cp, hsv⟩ := HV.out.slice
  clear hN hY hP HPl hrow hr hnone hat hup hsm hap hpw hls
  generalize xs.length = L at *
  subst hsv
  go_wp2_with fail
  refine (HYs.out _ _ HV.out).mono ?_
  rintro e w2 ⟨sa, rfl, hb2, hI2⟩
  have HV := Lib.hid (HV.out.belowAll hb2)
  have HO := Lib.hid hI2
  clear hI2
  have HB := Lib.hid (HB.out.trans (hb2.mono HB.out.size))
  clear hb2
  go_wp2_with fail
  refine (HSs.out _ _ HV.out).mono ?_
  rintro e w3 ⟨sb, rfl, hb3, hI3⟩
  have HV := Lib.hid (HV.out.belowAll hb3)
  have HO := Lib.hid (HO.out.belowAll hb3)
  have HP := Lib.hid hI3
  clear hI3
  have HB := Lib.hid (HB.out.trans (hb3.mono HB.out.size))
  clear hb3
  go_wp2_with fail
  refine (sameInts_any _ _ ls _ _ _ HO.out HP.out).mono ?_
  rintro e w4 ⟨rfl, hb4⟩
  have HV := Lib.hid (HV.out.belowAll hb4)
  have HO := Lib.hid (HO.out.belowAll hb4)
  have HB := Lib.hid (HB.out.trans (hb4.mono HB.out.size))
  clear hb4
  clear HP HYs HSs
  obtain ⟨A9, c9, hsa⟩ := HO.out.slice
  obtain ⟨M, hM⟩ : ∃ M, ls.length = M := ⟨_, rfl⟩
  have HM := Lib.hid hM
  rw [hM] at hsa HAt HApart HPs HMl
  subst hsa
  have hM256 := HMl.out
  clear hM
  obtain ⟨bO, HO⟩ : ∃ bO, Hid (IsInts w4 bO (.slice A9 M c9) ls) := ⟨_, HO⟩
  go_wp2
  go_loopw [9] (fun u wr => ∃ i : Nat, i ≤ M ∧ u = .int .i64 (i : Int) ∧ Hid (IsInts wr bO (.slice A9 M c9) ls) ∧ Hid (IsInts wr W.heap.size (.slice A L cp) xs) ∧ Hid (Below W.heap.size W wr)) (fun u _ => M - (intOf u).toNat)
  case atStart => exact ⟨0, Nat.zero_le _, rfl, HO, HV, HB⟩
  case round =>
    obtain ⟨i, hi, rfl, HO, HV, HB⟩ := hrel
    by_cases hlt : i < M
    · obtain ⟨g, hg⟩ : ∃ g, A9 = some ⟨g, 0, none⟩ := by
        rcases HO.out.shape with ⟨_, e2⟩ | ⟨g, c, e1, _⟩
        · have := HM.out
          rw [e2] at this
          simp at this; omega
        · exact ⟨g, by cases e1; rfl⟩
      subst hg
      have ci := HO.out.cell (i := i) (by rw [HM.out]; exact hlt)
      obtain ⟨x, hx1, hx2', hx3⟩ := HAt.out i hlt
      have HXi := Lib.hid hx1
      rw [hx1] at ci
      have HSz := Lib.hid (fun W => size_any x W hx2')
      have hx62 : x < 2 ^ 62 := by omega
      generalize hsx : sizeN x = sx at *
      have k1 : ¬ (sx : Int) > (m : Int) := by omega
      have k2 : ¬ (m : Int) < (sx : Int) := k1
      have i1 : (0 : Int) ≤ (i : Int) := Int.natCast_nonneg i
      have i2 : (i : Int) < (M : Int) := Int.ofNat_lt.2 hlt
      clear hx1 hsx hx3 hx2'
      go_wp2_with (go_at_call 20; refine (HSz.out _).mono ?_; rintro e w8 ⟨rfl, rfl⟩)
      clear ci k1 k2
      go_loopw [10] (fun u wi => ∃ k : Nat, k ≤ M ∧ u = .int .i64 (k : Int) ∧ Hid (IsInts wi bO (.slice (some ⟨g, 0, none⟩) M c9) ls) ∧ Hid (IsInts wi W.heap.size (.slice A L cp) xs) ∧ Hid (Below W.heap.size W wi)) (fun u _ => M - (intOf u).toNat)
      case atStart => exact ⟨0, Nat.zero_le _, rfl, HO, HV, HB⟩
      case round =>
        obtain ⟨k, hk, rfl, HO, HV, HB⟩ := hrel
        by_cases hlk : k < M
        · have ci := HO.out.cell (i := i) (by rw [HM.out]; exact hlt)
          have ck := HO.out.cell (i := k) (by rw [HM.out]; exact hlk)
          obtain ⟨y, hy1, hy2, _⟩ := HAt.out k hlk
          have HLs := Lib.hid (less_nat x y hx62 (by omega))
          have HNe := Lib.hid (fun hne => HApart.out i k hlt hlk hne x y HXi.out hy1)
          rw [HXi.out] at ci
          rw [hy1] at ck
          clear hy1 hy2
          generalize lessN x y = a at *
          have i3 : (0 : Int) ≤ (k : Int) := Int.natCast_nonneg k
          have i4 : (k : Int) < (M : Int) := Int.ofNat_lt.2 hlk
          by_cases hik : i = k
          · have e1 : ((i : Int) == (k : Int)) = true := by rw [hik]; simp
            have e2 : ((i : Int) != (k : Int)) = false := by unfold bne; rw [e1]; rfl
            clear hik HNe HLs
            go_wp2
            go_region
            go_wp2
            go_roundw
            case rel => exact ⟨k + 1, hlk, by go_num, Lib.hid (HO.out.belowAll (Below.refl _ _).drew), Lib.hid (HV.out.belowAll (Below.refl _ _).drew), Lib.hid HB.out.drew⟩
            case measure => simp [intOf]; omega
          · have e1 : ((i : Int) == (k : Int)) = false := by simp; omega
            have e2 : ((i : Int) != (k : Int)) = true := by unfold bne; rw [e1]; rfl
            have ha := HNe.out hik
            have e3 : ((a : Int) == 0) = false := by simp; omega
            have e4 := HLs.out
            clear hik HNe HLs ha
            go_wp2
            go_region
            go_wp2
            go_roundw
            case rel => exact ⟨k + 1, hlk, by go_num, Lib.hid (HO.out.belowAll (Below.refl _ _).drew), Lib.hid (HV.out.belowAll (Below.refl _ _).drew), Lib.hid HB.out.drew⟩
            case measure => simp [intOf]; omega
        · obtain rfl : k = M := by omega
          go_wp2
          go_roundw
          case rel => exact ⟨i + 1, hlt, by go_num, HO, HV, HB⟩
          case measure => simp [intOf]; omega
    · obtain rfl : i = M := by omega
      have HEq := Lib.hid (cast_beq0n i)
      generalize Nat.beq i 0 = q at *
      have e1 := HEq.out
      cases q
      all_goals
        go_wp2_with fail
        refine (HPs.out _ _ HV.out).mono ?_
        rintro e w9 ⟨rfl, hb9⟩
        have HB := Lib.hid (HB.out.trans (hb9.mono HB.out.size))
        go_wp2
        go_ret
        exact ⟨rfl, HB.out⟩
set_option maxHeartbeats 2000000 in
set_option maxRecDepth 4000 in
theorem lawP_FnCountsMore (W : World) (B len cap : Nat) (A : Option Addr) (f : Nat → Nat) (hC : Code W B A len f) (hB : B ≤ W.heap.size) (hlc : len ≤ cap) (hcap : cap ≤ 9223372036854775807)
    (hN : NoZeroCounts) (hY : YesZeroCounts) :
    Calls Try.prog 6 #[.slice A len cap] W fun e w' => e = .returned (.bool true) ∧ Below W.heap.size W w' := by
  have HC := Lib.hid (drawZeroCounts_any W B len cap A f hC hB hlc hcap)
  clear hC
  by_cases hlen : (1048576 : Int) < (len : Int)
  · go_enter Try.func6, Try.ntmps6
    go_wp2
    go_ret
    exact ⟨rfl, Below.refl _ _⟩
  go_enter Try.func6, Try.ntmps6
  go_wp2_with fail
  refine HC.out.mono ?_
  rintro e w1 ⟨n, sv, xs, rfl, hx, hbl, hI0⟩
  have HB := Lib.hid hbl
  have HV := Lib.hid hI0
  have hx2 : xs.length ≤ 2000000 := Nat.le_trans hx (by decide)
  clear hbl hI0 hB hlc hcap HC
  by_cases hno : ¬ (RowIn n xs)
  · skip
    go_wp2_with fail
    refine (hN n sv xs _ _ hno hx2 HV.out).mono ?_
    rintro e w2 ⟨sa, rfl, hb2, hI2⟩
    have HV := Lib.hid (HV.out.belowAll hb2)
    have HO := Lib.hid hI2
    clear hI2
    have HB := Lib.hid (HB.out.trans (hb2.mono HB.out.size))
    clear hb2
    go_wp2_with fail
    refine (specZeroCounts_no n sv xs _ _ hno hx2 HV.out).mono ?_
    rintro e w3 ⟨sb, rfl, hb3, hI3⟩
    have HV := Lib.hid (HV.out.belowAll hb3)
    have HO := Lib.hid (HO.out.belowAll hb3)
    have HP := Lib.hid hI3
    clear hI3
    have HB := Lib.hid (HB.out.trans (hb3.mono HB.out.size))
    clear hb3
    go_wp2_with fail
    refine (sameInts_any _ _ [] _ _ _ HO.out HP.out).mono ?_
    rintro e w4 ⟨rfl, hb4⟩
    have HO := Lib.hid (HO.out.belowAll hb4)
    have HP := Lib.hid (HP.out.belowAll hb4)
    have HB := Lib.hid (HB.out.trans (hb4.mono HB.out.size))
    clear hb4
    go_wp2_with fail
    refine (sameInts_any _ _ [] _ _ _ HO.out HP.out).mono ?_
    rintro e w5 ⟨rfl, hb5⟩
    have HB := Lib.hid (HB.out.trans (hb5.mono HB.out.size))
    clear hb5
    go_wp2
    go_ret
    exact ⟨rfl, HB.out⟩
  have hrow0 : RowIn n xs := Classical.byContradiction hno
  clear hno
  have hrow := hrow0
  obtain ⟨m, rfl, h1, h2⟩ := row_nat hrow
  have h12 := hrow.2.1
  have hr := row_lt hrow
  have HYs := Lib.hid (fun W1 b h => hY m sv xs b W1 hrow h)
  have HSs := Lib.hid (fun W1 b h => specZeroCounts_yes m sv xs b W1 hrow h)
  have HTk : Hid (∀ K, K + 1 = xs.length → ∀ sv W1 b, IsInts W1 b sv (xs.take K) → Calls Try.prog 9 #[.int .i64 (m:Int), sv] W1 (ListRes W1 (cntL m (rowZ xs) K) true)) := Lib.hid (fun K hK sv W1 b h => by
    have hl : (xs.take K).length = K := by rw [List.length_take]; omega
    have hg : ∀ i, i < K → (xs.take K).getD i 0 = xs.getD i 0 := fun i hi => by
      rw [List.getD_eq_getElem?_getD, List.getElem?_take_of_lt hi, ← List.getD_eq_getElem?_getD]
    have a := hY m sv (xs.take K) b W1 ⟨hrow.1, by omega, fun i hi => by rw [hl] at hi; rw [hg i hi]; exact hrow.2.2 i (by omega)⟩ h
    have e : cntL m (rowZ (xs.take K)) (xs.take K).length = cntL m (rowZ xs) K := by
      rw [hl]
      exact tabI_congr m _ _ fun v hv => by rw [count_congr m (rowZ (xs.take K)) (rowZ xs) K v fun i hi => by unfold rowZ; rw [hg i hi]]
    rw [e] at a
    exact a)
  have HLast := Lib.hid (fun K v hv => count_last m (rowZ xs) K v h1 h2 hr hv)
  have HVal := Lib.hid (fun i hi => row_val hrow i hi)
  have HG := Lib.hid (fun k v hv => cntL_get m (rowZ xs) k v hv)
  have HLen := Lib.hid (fun k => cntL_len m (rowZ xs) k)
  have HCl := Lib.hid (fun k v => count_le m (rowZ xs) k v)
  have HZero := Lib.hid (count_none m (rowZ xs) 0 h1)
  have HRl := Lib.hid hr
  obtain ⟨A, cp, hsv⟩ := HV.out.slice
  obtain ⟨L, hL⟩ : ∃ L, xs.length = L := ⟨_, rfl⟩
  have HL := Lib.hid hL
  rw [hL] at hsv HYs HSs h12 HTk
  clear hN hY hrow hrow0 hr hL
  subst hsv
  go_wp2_with fail
  refine (HYs.out _ _ HV.out).mono ?_
  rintro e w2 ⟨sa, rfl, hb2, hI2⟩
  have HV := Lib.hid (HV.out.belowAll hb2)
  have HO := Lib.hid hI2
  clear hI2
  have HB := Lib.hid (HB.out.trans (hb2.mono HB.out.size))
  clear hb2
  go_wp2_with fail
  refine (HSs.out _ _ HV.out).mono ?_
  rintro e w3 ⟨sb, rfl, hb3, hI3⟩
  have HV := Lib.hid (HV.out.belowAll hb3)
  have HO := Lib.hid (HO.out.belowAll hb3)
  have HP := Lib.hid hI3
  clear hI3
  have HB := Lib.hid (HB.out.trans (hb3.mono HB.out.size))
  clear hb3
  go_wp2_with fail
  refine (sameInts_any _ _ (cntL m (rowZ xs) L) _ _ _ HO.out HP.out).mono ?_
  rintro e w4 ⟨rfl, hb4⟩
  have HV := Lib.hid (HV.out.belowAll hb4)
  have HO := Lib.hid (HO.out.belowAll hb4)
  have HB := Lib.hid (HB.out.trans (hb4.mono HB.out.size))
  clear hb4
  have i5 : ((m : Int) = 0) = False := by simp; omega
  have i6 : ((m : Int) == 0) = false := by simp; omega
  have i7 : (m = 0) = False := by simp; omega
  have i8 : (0 : Int) < (m : Int) := by omega
  have i9 : 0 < m := by omega
  clear HP HYs HSs
  obtain ⟨g, c9, rfl⟩ : ∃ g c9, sa = .slice (some ⟨g, 0, none⟩) m c9 := by
    rcases HO.out.shape with ⟨_, e2⟩ | ⟨g, c, e1, _⟩
    · have := HLen.out L
      rw [e2] at this
      simp at this; omega
    · exact ⟨g, c, by rw [e1, HLen.out]⟩
  by_cases hL0 : L = 0
  · have c0 := HO.out.cell (i := 0) (by rw [HLen.out]; exact i9)
    rw [HG.out L 0 i9] at c0
    subst hL0
    rw [HZero.out] at c0
    have e1 : ((0 : Int) == 0) = true := rfl
    go_wp2
    go_ret
    exact ⟨rfl, HB.out⟩
  · obtain ⟨K, hK⟩ : ∃ K, K + 1 = L := ⟨L - 1, by omega⟩
    have hK12 : K ≤ 12 := by omega
    obtain ⟨gr, hgr, hcpL⟩ : ∃ gr, A = some ⟨gr, 0, none⟩ ∧ L ≤ cp := by
      rcases HV.out.2 with ⟨_, e⟩ | ⟨g5, cp5, cur, e, _, _, hle, _⟩
      · have := HL.out
        omega
      · have hl5 := HL.out
        injection e with e1 e2 e3
        exact ⟨g5, e1, by omega⟩
    subst hgr
    have HTkl : Hid (IsInts w4 W.heap.size (.slice (some ⟨gr, 0, none⟩) (xs.take K).length cp) (xs.take K)) := Lib.hid (ints_take HV.out K (by rw [HL.out]; omega))
    have HTl : Hid ((xs.take K).length = K) := Lib.hid (by rw [List.length_take, HL.out]; omega)
    have HTs : Hid ((xs.take K).length ≤ 1000) := Lib.hid (by rw [HTl.out]; omega)
    have HTc := Lib.hid (fun sv W1 b h => HTk.out K hK sv W1 b h)
    have k0 : ((L : Int) == 0) = false := by simp; omega
    have hw1 : IntKind.i64.wrap ((L : Int) - 1) = (K : Int) := by rw [IntWalk.i64_in _ (by omega)]; omega
    have hw2 : wrap64 ((L : Int) - 1) = (K : Int) := by rw [IntWalk.wrap64_in _ (by omega)]; omega
    have j1 : (0 : Int) ≤ (K : Int) := Int.natCast_nonneg K
    have j2 : (K : Int) ≤ (cp : Int) := by omega
    have j3 : K ≤ cp := by omega
    have hWb := HB.out.size
    go_wp2_with (at_builtin; refine wpList_copy rfl _ _ rfl (xs.take K) w4 gr cp W.heap.size rfl (by rw [HTl.out]; rfl) HTkl.out HTs.out (fun v' w7 hO7 hb7 => ?_); have HN7 := Lib.hid hO7; have HB7 := Lib.hid hb7; clear hO7 hb7)
    refine (HTc.out _ _ _ HN7.out).mono ?_
    rintro e w8 ⟨sx, rfl, hb8, hI8⟩
    have HX := Lib.hid hI8
    have HO := Lib.hid ((HO.out.belowAll HB7.out).belowAll hb8)
    have HV := Lib.hid ((HV.out.belowAll HB7.out).belowAll hb8)
    have HB := Lib.hid ((HB.out.trans (HB7.out.mono hWb)).trans (hb8.mono (Nat.le_trans hWb HB7.out.size)))
    clear hb8 hI8 HN7 HB7 HTkl hw1 hw2
    obtain ⟨gx, cx, rfl⟩ : ∃ gx cx, sx = .slice (some ⟨gx, 0, none⟩) m cx := by
      rcases HX.out.shape with ⟨_, e2⟩ | ⟨g6, c6, e1, _⟩
      · have := HLen.out K
        rw [e2] at this
        simp at this; omega
      · exact ⟨g6, c6, by rw [e1, HLen.out]⟩
    obtain ⟨bX, HX⟩ : ∃ bX, Hid (IsInts w8 bX (.slice (some ⟨gx, 0, none⟩) m cx) (cntL m (rowZ xs) K)) := ⟨_, HX⟩
    obtain ⟨bO, HO⟩ : ∃ bO, Hid (IsInts w8 bO (.slice (some ⟨g, 0, none⟩) m c9) (cntL m (rowZ xs) L)) := ⟨_, HO⟩
    have hz11 : ∀ i, rowZ xs i < m := HRl.out
    go_wp2
    go_loopw [12] (fun u wr => ∃ v : Nat, v ≤ m ∧ u = .int .i64 (v : Int) ∧ Hid (IsInts wr bX (.slice (some ⟨gx, 0, none⟩) m cx) (cntL m (rowZ xs) K)) ∧ Hid (IsInts wr bO (.slice (some ⟨g, 0, none⟩) m c9) (cntL m (rowZ xs) L)) ∧ Hid (IsInts wr W.heap.size (.slice (some ⟨gr, 0, none⟩) L cp) xs) ∧ Hid (Below W.heap.size W wr)) (fun u _ => m - (intOf u).toNat)
    case atStart => exact ⟨0, Nat.zero_le _, rfl, HX, HO, HV, HB⟩
    case round =>
      obtain ⟨v, hv, rfl, HX, HO, HV, HB⟩ := hrel
      by_cases hlt : v < m
      · have cr := HV.out.cell (i := K) (by rw [HL.out]; omega)
        rw [HVal.out K (by rw [HL.out]; omega)] at cr
        have hj : (v + rowZ xs K) % m < m := Nat.mod_lt _ (by omega)
        have co := HO.out.cell (i := (v + rowZ xs K) % m) (by rw [HLen.out]; exact hj)
        rw [HG.out L _ hj] at co
        have cx1 := HX.out.cell (i := (v + rowZ xs K) % m) (by rw [HLen.out]; exact hj)
        rw [HG.out K _ hj] at cx1
        have cx2 := HX.out.cell (i := v) (by rw [HLen.out]; exact hlt)
        rw [HG.out K v hlt] at cx2
        have HE := Lib.hid (HLast.out K v hlt)
        rw [hK] at HE
        have t1 := tmod_nat (v + rowZ xs K) m
        have hb1 := HCl.out K ((v + rowZ xs K) % m)
        have hb2 := HCl.out K v
        have hzk := hz11 K
        have hvz : v + rowZ xs K ≤ 1000000 := by omega
        obtain ⟨m1, m2⟩ := two_wraps ((v : Int) + (rowZ xs K : Int)) (v + rowZ xs K) (Int.natCast_add v (rowZ xs K)).symm hvz
        generalize (v + rowZ xs K) % m = j at *
        generalize v + rowZ xs K = y at *
        generalize rowZ xs K = z at *
        rw [HE.out] at co
        generalize countN m (rowZ xs) K j = p at *
        generalize countN m (rowZ xs) K v = q at *
        have hpw : 2 ^ K ≤ 4096 := Nat.le_trans (Nat.pow_le_pow_right (by decide) hK12) (by decide)
        have hpq : p + q ≤ 1000000 := Nat.le_trans (Nat.add_le_add (Nat.le_trans hb1 hpw) (Nat.le_trans hb2 hpw)) (by decide)
        obtain ⟨m3, m4⟩ := two_wraps ((p : Int) + (q : Int)) (p + q) (Int.natCast_add p q).symm hpq
        generalize p + q = s at *
        have e1 : ((s : Int) != (s : Int)) = false := by simp
        have i1 : (0 : Int) ≤ (K : Int) := Int.natCast_nonneg K
        have i2 : (K : Int) < (L : Int) := Int.ofNat_lt.2 (by rw [← hK]; exact Nat.lt_succ_self K)
        have i3 : (0 : Int) ≤ (j : Int) := Int.natCast_nonneg j
        have i4 : (j : Int) < (m : Int) := Int.ofNat_lt.2 hj
        have i3v : (0 : Int) ≤ (v : Int) := Int.natCast_nonneg v
        have i4v : (v : Int) < (m : Int) := Int.ofNat_lt.2 hlt
        clear hb1 hb2 hpq hvz hzk hpw
        go_wp2
        go_region
        go_wp2
        go_roundw
        case rel => exact ⟨v + 1, hlt, by go_num, Lib.hid (HX.out.belowAll (Below.refl _ _).drew), Lib.hid (HO.out.belowAll (Below.refl _ _).drew), Lib.hid (HV.out.belowAll (Below.refl _ _).drew), Lib.hid HB.out.drew⟩
        case measure => simp [intOf]; omega
      · obtain rfl : v = m := by omega
        go_wp2
        go_ret
        exact ⟨rfl, HB.out⟩
set_option maxHeartbeats 2000000 in
set_option maxRecDepth 4000 in
theorem lawP_FnZeroCounts (W : World) (B len cap : Nat) (A : Option Addr) (f : Nat → Nat) (hC : Code W B A len f) (hB : B ≤ W.heap.size) (hlc : len ≤ cap) (hcap : cap ≤ 9223372036854775807)
    (hN : NoZeroCounts) (hY : YesZeroCounts) (hP : YesZeroPlain) :
    Calls Try.prog 7 #[.slice A len cap] W fun e w' => e = .returned (.bool true) ∧ Below W.heap.size W w' := by
  have HC := Lib.hid (drawZeroCounts_any W B len cap A f hC hB hlc hcap)
  clear hC
  by_cases hlen : (1048576 : Int) < (len : Int)
  · go_enter Try.func7, Try.ntmps7
    go_wp2
    go_ret
    exact ⟨rfl, Below.refl _ _⟩
  go_enter Try.func7, Try.ntmps7
  go_wp2_with fail
  refine HC.out.mono ?_
  rintro e w1 ⟨n, sv, xs, rfl, hx, hbl, hI0⟩
  have HB := Lib.hid hbl
  have HV := Lib.hid hI0
  have hx2 : xs.length ≤ 2000000 := Nat.le_trans hx (by decide)
  clear hbl hI0 hB hlc hcap HC
  by_cases hno : ¬ (RowIn n xs)
  · skip
    go_wp2_with fail
    refine (hN n sv xs _ _ hno hx2 HV.out).mono ?_
    rintro e w2 ⟨sa, rfl, hb2, hI2⟩
    have HV := Lib.hid (HV.out.belowAll hb2)
    have HO := Lib.hid hI2
    clear hI2
    have HB := Lib.hid (HB.out.trans (hb2.mono HB.out.size))
    clear hb2
    go_wp2_with fail
    refine (specZeroCounts_no n sv xs _ _ hno hx2 HV.out).mono ?_
    rintro e w3 ⟨sb, rfl, hb3, hI3⟩
    have HV := Lib.hid (HV.out.belowAll hb3)
    have HO := Lib.hid (HO.out.belowAll hb3)
    have HP := Lib.hid hI3
    clear hI3
    have HB := Lib.hid (HB.out.trans (hb3.mono HB.out.size))
    clear hb3
    go_wp2_with fail
    refine (sameInts_any _ _ [] _ _ _ HO.out HP.out).mono ?_
    rintro e w4 ⟨rfl, hb4⟩
    have HO := Lib.hid (HO.out.belowAll hb4)
    have HP := Lib.hid (HP.out.belowAll hb4)
    have HB := Lib.hid (HB.out.trans (hb4.mono HB.out.size))
    clear hb4
    go_wp2_with fail
    refine (sameInts_any _ _ [] _ _ _ HO.out HP.out).mono ?_
    rintro e w5 ⟨rfl, hb5⟩
    have HB := Lib.hid (HB.out.trans (hb5.mono HB.out.size))
    clear hb5
    go_wp2
    go_ret
    exact ⟨rfl, HB.out⟩
  have hrow0 : RowIn n xs := Classical.byContradiction hno
  clear hno
  have hrow := hrow0
  obtain ⟨m, rfl, h1, h2⟩ := row_nat hrow
  have h12 := hrow.2.1
  have hr := row_lt hrow
  have HYs := Lib.hid (fun W1 b h => hY m sv xs b W1 hrow h)
  have HSs := Lib.hid (fun W1 b h => specZeroCounts_yes m sv xs b W1 hrow h)
  have HPs := Lib.hid (fun W1 b h => hP m sv xs b W1 hrow h)
  have hmx : Try.prog.follows .mixedOrders = true := by kernel_rfl
  have hcp := count_plain m (rowZ xs) xs.length h1
  have HPl : Hid (plainB m (rowZ xs) xs.length = Nat.beq (countN m (rowZ xs) xs.length 0) 1) := Lib.hid (by
    unfold plainB
    exact bool_iff ⟨fun h => by rw [hcp.2 (Nat.eq_of_beq_eq_true h)]; rfl, fun h => by rw [hcp.1 (Nat.eq_of_beq_eq_true h)]; rfl⟩)
  rw [HPl.out] at HPs
  have HG0 := Lib.hid (cntL_get m (rowZ xs) xs.length 0 h1)
  have HLen := Lib.hid (cntL_len m (rowZ xs) xs.length)
  have hsum : sumL (cntL m (rowZ xs) xs.length) (cntL m (rowZ xs) xs.length).length = 2 ^ xs.length := by
    rw [HLen.out, ← count_total m (rowZ xs) xs.length h1]
    exact sumTo_congr _ _ m fun v hv => by rw [cntL_get m (rowZ xs) xs.length v hv]; rfl
  have hpw : 2 ^ xs.length ≤ 4096 := Nat.le_trans (Nat.pow_le_pow_right (by omega) h12) (by decide)
  have HTot : Hid (∀ sa W1 b, IsInts W1 b sa (cntL m (rowZ xs) xs.length) → Calls Try.prog 16 #[sa] W1 fun e w' => e = .returned (.int .i64 ((2 ^ xs.length : Nat) : Int)) ∧ W1 = w') := Lib.hid (fun sa W1 b h => by
    have a := totalB_any sa _ W1 b h (by rw [HLen.out]; omega) (fun i hi => by
      rw [HLen.out] at hi
      rw [cntL_get m (rowZ xs) xs.length i hi]
      have := count_le m (rowZ xs) xs.length i
      omega)
    rw [hsum] at a
    exact a)
  obtain ⟨ls, hls⟩ : ∃ ls, cntL m (rowZ xs) xs.length = ls := ⟨_, rfl⟩
  rw [hls] at HYs HSs HG0 HLen HTot
  generalize countN m (rowZ xs) xs.length 0 = c0 at *
  have HEq : Hid (((c0 : Int) == 1) = Nat.beq c0 1) := Lib.hid (cast_beq1 c0)
  obtain ⟨N, hN2, hN1, _, _, _, _, _⟩ := pow12L h12
  obtain ⟨_, _, _, _, e1, e2, _, _⟩ := pow12L h12
  rw [hN2] at HTot hpw
  have HE12 : Hid (wrap64 (2 ^ xs.length) = (N : Int) ∧ IntKind.i64.wrap (2 ^ xs.length) = (N : Int)) := Lib.hid (by
    obtain ⟨N', q1, _, _, q2, q3, _, _⟩ := pow12L h12
    have : N' = N := q1.symm.trans hN2
    rw [← this]; exact ⟨q2, q3⟩)
  obtain ⟨A, cp, hsv⟩ := HV.out.slice
  clear hN hY hP HPl hcp hrow hrow0 hr hls hsum hN2 e1 e2
  generalize xs.length = L at *
  subst hsv
  go_wp2_with fail
  refine (HYs.out _ _ HV.out).mono ?_
  rintro e w2 ⟨sa, rfl, hb2, hI2⟩
  have HV := Lib.hid (HV.out.belowAll hb2)
  have HO := Lib.hid hI2
  clear hI2
  have HB := Lib.hid (HB.out.trans (hb2.mono HB.out.size))
  clear hb2
  go_wp2_with fail
  refine (HSs.out _ _ HV.out).mono ?_
  rintro e w3 ⟨sb, rfl, hb3, hI3⟩
  have HV := Lib.hid (HV.out.belowAll hb3)
  have HO := Lib.hid (HO.out.belowAll hb3)
  have HP := Lib.hid hI3
  clear hI3
  have HB := Lib.hid (HB.out.trans (hb3.mono HB.out.size))
  clear hb3
  go_wp2_with fail
  refine (sameInts_any _ _ ls _ _ _ HO.out HP.out).mono ?_
  rintro e w4 ⟨rfl, hb4⟩
  have HV := Lib.hid (HV.out.belowAll hb4)
  have HO := Lib.hid (HO.out.belowAll hb4)
  have HB := Lib.hid (HB.out.trans (hb4.mono HB.out.size))
  clear hb4
  cases hq9 : Nat.beq c0 1
  all_goals
    rw [hq9] at HPs HEq
    clear HP HYs HSs
    obtain ⟨g, c9, rfl⟩ : ∃ g c9, sa = .slice (some ⟨g, 0, none⟩) m c9 := by
      rcases HO.out.shape with ⟨_, e2⟩ | ⟨g, c, e1, _⟩
      · have := HLen.out
        rw [e2] at this
        simp at this; omega
      · exact ⟨g, c, by rw [e1, HLen.out]⟩
    have hc := HO.out.cell (i := 0) (by rw [HLen.out]; omega)
    rw [HG0.out] at hc
    have hgl := (World.ownsRow.lt HO.out g rfl).2
    obtain ⟨w1', w2'⟩ := HE12.out
    have eN : ((N : Int) == (N : Int)) = true := by simp
    have eM : ((m : Int) == (m : Int)) = true := by simp
    have iM : 0 < m := by omega
    have iMi : (0 : Int) < (m : Int) := by omega
    have eC := HEq.out
    go_wp2_with fail
    have hA0 : w4.drew.cell? ⟨g, 0, none⟩ = some (.int .i64 (c0 : Int)) := hc
    have HB := Lib.hid HB.out.drew
    have HO := Lib.hid (HO.out.belowAll (Below.refl _ w4).drew)
    have HV := Lib.hid (HV.out.belowAll (Below.refl _ w4).drew)
    have hg4 : g < w4.drew.heap.size := hgl
    refine wp_region_held_drew (S := fun W => W.cell? ⟨g, 0, none⟩ = some (.int .i64 (c0 : Int))) hmx hA0 (fun _ => ?_)
    generalize w4.drew = W4 at *
    clear hc hgl
    refine take1 0 (v := ?_) rfl (by kernel_rfl) (by kernel_rfl) (by kernel_rfl) (fun _ _ _ h => h) (by rfl) ?_ hA0 ?_
    rotate_left
    · intro W9 hA
      have c0 := hA
      clear hA
      go_simp
      try with_reducible rfl
    try simp only [Act.put, List.setIfInBounds_toArray, List.set_cons_zero, List.set_cons_succ]
    refine take1 2 (v := ?_) rfl (by kernel_rfl) (by kernel_rfl) (by kernel_rfl) (fun _ _ _ h => h) (by rfl) ?_ hA0 ?_
    rotate_left
    · intro W9 hA
      have c0 := hA
      clear hA
      go_simp
      try with_reducible rfl
    try simp only [Act.put, List.setIfInBounds_toArray, List.set_cons_zero, List.set_cons_succ]
    refine take1 3 (v := ?_) rfl (by kernel_rfl) (by kernel_rfl) (by kernel_rfl) (fun _ _ _ h => h) (by rfl) ?_ hA0 ?_
    rotate_left
    · intro W9 hA
      have c0 := hA
      clear hA
      go_simp
      try with_reducible rfl
    try simp only [Act.put, List.setIfInBounds_toArray, List.set_cons_zero, List.set_cons_succ]
    refine take1 4 (v := ?_) rfl (by kernel_rfl) (by kernel_rfl) (by kernel_rfl) (fun _ _ _ h => h) (by rfl) ?_ hA0 ?_
    rotate_left
    · intro W9 hA
      have c0 := hA
      clear hA
      go_simp
      try with_reducible rfl
    try simp only [Act.put, List.setIfInBounds_toArray, List.set_cons_zero, List.set_cons_succ]
    refine step1 1 (by kernel_rfl) rfl (fun K hK => ?_)
    go_simp
    refine (HTot.out _ _ _ HO.out).mono ?_
    rintro e Wt ⟨rfl, rfl⟩
    go_wp2_with fail
    refine hK.out _ _ hA0 ?_
    clear hK K
    try simp only [Act.put, List.setIfInBounds_toArray, List.set_cons_zero, List.set_cons_succ]
    refine take1 5 (v := ?_) rfl (by kernel_rfl) (by kernel_rfl) (by kernel_rfl) (fun _ _ _ h => h) (by rfl) ?_ hA0 ?_
    rotate_left
    · intro W9 hA
      have c0 := hA
      clear hA
      go_simp
      try with_reducible rfl
    try simp only [Act.put, List.setIfInBounds_toArray, List.set_cons_zero, List.set_cons_succ]
    refine take1 6 (v := ?_) rfl (by kernel_rfl) (by kernel_rfl) (by kernel_rfl) (fun _ _ _ h => h) (by rfl) ?_ hA0 ?_
    rotate_left
    · intro W9 hA
      have c0 := hA
      clear hA
      go_simp
      try with_reducible rfl
    try simp only [Act.put, List.setIfInBounds_toArray, List.set_cons_zero, List.set_cons_succ]
    refine take1 7 (v := ?_) rfl (by kernel_rfl) (by kernel_rfl) (by kernel_rfl) (fun _ _ _ h => h) (by rfl) ?_ hA0 ?_
    rotate_left
    · intro W9 hA
      have c0 := hA
      clear hA
      go_simp
      try with_reducible rfl
    try simp only [Act.put, List.setIfInBounds_toArray, List.set_cons_zero, List.set_cons_succ]
    refine take1 8 (v := ?_) rfl (by kernel_rfl) (by kernel_rfl) (by kernel_rfl) (fun _ _ _ h => h) (by rfl) ?_ hA0 ?_
    rotate_left
    · intro W9 hA
      have c0 := hA
      clear hA
      go_simp
      try with_reducible rfl
    try simp only [Act.put, List.setIfInBounds_toArray, List.set_cons_zero, List.set_cons_succ]
    refine take1 9 (v := ?_) rfl (by kernel_rfl) (by kernel_rfl) (by kernel_rfl) (fun _ _ _ h => h) (by rfl) ?_ hA0 ?_
    rotate_left
    · intro W9 hA
      have c0 := hA
      clear hA
      go_simp
      try with_reducible rfl
    try simp only [Act.put, List.setIfInBounds_toArray, List.set_cons_zero, List.set_cons_succ]
    refine take1 10 (v := ?_) rfl (by kernel_rfl) (by kernel_rfl) (by kernel_rfl) (fun _ _ _ h => h) (by rfl) ?_ hA0 ?_
    rotate_left
    · intro W9 hA
      have c0 := hA
      clear hA
      go_simp
      try with_reducible rfl
    try simp only [Act.put, List.setIfInBounds_toArray, List.set_cons_zero, List.set_cons_succ]
    refine take1 11 (v := ?_) rfl (by kernel_rfl) (by kernel_rfl) (by kernel_rfl) (fun _ _ _ h => h) (by rfl) ?_ hA0 ?_
    rotate_left
    · intro W9 hA
      have c0 := hA
      clear hA
      go_simp
      try with_reducible rfl
    try simp only [Act.put, List.setIfInBounds_toArray, List.set_cons_zero, List.set_cons_succ]
    refine take1 12 (v := ?_) rfl (by kernel_rfl) (by kernel_rfl) (by kernel_rfl) (fun _ _ _ h => h) (by rfl) ?_ hA0 ?_
    rotate_left
    · intro W9 hA
      have c0 := hA
      clear hA
      go_simp
      try with_reducible rfl
    try simp only [Act.put, List.setIfInBounds_toArray, List.set_cons_zero, List.set_cons_succ]
    refine take1 13 (v := ?_) rfl (by kernel_rfl) (by kernel_rfl) (by kernel_rfl) (fun _ _ _ h => h) (by rfl) ?_ hA0 ?_
    rotate_left
    · intro W9 hA
      have c0 := hA
      clear hA
      go_simp
      try with_reducible rfl
    try simp only [Act.put, List.setIfInBounds_toArray, List.set_cons_zero, List.set_cons_succ]
    refine take1 14 (v := ?_) rfl (by kernel_rfl) (by kernel_rfl) (by kernel_rfl) (fun _ _ _ h => h) (by rfl) ?_ hA0 ?_
    rotate_left
    · intro W9 hA
      have c0 := hA
      clear hA
      go_simp
      try with_reducible rfl
    try simp only [Act.put, List.setIfInBounds_toArray, List.set_cons_zero, List.set_cons_succ]
    refine take1 15 (v := ?_) rfl (by kernel_rfl) (by kernel_rfl) (by kernel_rfl) (fun _ _ _ h => h) (by rfl) ?_ hA0 ?_
    rotate_left
    · intro W9 hA
      have c0 := hA
      clear hA
      go_simp
      try with_reducible rfl
    try simp only [Act.put, List.setIfInBounds_toArray, List.set_cons_zero, List.set_cons_succ]
    refine take1 16 (v := ?_) rfl (by kernel_rfl) (by kernel_rfl) (by kernel_rfl) (fun _ _ _ h => h) (by rfl) ?_ hA0 ?_
    rotate_left
    · intro W9 hA
      have c0 := hA
      clear hA
      go_simp
      try with_reducible rfl
    try simp only [Act.put, List.setIfInBounds_toArray, List.set_cons_zero, List.set_cons_succ]
    refine take1 17 (v := ?_) rfl (by kernel_rfl) (by kernel_rfl) (by kernel_rfl) (fun _ _ _ h => h) (by rfl) ?_ hA0 ?_
    rotate_left
    · intro W9 hA
      have c0 := hA
      clear hA
      go_simp
      try with_reducible rfl
    try simp only [Act.put, List.setIfInBounds_toArray, List.set_cons_zero, List.set_cons_succ]
    refine take1 18 (v := ?_) rfl (by kernel_rfl) (by kernel_rfl) (by kernel_rfl) (fun _ _ _ h => h) (by rfl) ?_ hA0 ?_
    rotate_left
    · intro W9 hA
      have c0 := hA
      clear hA
      go_simp
      try with_reducible rfl
    try simp only [Act.put, List.setIfInBounds_toArray, List.set_cons_zero, List.set_cons_succ]
    refine step1 19 (by kernel_rfl) rfl (fun K hK => ?_)
    go_simp
    refine (HPs.out _ _ HV.out).mono ?_
    rintro e Wu ⟨rfl, hbu⟩
    go_wp2_with fail
    have hA1 : Wu.cell? ⟨g, 0, none⟩ = some (.int .i64 (c0 : Int)) := (hbu.cell (p := ⟨g, 0, none⟩) hg4).trans hA0
    have HB := Lib.hid (HB.out.trans (hbu.mono HB.out.size))
    refine hK.out _ _ hA1 ?_
    clear hK K hbu
    try simp only [Act.put, List.setIfInBounds_toArray, List.set_cons_zero, List.set_cons_succ]
    refine take1 20 (v := ?_) rfl (by kernel_rfl) (by kernel_rfl) (by kernel_rfl) (fun _ _ _ h => h) (by rfl) ?_ hA1 ?_
    rotate_left
    · intro W9 hA
      have c0 := hA
      clear hA
      go_simp
      try with_reducible rfl
    try simp only [Act.put, List.setIfInBounds_toArray, List.set_cons_zero, List.set_cons_succ]
    refine take1 21 (v := ?_) rfl (by kernel_rfl) (by kernel_rfl) (by kernel_rfl) (fun _ _ _ h => h) (by rfl) ?_ hA1 ?_
    rotate_left
    · intro W9 hA
      have c0 := hA
      clear hA
      go_simp
      try with_reducible rfl
    try simp only [Act.put, List.setIfInBounds_toArray, List.set_cons_zero, List.set_cons_succ]
    refine take1 22 (v := ?_) rfl (by kernel_rfl) (by kernel_rfl) (by kernel_rfl) (fun _ _ _ h => h) (by rfl) ?_ hA1 ?_
    rotate_left
    · intro W9 hA
      have c0 := hA
      clear hA
      go_simp
      try with_reducible rfl
    try simp only [Act.put, List.setIfInBounds_toArray, List.set_cons_zero, List.set_cons_succ]
    refine stop1 (by kernel_rfl) ?_
    go_wp2
    go_ret
    exact ⟨rfl, HB.out⟩
end Go.Proofs.Ytkddaecfljiehaa
