/- Promises of chapter 9 over given contracts: least choices, counts of a row with a place more. Written by gen92.py. -/
import Derived.Test.YtkdgbnjpjkhopaaPZerB
namespace Go.Proofs.Ytkdgbnjpjkhopaa
open Go.RowKit Go.Shelf
set_option linter.unusedVariables false
theorem cast_beq1 (a : Nat) : ((a : Int) == 1) = Nat.beq a 1 := by
  by_cases h : a = 1
  · subst h; rfl
  · have e : Nat.beq a 1 = false := by
      cases hc : Nat.beq a 1
      · rfl
      · exact absurd (Nat.eq_of_beq_eq_true hc) h
    rw [e]; simp; omega
theorem ints_take {W : World} {b g n cp : Nat} {xs : List Int} (h : IsInts W b (.slice (some ⟨g, 0, none⟩) n cp) xs) (k : Nat) (hk : k ≤ xs.length) : IsInts W b (.slice (some ⟨g, 0, none⟩) (xs.take k).length cp) (xs.take k) := by
  have hl : (xs.take k).length = k := by rw [List.length_take]; omega
  refine ⟨by simp, ?_⟩
  rcases h.2 with ⟨e, _⟩ | ⟨g', cap, cur, e, q1, q2, q3, q4, q5, q6⟩
  · cases e
  · injection e with e1 e2 e3
    subst e3
    injection e1 with e4
    injection e4 with e5
    subst e5
    refine .inr ⟨g, cp, cur, rfl, q1, q2, by omega, q4, q5, ?_⟩
    rw [hl, Nat.mul_one, List.map_take, ← q6, List.take_take, Nat.mul_one, Nat.min_eq_left hk]
set_option maxHeartbeats 2000000 in
set_option maxRecDepth 4000 in
theorem lawP_FnZeroLeast (W : World) (B len cap : Nat) (A : Option Addr) (f : Nat → Nat) (hC : Code W B A len f) (hB : B ≤ W.heap.size) (hlc : len ≤ cap) (hcap : cap ≤ 9223372036854775807)
    (hN : NoZeroLeast) (hY : YesZeroLeast) (hP : YesZeroPlain) :
    Calls Try.prog 3 #[.slice A len cap] W fun e w' => e = .returned (.bool true) ∧ Below W.heap.size W w' := by
  have HC := Lib.hid (drawZeroLeast_any W B len cap A f hC hB hlc hcap)
  clear hC
  by_cases hlen : (1048576 : Int) < (len : Int)
  · go_enter Try.func3, Try.ntmps3
    go_wp2
    go_ret
    exact ⟨rfl, Below.refl _ _⟩
  go_enter Try.func3, Try.ntmps3
  go_wp2_with fail
  refine HC.out.mono ?_
  rintro e w1 ⟨n, sv, xs, rfl, hx, hbl, hI0⟩
  have HB := Lib.hid hbl
  have HV := Lib.hid hI0
  have hx2 : xs.length ≤ 2000000 := Nat.le_trans hx (by decide)
  clear hbl hI0 hB hlc hcap HC
  by_cases hno : ¬ (RowIn n xs ∧ xs.length ≤ 8)
  · skip
    go_wp2_with fail
    refine (hN n sv xs _ _ hno hx2 HV.out).mono ?_
    rintro e w2 ⟨sa, rfl, hb2, hI2⟩
    have HV := Lib.hid (HV.out.belowAll hb2)
    have HO := Lib.hid hI2
    clear hI2
    have HB := Lib.hid (HB.out.trans (hb2.mono HB.out.size))
    clear hb2
    go_wp2_with fail
    refine (specZeroLeast_no n sv xs _ _ hno hx2 HV.out).mono ?_
    rintro e w3 ⟨sb, rfl, hb3, hI3⟩
    have HV := Lib.hid (HV.out.belowAll hb3)
    have HO := Lib.hid (HO.out.belowAll hb3)
    have HP := Lib.hid hI3
    clear hI3
    have HB := Lib.hid (HB.out.trans (hb3.mono HB.out.size))
    clear hb3
    go_wp2_with fail
    refine (sameInts_any _ _ [] _ _ _ HO.out HP.out).mono ?_
    rintro e w4 ⟨rfl, hb4⟩
    have HO := Lib.hid (HO.out.belowAll hb4)
    have HP := Lib.hid (HP.out.belowAll hb4)
    have HB := Lib.hid (HB.out.trans (hb4.mono HB.out.size))
    clear hb4
    go_wp2_with fail
    refine (sameInts_any _ _ [] _ _ _ HO.out HP.out).mono ?_
    rintro e w5 ⟨rfl, hb5⟩
    have HB := Lib.hid (HB.out.trans (hb5.mono HB.out.size))
    clear hb5
    go_wp2
    go_ret
    exact ⟨rfl, HB.out⟩
  have hrow0 : RowIn n xs ∧ xs.length ≤ 8 := Classical.byContradiction hno
  clear hno
  obtain ⟨hrow, h8⟩ := hrow0
  obtain ⟨m, rfl, h1, h2⟩ := row_nat hrow
  have h12 := hrow.2.1
  have hr := row_lt hrow
  have HYs := Lib.hid (fun W1 b h => hY m sv xs b W1 hrow h8 h)
  have HSs := Lib.hid (fun W1 b h => specZeroLeast_yes m sv xs b W1 hrow h8 h)
  have HPs := Lib.hid (fun W1 b h => hP m sv xs b W1 hrow h)
  have hnone := leastL_none m (rowZ xs) xs.length
  have hat := fun i hi => pick_at (leastC m (rowZ xs) xs.length) (2 ^ xs.length) i hi
  have hup := fun i j hij hj => pick_up (leastC m (rowZ xs) xs.length) (2 ^ xs.length) i j hij hj
  have hsm := fun c hc h => least_small m (rowZ xs) xs.length c h1 h2 hr hc h
  have hap := fun c d hc hd hs => least_apart m (rowZ xs) xs.length c d hc hd hs
  have hpw : 2 ^ xs.length ≤ 256 := Nat.le_trans (Nat.pow_le_pow_right (by omega) h8) (by decide)
  have hat : ∀ i, i < (leastL m (rowZ xs) xs.length).length → ∃ x : Nat, (leastL m (rowZ xs) xs.length).getD i 0 = (x : Int) ∧ x < 2 ^ xs.length ∧ leastC m (rowZ xs) xs.length x = true := hat
  have hup : ∀ i j, i < j → j < (leastL m (rowZ xs) xs.length).length → (leastL m (rowZ xs) xs.length).getD i 0 < (leastL m (rowZ xs) xs.length).getD j 0 := hup
  obtain ⟨ls, hls⟩ : ∃ ls, leastL m (rowZ xs) xs.length = ls := ⟨_, rfl⟩
  rw [hls] at HYs HSs hnone hat hup
  have HAt : Hid (∀ i, i < ls.length → ∃ x : Nat, ls.getD i 0 = (x : Int) ∧ x < 2 ^ 40 ∧ sizeN x ≤ m) := Lib.hid (fun i hi => by
    obtain ⟨x, e1, e2, e3⟩ := hat i hi
    exact ⟨x, e1, by omega, by rw [size_cnt x xs.length e2 (by omega)]; exact hsm x e2 e3⟩)
  have HApart : Hid (∀ i k, i < ls.length → k < ls.length → i ≠ k → ∀ x y : Nat, ls.getD i 0 = (x : Int) → ls.getD k 0 = (y : Int) → lessN x y ≠ 0) := Lib.hid (fun i k hi hk hne x y ex ey e0 => by
    obtain ⟨x', e1, _, e3⟩ := hat i hi
    obtain ⟨y', f1, _, f3⟩ := hat k hk
    obtain rfl : x = x' := by rw [ex] at e1; omega
    obtain rfl : y = y' := by rw [ey] at f1; omega
    have hs : SubM x y := fun b hb => by
      have := lessN_bit x y b
      rw [e0, Nat.zero_testBit, hb, Bool.true_and] at this
      simpa using this.symm
    have exy := hap y x f3 e3 hs
    rcases Nat.lt_or_gt_of_ne hne with h | h
    · have := hup i k h hk
      rw [ex, ey] at this
      omega
    · have := hup k i h hi
      rw [ex, ey] at this
      omega)
  have HPl : Hid (plainB m (rowZ xs) xs.length = Nat.beq ls.length 0) := Lib.hid (by
    unfold plainB
    exact bool_iff ⟨fun h => by rw [hnone.2 (Nat.eq_of_beq_eq_true h)]; rfl, fun h => by rw [hnone.1 (List.eq_nil_of_length_eq_zero (Nat.eq_of_beq_eq_true h))]; rfl⟩)
  rw [HPl.out] at HPs
  have HMl : Hid (ls.length ≤ 256) := Lib.hid (by rw [← hls]; exact Nat.le_trans (pick_len _ _) hpw)
  obtain ⟨A, cp, hsv⟩ := HV.out.slice
  clear hN hY hP HPl hrow hr hnone hat hup hsm hap hpw hls
  generalize xs.length = L at *
  subst hsv
  go_wp2_with fail
  refine (HYs.out _ _ HV.out).mono ?_
  rintro e w2 ⟨sa, rfl, hb2, hI2⟩
  have HV := Lib.hid (HV.out.belowAll hb2)
  have HO := Lib.hid hI2
  clear hI2
  have HB := Lib.hid (HB.out.trans (hb2.mono HB.out.size))
  clear hb2
  go_wp2_with fail
  refine (HSs.out _ _ HV.out).mono ?_
  rintro e w3 ⟨sb, rfl, hb3, hI3⟩
  have HV := Lib.hid (HV.out.belowAll hb3)
  have HO := Lib.hid (HO.out.belowAll hb3)
  have HP := Lib.hid hI3
  clear hI3
  have HB := Lib.hid (HB.out.trans (hb3.mono HB.out.size))
  clear hb3
  go_wp2_with fail
  refine (sameInts_any _ _ ls _ _ _ HO.out HP.out).mono ?_
  rintro e w4 ⟨rfl, hb4⟩
  have HV := Lib.hid (HV.out.belowAll hb4)
  have HO := Lib.hid (HO.out.belowAll hb4)
  have HB := Lib.hid (HB.out.trans (hb4.mono HB.out.size))
  clear hb4
  clear HP HYs HSs
  obtain ⟨A9, c9, hsa⟩ := HO.out.slice
  obtain ⟨M, hM⟩ : ∃ M, ls.length = M := ⟨_, rfl⟩
  have HM := Lib.hid hM
  rw [hM] at hsa HAt HApart HPs HMl
  subst hsa
  have hM256 := HMl.out
  clear hM
  obtain ⟨bO, HO⟩ : ∃ bO, Hid (IsInts w4 bO (.slice A9 M c9) ls) := ⟨_, HO⟩
  go_wp2
  go_loopw [9] (fun u wr => ∃ i : Nat, i ≤ M ∧ u = .int .i64 (i : Int) ∧ Hid (IsInts wr bO (.slice A9 M c9) ls) ∧ Hid (IsInts wr W.heap.size (.slice A L cp) xs) ∧ Hid (Below W.heap.size W wr)) (fun u _ => M - (intOf u).toNat)
  case atStart => exact ⟨0, Nat.zero_le _, rfl, HO, HV, HB⟩
  case round =>
    obtain ⟨i, hi, rfl, HO, HV, HB⟩ := hrel
    by_cases hlt : i < M
    · obtain ⟨g, hg⟩ : ∃ g, A9 = some ⟨g, 0, none⟩ := by
        rcases HO.out.shape with ⟨_, e2⟩ | ⟨g, c, e1, _⟩
        · have := HM.out
          rw [e2] at this
          simp at this; omega
        · exact ⟨g, by cases e1; rfl⟩
      subst hg
      have ci := HO.out.cell (i := i) (by rw [HM.out]; exact hlt)
      obtain ⟨x, hx1, hx2', hx3⟩ := HAt.out i hlt
      have HXi := Lib.hid hx1
      rw [hx1] at ci
      have HSz := Lib.hid (fun W => size_any x W hx2')
      have hx62 : x < 2 ^ 62 := by omega
      generalize hsx : sizeN x = sx at *
      have k1 : ¬ (sx : Int) > (m : Int) := by omega
      have k2 : ¬ (m : Int) < (sx : Int) := k1
      have i1 : (0 : Int) ≤ (i : Int) := Int.natCast_nonneg i
      have i2 : (i : Int) < (M : Int) := Int.ofNat_lt.2 hlt
      clear hx1 hsx hx3 hx2'
      go_wp2_with (go_at_call 11; refine (HSz.out _).mono ?_; rintro e w8 ⟨rfl, rfl⟩)
      clear ci k1 k2
      go_loopw [10] (fun u wi => ∃ k : Nat, k ≤ M ∧ u = .int .i64 (k : Int) ∧ Hid (IsInts wi bO (.slice (some ⟨g, 0, none⟩) M c9) ls) ∧ Hid (IsInts wi W.heap.size (.slice A L cp) xs) ∧ Hid (Below W.heap.size W wi)) (fun u _ => M - (intOf u).toNat)
      case atStart => exact ⟨0, Nat.zero_le _, rfl, HO, HV, HB⟩
      case round =>
        obtain ⟨k, hk, rfl, HO, HV, HB⟩ := hrel
        by_cases hlk : k < M
        · have ci := HO.out.cell (i := i) (by rw [HM.out]; exact hlt)
          have ck := HO.out.cell (i := k) (by rw [HM.out]; exact hlk)
          obtain ⟨y, hy1, hy2, _⟩ := HAt.out k hlk
          have HLs := Lib.hid (less_nat x y hx62 (by omega))
          have HNe := Lib.hid (fun hne => HApart.out i k hlt hlk hne x y HXi.out hy1)
          rw [HXi.out] at ci
          rw [hy1] at ck
          clear hy1 hy2
          generalize lessN x y = a at *
          have i3 : (0 : Int) ≤ (k : Int) := Int.natCast_nonneg k
          have i4 : (k : Int) < (M : Int) := Int.ofNat_lt.2 hlk
          by_cases hik : i = k
          · have e1 : ((i : Int) == (k : Int)) = true := by rw [hik]; simp
            have e2 : ((i : Int) != (k : Int)) = false := by unfold bne; rw [e1]; rfl
            clear hik HNe HLs
            go_wp2
            go_region
            go_wp2
            go_roundw
            case rel => exact ⟨k + 1, hlk, by go_num, Lib.hid (HO.out.belowAll (Below.refl _ _).drew), Lib.hid (HV.out.belowAll (Below.refl _ _).drew), Lib.hid HB.out.drew⟩
            case measure => simp [intOf]; omega
          · have e1 : ((i : Int) == (k : Int)) = false := by simp; omega
            have e2 : ((i : Int) != (k : Int)) = true := by unfold bne; rw [e1]; rfl
            have ha := HNe.out hik
            have e3 : ((a : Int) == 0) = false := by simp; omega
            have e4 := HLs.out
            clear hik HNe HLs ha
            go_wp2
            go_region
            go_wp2
            go_roundw
            case rel => exact ⟨k + 1, hlk, by go_num, Lib.hid (HO.out.belowAll (Below.refl _ _).drew), Lib.hid (HV.out.belowAll (Below.refl _ _).drew), Lib.hid HB.out.drew⟩
            case measure => simp [intOf]; omega
        · obtain rfl : k = M := by omega
          go_wp2
          go_roundw
          case rel => exact ⟨i + 1, hlt, by go_num, HO, HV, HB⟩
          case measure => simp [intOf]; omega
    · obtain rfl : i = M := by omega
      have HEq := Lib.hid (cast_beq0n i)
      generalize Nat.beq i 0 = q at *
      have e1 := HEq.out
      cases q
      all_goals
        go_wp2_with fail
        refine (HPs.out _ _ HV.out).mono ?_
        rintro e w9 ⟨rfl, hb9⟩
        have HB := Lib.hid (HB.out.trans (hb9.mono HB.out.size))
        go_wp2
        go_ret
        exact ⟨rfl, HB.out⟩
end Go.Proofs.Ytkdgbnjpjkhopaa
