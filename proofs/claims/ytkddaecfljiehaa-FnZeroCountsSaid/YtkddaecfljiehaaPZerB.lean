/- Promises of chapter 9 over given contracts: plain rows, Davenport, sums. Written by gen91.py. -/
import Derived.Test.YtkddaecfljiehaaPZerA
import Derived.Test.YtkddaecfljiehaaSame
namespace Go.Proofs.Ytkddaecfljiehaa
open Go.RowKit Go.Shelf
set_option linter.unusedVariables false
theorem less_fit (v : Nat) (h : v ≤ 100000) : IntKind.i64.wrap ((v : Int) - 1) = (v : Int) - 1 ∧ wrap64 ((v : Int) - 1) = (v : Int) - 1 := ⟨IntWalk.i64_in _ (by omega), IntWalk.wrap64_in _ (by omega)⟩
set_option maxHeartbeats 2000000 in
set_option maxRecDepth 4000 in
theorem lawP_FnDavenport (W : World) (B len cap : Nat) (A : Option Addr) (f : Nat → Nat) (hC : Code W B A len f) (hB : B ≤ W.heap.size) (hlc : len ≤ cap) (hcap : cap ≤ 9223372036854775807)
    (hN : NoZeroCounts) (hY : YesZeroCounts) (hF : YesZeroFirst) :
    Calls Try.prog 3 #[.slice A len cap] W fun e w' => e = .returned (.bool true) ∧ Below W.heap.size W w' := by
  have HC := Lib.hid (drawZeroCounts_any W B len cap A f hC hB hlc hcap)
  clear hC
  by_cases hlen : (1048576 : Int) < (len : Int)
  · go_enter Try.func3, Try.ntmps3
    go_wp2
    go_ret
    exact ⟨rfl, Below.refl _ _⟩
  go_enter Try.func3, Try.ntmps3
  go_wp2_with fail
  refine HC.out.mono ?_
  rintro e w1 ⟨n, sv, xs, rfl, hx, hbl, hI0⟩
  have HB := Lib.hid hbl
  have HV := Lib.hid hI0
  have hx2 : xs.length ≤ 2000000 := Nat.le_trans hx (by decide)
  clear hbl hI0 hB hlc hcap HC
  by_cases hno : ¬ (RowIn n xs)
  · skip
    go_wp2_with fail
    refine (hN n sv xs _ _ hno hx2 HV.out).mono ?_
    rintro e w2 ⟨sa, rfl, hb2, hI2⟩
    have HV := Lib.hid (HV.out.belowAll hb2)
    have HO := Lib.hid hI2
    clear hI2
    have HB := Lib.hid (HB.out.trans (hb2.mono HB.out.size))
    clear hb2
    go_wp2_with fail
    refine (specZeroCounts_no n sv xs _ _ hno hx2 HV.out).mono ?_
    rintro e w3 ⟨sb, rfl, hb3, hI3⟩
    have HV := Lib.hid (HV.out.belowAll hb3)
    have HO := Lib.hid (HO.out.belowAll hb3)
    have HP := Lib.hid hI3
    clear hI3
    have HB := Lib.hid (HB.out.trans (hb3.mono HB.out.size))
    clear hb3
    go_wp2_with fail
    refine (sameInts_any _ _ [] _ _ _ HO.out HP.out).mono ?_
    rintro e w4 ⟨rfl, hb4⟩
    have HO := Lib.hid (HO.out.belowAll hb4)
    have HP := Lib.hid (HP.out.belowAll hb4)
    have HB := Lib.hid (HB.out.trans (hb4.mono HB.out.size))
    clear hb4
    go_wp2_with fail
    refine (sameInts_any _ _ [] _ _ _ HO.out HP.out).mono ?_
    rintro e w5 ⟨rfl, hb5⟩
    have HB := Lib.hid (HB.out.trans (hb5.mono HB.out.size))
    clear hb5
    go_wp2
    go_ret
    exact ⟨rfl, HB.out⟩
  have hrow0 : RowIn n xs := Classical.byContradiction hno
  clear hno
  have hrow := hrow0
  obtain ⟨m, rfl, h1, h2⟩ := row_nat hrow
  have h12 := hrow.2.1
  have hr := row_lt hrow
  have HYs := Lib.hid (fun W1 b h => hY m sv xs b W1 hrow h)
  have HSs := Lib.hid (fun W1 b h => specZeroCounts_yes m sv xs b W1 hrow h)
  have HFs := Lib.hid (fun W1 b h => hF m sv xs b W1 hrow h)
  have HD := Lib.hid (fun hk => p_davenport m (rowZ xs) xs.length h1 h2 hr hk)
  generalize cntL m (rowZ xs) xs.length = ls at *
  generalize zfirst m (rowZ xs) xs.length = F at *
  obtain ⟨A, cp, hsv⟩ := HV.out.slice
  obtain ⟨N, hN2, _, _, e1, e2, _, _⟩ := pow12L h2
  have HN := Lib.hid hN2
  clear hN hY hF hrow hrow0 hr hN2
  generalize xs.length = L at *
  subst hsv
  go_wp2_with fail
  refine (HYs.out _ _ HV.out).mono ?_
  rintro e w2 ⟨sa, rfl, hb2, hI2⟩
  have HV := Lib.hid (HV.out.belowAll hb2)
  have HO := Lib.hid hI2
  clear hI2
  have HB := Lib.hid (HB.out.trans (hb2.mono HB.out.size))
  clear hb2
  go_wp2_with fail
  refine (HSs.out _ _ HV.out).mono ?_
  rintro e w3 ⟨sb, rfl, hb3, hI3⟩
  have HV := Lib.hid (HV.out.belowAll hb3)
  have HO := Lib.hid (HO.out.belowAll hb3)
  have HP := Lib.hid hI3
  clear hI3
  have HB := Lib.hid (HB.out.trans (hb3.mono HB.out.size))
  clear hb3
  go_wp2_with fail
  refine (sameInts_any _ _ ls _ _ _ HO.out HP.out).mono ?_
  rintro e w4 ⟨rfl, hb4⟩
  have HV := Lib.hid (HV.out.belowAll hb4)
  have HB := Lib.hid (HB.out.trans (hb4.mono HB.out.size))
  clear hb4
  by_cases hk : m ≤ L
  · obtain ⟨q1, q2⟩ := HD.out hk
    rw [decide_eq_true q1] at HFs
    rw [HN.out] at q2
    have k1 : ¬ (L : Int) < (m : Int) := by omega
    have k2 : (F : Int) < (N : Int) := by omega
    have k3 : decide ((F : Int) < (N : Int)) = true := decide_eq_true k2
    clear q1 q2 hk HD
    go_wp2_with fail
    refine (HFs.out _ _ HV.out).mono ?_
    rintro e w5 ⟨rfl, hb5⟩
    have HB := Lib.hid (HB.out.trans (hb5.mono HB.out.size))
    clear hb5
    go_wp2
    go_ret
    exact ⟨rfl, HB.out⟩
  · have k1 : (L : Int) < (m : Int) := by omega
    clear hk HD
    go_wp2
    go_ret
    exact ⟨rfl, HB.out⟩
set_option maxHeartbeats 2000000 in
set_option maxRecDepth 4000 in
theorem lawP_FnZeroSum (W : World) (B len cap : Nat) (A : Option Addr) (f : Nat → Nat) (hC : Code W B A len f) (hB : B ≤ W.heap.size) (hlc : len ≤ cap) (hcap : cap ≤ 9223372036854775807)
    (hN : NoZeroSum) (hY : YesZeroSum) :
    Calls Try.prog 4 #[.slice A len cap] W fun e w' => e = .returned (.bool true) ∧ Below W.heap.size W w' := by
  have HC := Lib.hid (drawZeroSum_any W B len cap A f hC hB hlc hcap)
  clear hC
  by_cases hlen : (1048576 : Int) < (len : Int)
  · go_enter Try.func4, Try.ntmps4
    go_wp2
    go_ret
    exact ⟨rfl, Below.refl _ _⟩
  go_enter Try.func4, Try.ntmps4
  go_wp2_with fail
  refine HC.out.mono ?_
  rintro e w1 ⟨n, sv, xs, rfl, hx, hbl, hI0⟩
  have HB := Lib.hid hbl
  have HV := Lib.hid hI0
  have hx2 : xs.length ≤ 2000000 := Nat.le_trans hx (by decide)
  clear hbl hI0 hB hlc hcap HC
  by_cases hno : ¬ (RowIn n xs)
  · skip
    go_wp2_with fail
    refine (hN n sv xs _ _ hno hx2 HV.out).mono ?_
    rintro e w2 ⟨rfl, hb2⟩
    have HV := Lib.hid (HV.out.belowAll hb2)
    have HB := Lib.hid (HB.out.trans (hb2.mono HB.out.size))
    clear hb2
    go_wp2_with fail
    refine (specZeroSum_no n sv xs _ _ hno hx2 HV.out).mono ?_
    rintro e w3 ⟨rfl, rfl⟩
    go_wp2
    go_ret
    exact ⟨rfl, HB.out⟩
  have hrow0 : RowIn n xs := Classical.byContradiction hno
  clear hno
  have hrow := hrow0
  obtain ⟨m, rfl, h1, h2⟩ := row_nat hrow
  have h12 := hrow.2.1
  have hr := row_lt hrow
  have HYs := Lib.hid (fun W1 b h => hY m sv xs b W1 hrow h)
  have HSs := Lib.hid (fun W1 b h => specZeroSum_yes m sv xs b W1 hrow h)
  have HE : Hid (zsum m (rowZ xs) xs.length (2 ^ xs.length - 1) = sumTo (rowZ xs) xs.length % m) := Lib.hid (by unfold zsum; rw [sumC_all])
  have hrb : RowIn (m : Int) xs.reverse := ⟨hrow.1, by rw [List.length_reverse]; exact h12, fun i hi => by
      rw [List.length_reverse] at hi
      rw [List.getD_eq_getElem?_getD, List.getElem?_reverse hi, ← List.getD_eq_getElem?_getD]
      exact hrow.2.2 _ (by omega)⟩
  have HBk : Hid (∀ sv W1 b, IsInts W1 b sv xs.reverse → Calls Try.prog 14 #[.int .i64 (m:Int), sv] W1 fun e w' => e = .returned (.tuple #[.int .i64 ((zsum m (rowZ xs) xs.length (2 ^ xs.length - 1) : Nat) : Int), .bool true]) ∧ Below W1.heap.size W1 w') := Lib.hid (fun sv W1 b h => by
      have a := hY m sv xs.reverse b W1 hrb h
      have e : zsum m (rowZ xs.reverse) xs.reverse.length (2 ^ xs.reverse.length - 1) = zsum m (rowZ xs) xs.length (2 ^ xs.length - 1) := by
        rw [HE.out]
        unfold zsum
        rw [sumC_all, List.length_reverse, row_back]
      rw [e] at a
      exact a)
  have hv := row_val hrow
  have HTot : Hid (∀ W1 b, IsInts W1 b sv xs → Calls Try.prog 16 #[sv] W1 fun e w' => e = .returned (.int .i64 ((sumTo (rowZ xs) xs.length : Nat) : Int)) ∧ W1 = w') := Lib.hid (fun W1 b h => totalL_any sv xs W1 b h (by omega) (fun i hi => by
      rw [hv i hi]
      have := hr i
      omega))
  have HRev : Hid (∀ j, j < xs.length → xs.reverse.take (j + 1) = xs.reverse.take j ++ [xs.getD (xs.length - 1 - j) 0]) := Lib.hid (fun j hj => by
      rw [List.take_add_one]
      congr 1
      rw [List.getElem?_reverse hj, List.getD_eq_getElem?_getD, List.getElem?_eq_getElem (by omega)]
      rfl)
  have HAll : Hid (xs.reverse.take xs.length = xs.reverse) := Lib.hid (List.take_of_length_le (by rw [List.length_reverse]; exact Nat.le_refl _))
  have HT := Lib.hid (tmod_nat (sumTo (rowZ xs) xs.length) m)
  rw [← HE.out] at HT
  generalize sumTo (rowZ xs) xs.length = T at *
  clear HE hv hrb
  generalize zsum m (rowZ xs) xs.length (2 ^ xs.length - 1) = V at *
  obtain ⟨A, cp, hsv⟩ := HV.out.slice
  obtain ⟨L, hL⟩ : ∃ L, xs.length = L := ⟨_, rfl⟩
  have HL := Lib.hid hL
  rw [hL] at hsv HRev HAll h12
  clear hN hY hrow hrow0 hr hL
  subst hsv
  go_wp2_with fail
  refine (HYs.out _ _ HV.out).mono ?_
  rintro e w2 ⟨rfl, hb2⟩
  have HV := Lib.hid (HV.out.belowAll hb2)
  have HB := Lib.hid (HB.out.trans (hb2.mono HB.out.size))
  clear hb2
  go_wp2_with fail
  refine (HSs.out _ _ HV.out).mono ?_
  rintro e w3 ⟨rfl, hb3⟩
  have HV := Lib.hid (HV.out.belowAll hb3)
  have HB := Lib.hid (HB.out.trans (hb3.mono HB.out.size))
  clear hb3
  have i5 : ((m : Int) = 0) = False := by simp; omega
  have i6 : ((m : Int) == 0) = false := by simp; omega
  have i7 : (m = 0) = False := by simp; omega
  have HLw := Lib.hid (less_fit L (by omega))
  obtain ⟨q1, q2⟩ := HLw.out
  have HBa := Lib.hid (HB.out.alloc HB.out.size (.cells #[] 3))
  have HVa := Lib.hid (show IsInts (w3.alloc (.cells #[] 3)) W.heap.size (.slice A L cp) xs from World.ownsRow.alloc HV.out _)
  have HOa := Lib.hid (nil_made w3 w3.heap.size (Nat.le_refl _))
  have hWh := HB.out.size
  go_wp2
  clear q1 q2
  have hh1 : w3.heap.size ≤ (w3.alloc (.cells #[] 3)).heap.size := by simp
  have hbl : ∀ k, (Value.slice A L cp).ownBlock = some k → k < w3.heap.size := fun k hk => (World.ownsRow.lt HV.out k hk).2
  have HBl := Lib.hid hbl
  obtain ⟨h, hh⟩ : ∃ h, w3.heap.size = h := ⟨_, rfl⟩
  obtain ⟨w9, hw9⟩ : ∃ w9, w3.alloc (.cells #[] 3) = w9 := ⟨_, rfl⟩
  rw [hw9] at HBa HVa HOa hh1 ⊢
  rw [hh] at HOa HBl hh1 hWh ⊢
  clear hw9 hh hbl HB HV
  go_loopw [9, 10] (fun a u wr => ∃ (a' : Value) (j : Nat), a' = a ∧ j ≤ L ∧ u = .int .i64 ((L : Int) - 1 - (j : Int)) ∧ Hid (IsInts wr h a' (xs.reverse.take j)) ∧ Hid (IsInts wr W.heap.size (.slice A L cp) xs) ∧ Hid (Below W.heap.size W wr) ∧ h ≤ wr.heap.size) (fun _ u _ => (intOf u + 1).toNat)
  case atStart => exact ⟨_, 0, rfl, Nat.zero_le _, by simp, by rw [List.take_zero]; exact HOa, HVa, HBa, hh1⟩
  case round =>
    obtain ⟨a', j, rfl, hj, rfl, HO, HV, HB, hz⟩ := hrel
    by_cases hlt : j < L
    · obtain ⟨g, hg⟩ : ∃ g, A = some ⟨g, 0, none⟩ := by
        rcases HV.out.shape with ⟨_, e2⟩ | ⟨g, c, e1, _⟩
        · have := HL.out
          rw [e2] at this
          simp at this; omega
        · exact ⟨g, by cases e1; rfl⟩
      subst hg
      have ci := HV.out.cell (i := L - 1 - j) (by rw [HL.out]; omega)
      have HR := Lib.hid (HRev.out j hlt)
      obtain ⟨p, hp⟩ : ∃ p, L - 1 - j = p := ⟨_, rfl⟩
      have hpi : (L : Int) - 1 - (j : Int) = (p : Int) := by omega
      have hpL : p < L := by omega
      have HNx : Hid ((L : Int) - 1 - ((j + 1 : Nat) : Int) = (p : Int) - 1) := Lib.hid (by omega)
      rw [hp] at ci HR
      rw [hpi]
      have HPf := Lib.hid (less_fit p (by omega))
      have hlen : (xs.reverse.take j).length ≤ 100000 := by rw [List.length_take]; omega
      have HLn := Lib.hid hlen
      generalize xs.getD p 0 = z at *
      have i1 : (0 : Int) ≤ (p : Int) := Int.natCast_nonneg p
      have i2 : (p : Int) < (L : Int) := Int.ofNat_lt.2 hpL
      have i1b : (p : Int) ≥ 0 := i1
      obtain ⟨q1, q2⟩ := HPf.out
      clear hp hpi hlen
      go_wp2_with (at_builtin; refine wpList_append_ints rfl _ _ rfl a' (xs.reverse.take j) z wr h rfl rfl HO.out HLn.out hz (fun v' w10 hO10 hkeep hbelow => ?_); have HO10 := Lib.hid hO10; have HB10 := Lib.hid (hbelow _ _ hWh HB.out); have HV10 := Lib.hid (HV.out.below (N := h) HBl.out (hbelow h wr (Nat.le_refl h) (Below.refl h wr))); have hz10 := (hbelow h wr (Nat.le_refl h) (Below.refl h wr)).size; clear hO10 hkeep hbelow)
      go_roundw
      case rel => exact ⟨_, j + 1, rfl, hlt, by rw [HNx.out], Lib.hid (by rw [HR.out]; exact HO10.out), HV10, HB10, Nat.le_trans hz hz10⟩
      case measure => first | (simp [intOf]; done) | (simp [intOf]; omega)
    · have hneg : (L : Int) - 1 - (j : Int) = -1 := by omega
      rw [hneg]
      obtain rfl : j = L := by omega
      have HOf : Hid (IsInts wr h a' xs.reverse) := Lib.hid (by rw [← HAll.out]; exact HO.out)
      have t1 := HT.out
      clear HO hneg
      go_wp2_with fail
      refine (HBk.out _ _ _ HOf.out).mono ?_
      rintro e w11 ⟨rfl, hb11⟩
      have HV := Lib.hid (HV.out.belowAll hb11)
      have HB := Lib.hid (HB.out.trans (hb11.mono HB.out.size))
      clear hb11
      go_wp2_with (go_at_call 16; refine (HTot.out _ _ HV.out).mono ?_; rintro e w12 ⟨rfl, rfl⟩)
      go_ret
      exact ⟨rfl, HB.out⟩
end Go.Proofs.Ytkddaecfljiehaa
