/- Promises of chapter 9 over given contracts: rows that have what is asked. Written by gen90.py. -/
import Derived.Test.YtaopejgmnbmngaaZerX
import Derived.Test.YtaopejgmnbmngaaDrawN
import Derived.Test.YtaopejgmnbmngaaGM
namespace Go.Proofs.Ytaopejgmnbmngaa
open Go.RowKit Go.Shelf
set_option linter.unusedVariables false
theorem two_fit (n : Nat) (h1 : 1 ≤ n) (h : n ≤ 12) : ∃ y m : Nat, m = 2 * n - 1 ∧ IntKind.i64.wrap (2 * (n : Int)) = (y : Int) ∧ wrap64 (2 * (n : Int)) = (y : Int) ∧ IntKind.i64.wrap ((y : Int) - 1) = (m : Int) ∧ wrap64 ((y : Int) - 1) = (m : Int) := by
  refine ⟨2 * n, 2 * n - 1, rfl, ?_, ?_, ?_, ?_⟩
  · rw [IntWalk.i64_in _ (by omega)]; omega
  · rw [IntWalk.wrap64_in _ (by omega)]; omega
  · rw [IntWalk.i64_in _ (by omega)]; omega
  · rw [IntWalk.wrap64_in _ (by omega)]; omega
theorem part_fit (n P : Nat) (h : n ≤ 12) (h1 : 1 ≤ n) (hP : P ≤ 256) : ∃ y z t : Nat, t = n * P + (n - 1) ∧ Hid (IntKind.i64.wrap ((n : Int) * (P : Int)) = (y : Int) ∧ wrap64 ((n : Int) * (P : Int)) = (y : Int) ∧ IntKind.i64.wrap ((y : Int) + (n : Int)) = (z : Int) ∧ wrap64 ((y : Int) + (n : Int)) = (z : Int) ∧ IntKind.i64.wrap ((z : Int) - 1) = (t : Int) ∧ wrap64 ((z : Int) - 1) = (t : Int)) := by
  have hq : n * P ≤ 12 * 256 := Nat.mul_le_mul h hP
  have e : (n : Int) * (P : Int) = ((n * P : Nat) : Int) := (Int.natCast_mul n P).symm
  obtain ⟨y, hy⟩ : ∃ y, n * P = y := ⟨_, rfl⟩
  rw [e, hy]
  rw [hy] at hq
  refine ⟨y, y + n, y + (n - 1), rfl, IntWalk.i64_in _ (by omega), IntWalk.wrap64_in _ (by omega), ?_, ?_, ?_, ?_⟩
  · rw [IntWalk.i64_in _ (by omega)]; rfl
  · rw [IntWalk.wrap64_in _ (by omega)]; rfl
  · rw [IntWalk.i64_in _ (by omega)]; omega
  · rw [IntWalk.wrap64_in _ (by omega)]; omega
theorem cast_beq0n (a : Nat) : ((a : Int) == 0) = Nat.beq a 0 := by
  cases a with
  | zero => rfl
  | succ k => show ((((k + 1 : Nat) : Int)) == 0) = false; simp; omega
set_option maxHeartbeats 2000000 in
set_option maxRecDepth 4000 in
theorem lawP_FnTwiceLessOne (W : World) (B len cap : Nat) (A : Option Addr) (f : Nat → Nat) (hC : Code W B A len f) (hB : B ≤ W.heap.size) (hlc : len ≤ cap) (hcap : cap ≤ 9223372036854775807)
    (hN : NoZeroSum) (hY : YesZeroSum) (hO : YesZeroOf) :
    Calls Try.prog 5 #[.slice A len cap] W fun e w' => e = .returned (.bool true) ∧ Below W.heap.size W w' := by
  have HC := Lib.hid (drawZeroOf_any W B len cap A f hC hB hlc hcap)
  clear hC
  by_cases hlen : (1048576 : Int) < (len : Int)
  · go_enter Try.func5, Try.ntmps5
    go_wp2
    go_ret
    exact ⟨rfl, Below.refl _ _⟩
  go_enter Try.func5, Try.ntmps5
  go_wp2_with fail
  refine HC.out.mono ?_
  rintro e w1 ⟨n, sv, xs, rfl, hx, hbl, hI0⟩
  have HB := Lib.hid hbl
  have HV := Lib.hid hI0
  have hx2 : xs.length ≤ 2000000 := Nat.le_trans hx (by decide)
  clear hbl hI0 hB hlc hcap HC
  by_cases hno : ¬ (RowIn n xs)
  · skip
    go_wp2_with fail
    refine (hN n sv xs _ _ hno hx2 HV.out).mono ?_
    rintro e w2 ⟨rfl, hb2⟩
    have HV := Lib.hid (HV.out.belowAll hb2)
    have HB := Lib.hid (HB.out.trans (hb2.mono HB.out.size))
    clear hb2
    go_wp2_with fail
    refine (specZeroSum_no n sv xs _ _ hno hx2 HV.out).mono ?_
    rintro e w3 ⟨rfl, rfl⟩
    go_wp2
    go_ret
    exact ⟨rfl, HB.out⟩
  have hrow0 : RowIn n xs := Classical.byContradiction hno
  clear hno
  have hrow := hrow0
  obtain ⟨m, rfl, h1, h2⟩ := row_nat hrow
  have h12 := hrow.2.1
  have hr := row_lt hrow
  have HY := Lib.hid (fun W h => hY m sv xs W.heap.size W hrow h)
  have HYs := Lib.hid (fun W1 b h => hY m sv xs b W1 hrow h)
  have HSs := Lib.hid (fun W1 b h => specZeroSum_yes m sv xs b W1 hrow h)
  have HOs := Lib.hid (fun W1 b h => hO m sv xs b W1 hrow h)
  have HE := Lib.hid (fun hk => p_egz m (rowZ xs) xs.length h1 hr hk h12)
  generalize zsum m (rowZ xs) xs.length (2 ^ xs.length - 1) = V at *
  generalize zeroOfN m (rowZ xs) xs.length = F at *
  have hq : ∃ q, decide (F ≠ 0) = q := ⟨_, rfl⟩
  obtain ⟨q, hq⟩ := hq
  rw [hq] at HOs
  have HQ : Hid (2 * m - 1 ≤ xs.length → q = true) := Lib.hid (fun hk => by rw [← hq]; exact decide_eq_true (HE.out hk))
  obtain ⟨A, cp, hsv⟩ := HV.out.slice
  clear hN hY hO hq HE hrow hrow0 hr
  generalize xs.length = L at *
  subst hsv
  go_wp2_with fail
  refine (HYs.out _ _ HV.out).mono ?_
  rintro e w2 ⟨rfl, hb2⟩
  have HV := Lib.hid (HV.out.belowAll hb2)
  have HB := Lib.hid (HB.out.trans (hb2.mono HB.out.size))
  clear hb2
  go_wp2_with fail
  refine (HSs.out _ _ HV.out).mono ?_
  rintro e w3 ⟨rfl, hb3⟩
  have HV := Lib.hid (HV.out.belowAll hb3)
  have HB := Lib.hid (HB.out.trans (hb3.mono HB.out.size))
  clear hb3
  go_wp2_with fail
  refine (HOs.out _ _ HV.out).mono ?_
  rintro e w4 ⟨rfl, hb4⟩
  have HV := Lib.hid (HV.out.belowAll hb4)
  have HB := Lib.hid (HB.out.trans (hb4.mono HB.out.size))
  clear hb4
  obtain ⟨y, t, ht, f1, f2, f3, f4⟩ := two_fit m h1 h2
  by_cases hk : 2 * m - 1 ≤ L
  · have hqt := HQ.out hk
    have k1 : ¬ (L : Int) < (t : Int) := by omega
    subst hqt
    clear hk ht
    go_wp2
    go_ret
    exact ⟨rfl, HB.out⟩
  · have k1 : (L : Int) < (t : Int) := by omega
    clear hk ht
    go_wp2
    go_ret
    exact ⟨rfl, HB.out⟩
set_option maxHeartbeats 2000000 in
set_option maxRecDepth 4000 in
theorem lawP_FnZeroParts (W : World) (B len cap : Nat) (A : Option Addr) (f : Nat → Nat) (hC : Code W B A len f) (hB : B ≤ W.heap.size) (hlc : len ≤ cap) (hcap : cap ≤ 9223372036854775807)
    (hN : NoZeroParts) (hY : YesZeroParts) (hP : YesZeroPlain) :
    Calls Try.prog 6 #[.slice A len cap] W fun e w' => e = .returned (.bool true) ∧ Below W.heap.size W w' := by
  have HC := Lib.hid (drawZeroParts_any W B len cap A f hC hB hlc hcap)
  clear hC
  by_cases hlen : (1048576 : Int) < (len : Int)
  · go_enter Try.func6, Try.ntmps6
    go_wp2
    go_ret
    exact ⟨rfl, Below.refl _ _⟩
  go_enter Try.func6, Try.ntmps6
  go_wp2_with fail
  refine HC.out.mono ?_
  rintro e w1 ⟨n, sv, xs, rfl, hx, hbl, hI0⟩
  have HB := Lib.hid hbl
  have HV := Lib.hid hI0
  have hx2 : xs.length ≤ 2000000 := Nat.le_trans hx (by decide)
  clear hbl hI0 hB hlc hcap HC
  by_cases hno : ¬ (RowIn n xs ∧ xs.length ≤ 8)
  · skip
    go_wp2_with fail
    refine (hN n sv xs _ _ hno hx2 HV.out).mono ?_
    rintro e w2 ⟨rfl, hb2⟩
    have HV := Lib.hid (HV.out.belowAll hb2)
    have HB := Lib.hid (HB.out.trans (hb2.mono HB.out.size))
    clear hb2
    go_wp2_with fail
    refine (specZeroParts_no n sv xs _ _ hno hx2 HV.out).mono ?_
    rintro e w3 ⟨rfl, rfl⟩
    go_wp2
    go_ret
    exact ⟨rfl, HB.out⟩
  have hrow0 : RowIn n xs ∧ xs.length ≤ 8 := Classical.byContradiction hno
  clear hno
  obtain ⟨hrow, h8⟩ := hrow0
  obtain ⟨m, rfl, h1, h2⟩ := row_nat hrow
  have h12 := hrow.2.1
  have hr := row_lt hrow
  have HYs := Lib.hid (fun W1 b h => hY m sv xs b W1 hrow h8 h)
  have HSs := Lib.hid (fun W1 b h => specZeroParts_yes m sv xs b W1 hrow h8 h)
  have HPs := Lib.hid (fun W1 b h => hP m sv xs b W1 hrow h)
  obtain ⟨hp1, hp2⟩ := p_parts m (rowZ xs) xs.length h1 h2 hr
  have hP8 : partsZ m (rowZ xs) xs.length ≤ 256 := Nat.le_trans (bestF_le m (rowZ xs) xs.length _ _) (Nat.le_trans (Nat.sub_le _ _) (Nat.pow_le_pow_right (n := 2) (by omega) h8))
  have HPl : Hid (plainB m (rowZ xs) xs.length = Nat.beq (partsZ m (rowZ xs) xs.length) 0) := Lib.hid (by
    unfold plainB
    exact bool_iff ⟨fun h => by rw [hp2.2 (Nat.eq_of_beq_eq_true h)]; rfl, fun h => by rw [hp2.1 (Nat.eq_of_beq_eq_true h)]; rfl⟩)
  rw [HPl.out] at HPs
  generalize partsZ m (rowZ xs) xs.length = P at *
  obtain ⟨A, cp, hsv⟩ := HV.out.slice
  clear hN hY hP HPl hrow hr hp2
  generalize xs.length = L at *
  subst hsv
  obtain ⟨y, z, t, ht, HF⟩ := part_fit m P h2 h1 hP8
  have HK := Lib.hid (show (t : Int) ≥ (L : Int) by omega)
  have HEq := Lib.hid (cast_beq0n P)
  generalize Nat.beq P 0 = q at *
  clear hp1 ht
  go_wp2_with fail
  refine (HYs.out _ _ HV.out).mono ?_
  rintro e w2 ⟨rfl, hb2⟩
  have HV := Lib.hid (HV.out.belowAll hb2)
  have HB := Lib.hid (HB.out.trans (hb2.mono HB.out.size))
  clear hb2
  go_wp2_with fail
  refine (HSs.out _ _ HV.out).mono ?_
  rintro e w3 ⟨rfl, hb3⟩
  have HV := Lib.hid (HV.out.belowAll hb3)
  have HB := Lib.hid (HB.out.trans (hb3.mono HB.out.size))
  clear hb3
  have k1 := HK.out
  have k2 : decide ((t : Int) ≥ (L : Int)) = true := decide_eq_true k1
  obtain ⟨f1, f2, f3, f4, f5, f6⟩ := HF.out
  have e1 := HEq.out
  go_wp2_with fail
  refine (HPs.out _ _ HV.out).mono ?_
  rintro e w4 ⟨rfl, hb4⟩
  have HB := Lib.hid (HB.out.trans (hb4.mono HB.out.size))
  clear hb4
  cases q
  all_goals
    go_wp2
    go_ret
    exact ⟨rfl, HB.out⟩
set_option maxHeartbeats 2000000 in
set_option maxRecDepth 4000 in
theorem lawP_FnZeroOf (W : World) (B len cap : Nat) (A : Option Addr) (f : Nat → Nat) (hC : Code W B A len f) (hB : B ≤ W.heap.size) (hlc : len ≤ cap) (hcap : cap ≤ 9223372036854775807)
    (hN : NoZeroOf) (hY : YesZeroOf) :
    Calls Try.prog 4 #[.slice A len cap] W fun e w' => e = .returned (.bool true) ∧ Below W.heap.size W w' := by
  have HC := Lib.hid (drawZeroOf_any W B len cap A f hC hB hlc hcap)
  clear hC
  by_cases hlen : (1048576 : Int) < (len : Int)
  · go_enter Try.func4, Try.ntmps4
    go_wp2
    go_ret
    exact ⟨rfl, Below.refl _ _⟩
  go_enter Try.func4, Try.ntmps4
  go_wp2_with fail
  refine HC.out.mono ?_
  rintro e w1 ⟨n, sv, xs, rfl, hx, hbl, hI0⟩
  have HB := Lib.hid hbl
  have HV := Lib.hid hI0
  have hx2 : xs.length ≤ 2000000 := Nat.le_trans hx (by decide)
  clear hbl hI0 hB hlc hcap HC
  by_cases hno : ¬ (RowIn n xs)
  · skip
    go_wp2_with fail
    refine (hN n sv xs _ _ hno hx2 HV.out).mono ?_
    rintro e w2 ⟨rfl, hb2⟩
    have HV := Lib.hid (HV.out.belowAll hb2)
    have HB := Lib.hid (HB.out.trans (hb2.mono HB.out.size))
    clear hb2
    go_wp2_with fail
    refine (specZeroOf_no n sv xs _ _ hno hx2 HV.out).mono ?_
    rintro e w3 ⟨rfl, rfl⟩
    go_wp2
    go_ret
    exact ⟨rfl, HB.out⟩
  have hrow0 : RowIn n xs := Classical.byContradiction hno
  clear hno
  have hrow := hrow0
  obtain ⟨m, rfl, h1, h2⟩ := row_nat hrow
  have h12 := hrow.2.1
  have hr := row_lt hrow
  have HYs := Lib.hid (fun W1 b h => hY m sv xs b W1 hrow h)
  have HSs := Lib.hid (fun W1 b h => specZeroOf_any m sv xs b W1 hrow h)
  have HIs := Lib.hid (fun h => zeroOf_is m (rowZ xs) xs.length h)
  have hF12 : zeroOfN m (rowZ xs) xs.length < 2 ^ 12 := Nat.lt_of_lt_of_le (zeroOf_lt m (rowZ xs) xs.length) (Nat.pow_le_pow_right (by omega) h12)
  generalize zeroOfN m (rowZ xs) xs.length = F at *
  have hF40 : F < 2 ^ 40 := by omega
  have HVal := Lib.hid (fun i hi => row_val hrow i hi)
  have HLt := Lib.hid (fun i => row_lt hrow i)
  have HLe := Lib.hid (fun i => sumC_le (rowZ xs) F i 11 (fun i => by have := row_lt hrow i; omega))
  have HSt := Lib.hid (fun i => sumC_step (rowZ xs) F i)
  have HBit := Lib.hid (fun v => bit_val F v hF40)
  obtain ⟨A, cp, hsv⟩ := HV.out.slice
  obtain ⟨L, hL⟩ : ∃ L, xs.length = L := ⟨_, rfl⟩
  have HL := Lib.hid hL
  rw [hL] at hsv HIs h12
  clear hN hY hrow hrow0 hr hL
  subst hsv
  by_cases hF : F = 0
  · subst hF
    have HYz := Lib.hid (show ∀ W1 b, IsInts W1 b (.slice A L cp) xs → Calls Try.prog 13 #[.int .i64 (m:Int), .slice A L cp] W1 fun e w' => e = .returned (.tuple #[.int .i64 0, .bool false]) ∧ Below W1.heap.size W1 w' from fun W1 b h => HYs.out W1 b h)
    have HSz := Lib.hid (show ∀ W1 b, IsInts W1 b (.slice A L cp) xs → Calls Try.prog 14 #[.int .i64 (m:Int), .slice A L cp] W1 fun e w' => e = .returned (.tuple #[.int .i64 0, .bool false]) ∧ Below W1.heap.size W1 w' from fun W1 b h => HSs.out W1 b h)
    go_wp2_with fail
    refine (HYz.out _ _ HV.out).mono ?_
    rintro e w2 ⟨rfl, hb2⟩
    have HV := Lib.hid (HV.out.belowAll hb2)
    have HB := Lib.hid (HB.out.trans (hb2.mono HB.out.size))
    clear hb2
    go_wp2_with fail
    refine (HSz.out _ _ HV.out).mono ?_
    rintro e w3 ⟨rfl, hb3⟩
    have HB := Lib.hid (HB.out.trans (hb3.mono HB.out.size))
    clear hb3
    go_wp2
    go_ret
    exact ⟨rfl, HB.out⟩
  · rw [decide_eq_true hF] at HYs HSs
    obtain ⟨_, q1, q2⟩ := HIs.out hF
    have HSz := Lib.hid (fun W => size_any F W hF40)
    rw [q1] at HSz
    have HT := Lib.hid (tmod_nat (sumC (rowZ xs) F L) m)
    rw [q2] at HT
    clear q1 q2 HIs
    go_wp2_with fail
    refine (HYs.out _ _ HV.out).mono ?_
    rintro e w2 ⟨rfl, hb2⟩
    have HV := Lib.hid (HV.out.belowAll hb2)
    have HB := Lib.hid (HB.out.trans (hb2.mono HB.out.size))
    clear hb2
    go_wp2_with fail
    refine (HSs.out _ _ HV.out).mono ?_
    rintro e w3 ⟨rfl, hb3⟩
    have HV := Lib.hid (HV.out.belowAll hb3)
    have HB := Lib.hid (HB.out.trans (hb3.mono HB.out.size))
    clear hb3
    have i5 : ((m : Int) = 0) = False := by simp; omega
    have i6 : ((m : Int) == 0) = false := by simp; omega
    have i7 : (m = 0) = False := by simp; omega
    go_wp2
    go_loopw [9, 10] (fun a u wr => ∃ i : Nat, i ≤ L ∧ a = .int .i64 ((sumC (rowZ xs) F i : Nat) : Int) ∧ u = .int .i64 (i : Int) ∧ Hid (Below W.heap.size W wr) ∧ Hid (IsInts wr W.heap.size (.slice A L cp) xs)) (fun _ u _ => L - (intOf u).toNat)
    case atStart => exact ⟨0, Nat.zero_le _, rfl, rfl, HB, HV⟩
    case round =>
      obtain ⟨i, hi, rfl, rfl, HB, HV⟩ := hrel
      by_cases hlt : i < L
      · obtain ⟨g, hg⟩ : ∃ g, A = some ⟨g, 0, none⟩ := by
          rcases HV.out.shape with ⟨_, e2⟩ | ⟨g, c, e1, _⟩
          · have := HL.out
            rw [e2] at this
            simp at this; omega
          · exact ⟨g, by cases e1; rfl⟩
        subst hg
        have ci := HV.out.cell (i := i) (by rw [HL.out]; exact hlt)
        rw [HVal.out i (by rw [HL.out]; exact hlt)] at ci
        have e1 := HBit.out i
        have hb1 : b2n (F.testBit i) ≤ 1 := by cases F.testBit i <;> simp [b2n]
        have HSt1 := Lib.hid (HSt.out i)
        have hz := HLt.out i
        have hs := HLe.out i
        generalize sumC (rowZ xs) F i = s at *
        generalize rowZ xs i = z at *
        generalize b2n (F.testBit i) = p at *
        have hz11 : z ≤ 11 := by omega
        have hs132 : s ≤ 132 := by omega
        have hpq : p * z ≤ 1 * 11 := Nat.mul_le_mul hb1 hz11
        have hb2 : p * z ≤ 1000000 := Nat.le_trans hpq (by decide)
        have hb3 : s + p * z ≤ 1000000 := Nat.le_trans (Nat.add_le_add hs132 hpq) (by decide)
        obtain ⟨m1, m2⟩ := two_wraps ((p : Int) * (z : Int)) (p * z) (Int.natCast_mul p z).symm hb2
        obtain ⟨m3, m4⟩ := two_wraps ((s : Int) + ((p * z : Nat) : Int)) (s + p * z) (Int.natCast_add s (p * z)).symm hb3
        have i1 : (0 : Int) ≤ (i : Int) := Int.natCast_nonneg i
        have i2 : (i : Int) < (L : Int) := Int.ofNat_lt.2 hlt
        have i3 : min i 64 = i := by omega
        generalize s + p * z = y at *
        generalize p * z = pq at *
        clear hb1 hpq hz hs hz11 hs132 hb2 hb3
        go_wp2
        go_region
        go_wp2
        go_roundw
        case rel => exact ⟨i + 1, hlt, by rw [HSt1.out], by go_num, Lib.hid HB.out.drew, Lib.hid (HV.out.belowAll (Below.refl _ _).drew)⟩
        case measure => simp [intOf]; omega
      · obtain rfl : i = L := by omega
        have t1 := HT.out
        generalize sumC (rowZ xs) F i = s at *
        go_wp2_with (go_at_call 15; refine (HSz.out _).mono ?_; rintro e w9 ⟨rfl, rfl⟩)
        go_ret
        exact ⟨rfl, HB.out⟩
set_option maxHeartbeats 2000000 in
set_option maxRecDepth 4000 in
theorem lawP_FnZeroFirst (W : World) (B len cap : Nat) (A : Option Addr) (f : Nat → Nat) (hC : Code W B A len f) (hB : B ≤ W.heap.size) (hlc : len ≤ cap) (hcap : cap ≤ 9223372036854775807)
    (hN : NoZeroFirst) (hY : YesZeroFirst) (hP : YesZeroPlain) :
    Calls Try.prog 3 #[.slice A len cap] W fun e w' => e = .returned (.bool true) ∧ Below W.heap.size W w' := by
  have HC := Lib.hid (drawZeroFirst_any W B len cap A f hC hB hlc hcap)
  clear hC
  by_cases hlen : (1048576 : Int) < (len : Int)
  · go_enter Try.func3, Try.ntmps3
    go_wp2
    go_ret
    exact ⟨rfl, Below.refl _ _⟩
  go_enter Try.func3, Try.ntmps3
  go_wp2_with fail
  refine HC.out.mono ?_
  rintro e w1 ⟨n, sv, xs, rfl, hx, hbl, hI0⟩
  have HB := Lib.hid hbl
  have HV := Lib.hid hI0
  have hx2 : xs.length ≤ 2000000 := Nat.le_trans hx (by decide)
  clear hbl hI0 hB hlc hcap HC
  by_cases hno : ¬ (RowIn n xs)
  · skip
    go_wp2_with fail
    refine (hN n sv xs _ _ hno hx2 HV.out).mono ?_
    rintro e w2 ⟨rfl, hb2⟩
    have HV := Lib.hid (HV.out.belowAll hb2)
    have HB := Lib.hid (HB.out.trans (hb2.mono HB.out.size))
    clear hb2
    go_wp2_with fail
    refine (specZeroFirst_no n sv xs _ _ hno hx2 HV.out).mono ?_
    rintro e w3 ⟨rfl, rfl⟩
    go_wp2
    go_ret
    exact ⟨rfl, HB.out⟩
  have hrow0 : RowIn n xs := Classical.byContradiction hno
  clear hno
  have hrow := hrow0
  obtain ⟨m, rfl, h1, h2⟩ := row_nat hrow
  have h12 := hrow.2.1
  have hr := row_lt hrow
  have HYs := Lib.hid (fun W1 b h => hY m sv xs b W1 hrow h)
  have HSs := Lib.hid (fun W1 b h => specZeroFirst_any m sv xs b W1 hrow h)
  have HPs := Lib.hid (fun W1 b h => hP m sv xs b W1 hrow h)
  have HIs := Lib.hid (fun h => first_zero m (rowZ xs) xs.length h)
  have hF12 : zfirst m (rowZ xs) xs.length < 2 ^ 12 := Nat.lt_of_lt_of_le (first_lt m (rowZ xs) xs.length) (Nat.pow_le_pow_right (by omega) h12)
  have HPl : Hid (plainB m (rowZ xs) xs.length = Nat.beq (zfirst m (rowZ xs) xs.length) 0) := Lib.hid rfl
  rw [HPl.out] at HPs
  clear HPl
  generalize zfirst m (rowZ xs) xs.length = F at *
  have hF40 : F < 2 ^ 40 := by omega
  have HVal := Lib.hid (fun i hi => row_val hrow i hi)
  have HLt := Lib.hid (fun i => row_lt hrow i)
  have HLe := Lib.hid (fun i => sumC_le (rowZ xs) F i 11 (fun i => by have := row_lt hrow i; omega))
  have HSt := Lib.hid (fun i => sumC_step (rowZ xs) F i)
  have HBit := Lib.hid (fun v => bit_val F v hF40)
  obtain ⟨A, cp, hsv⟩ := HV.out.slice
  obtain ⟨L, hL⟩ : ∃ L, xs.length = L := ⟨_, rfl⟩
  have HL := Lib.hid hL
  rw [hL] at hsv HIs h12
  clear hN hY hP hrow hrow0 hr hL
  subst hsv
  by_cases hF : F = 0
  · subst hF
    have HYz := Lib.hid (show ∀ W1 b, IsInts W1 b (.slice A L cp) xs → Calls Try.prog 9 #[.int .i64 (m:Int), .slice A L cp] W1 fun e w' => e = .returned (.tuple #[.int .i64 0, .bool false]) ∧ Below W1.heap.size W1 w' from fun W1 b h => HYs.out W1 b h)
    have HSz := Lib.hid (show ∀ W1 b, IsInts W1 b (.slice A L cp) xs → Calls Try.prog 10 #[.int .i64 (m:Int), .slice A L cp] W1 fun e w' => e = .returned (.tuple #[.int .i64 0, .bool false]) ∧ Below W1.heap.size W1 w' from fun W1 b h => HSs.out W1 b h)
    go_wp2_with fail
    refine (HYz.out _ _ HV.out).mono ?_
    rintro e w2 ⟨rfl, hb2⟩
    have HV := Lib.hid (HV.out.belowAll hb2)
    have HB := Lib.hid (HB.out.trans (hb2.mono HB.out.size))
    clear hb2
    go_wp2_with fail
    refine (HSz.out _ _ HV.out).mono ?_
    rintro e w3 ⟨rfl, hb3⟩
    have HB := Lib.hid (HB.out.trans (hb3.mono HB.out.size))
    clear hb3
    go_wp2
    go_ret
    exact ⟨rfl, HB.out⟩
  · rw [decide_eq_true hF] at HYs HSs
    obtain ⟨_, q2⟩ := HIs.out hF
    have hbF : Nat.beq F 0 = false := by
      cases hc : Nat.beq F 0
      · rfl
      · exact absurd (Nat.eq_of_beq_eq_true hc) hF
    rw [hbF] at HPs
    have HT := Lib.hid (tmod_nat (sumC (rowZ xs) F L) m)
    rw [q2] at HT
    have HK : Hid ((F : Int) > 0) := Lib.hid (by omega)
    clear q2 HIs hbF hF
    go_wp2_with fail
    refine (HYs.out _ _ HV.out).mono ?_
    rintro e w2 ⟨rfl, hb2⟩
    have HV := Lib.hid (HV.out.belowAll hb2)
    have HB := Lib.hid (HB.out.trans (hb2.mono HB.out.size))
    clear hb2
    go_wp2_with fail
    refine (HSs.out _ _ HV.out).mono ?_
    rintro e w3 ⟨rfl, hb3⟩
    have HV := Lib.hid (HV.out.belowAll hb3)
    have HB := Lib.hid (HB.out.trans (hb3.mono HB.out.size))
    clear hb3
    have i5 : ((m : Int) = 0) = False := by simp; omega
    have i6 : ((m : Int) == 0) = false := by simp; omega
    have i7 : (m = 0) = False := by simp; omega
    go_wp2
    go_loopw [9, 10] (fun a u wr => ∃ i : Nat, i ≤ L ∧ a = .int .i64 ((sumC (rowZ xs) F i : Nat) : Int) ∧ u = .int .i64 (i : Int) ∧ Hid (Below W.heap.size W wr) ∧ Hid (IsInts wr W.heap.size (.slice A L cp) xs)) (fun _ u _ => L - (intOf u).toNat)
    case atStart => exact ⟨0, Nat.zero_le _, rfl, rfl, HB, HV⟩
    case round =>
      obtain ⟨i, hi, rfl, rfl, HB, HV⟩ := hrel
      by_cases hlt : i < L
      · obtain ⟨g, hg⟩ : ∃ g, A = some ⟨g, 0, none⟩ := by
          rcases HV.out.shape with ⟨_, e2⟩ | ⟨g, c, e1, _⟩
          · have := HL.out
            rw [e2] at this
            simp at this; omega
          · exact ⟨g, by cases e1; rfl⟩
        subst hg
        have ci := HV.out.cell (i := i) (by rw [HL.out]; exact hlt)
        rw [HVal.out i (by rw [HL.out]; exact hlt)] at ci
        have e1 := HBit.out i
        have hb1 : b2n (F.testBit i) ≤ 1 := by cases F.testBit i <;> simp [b2n]
        have HSt1 := Lib.hid (HSt.out i)
        have hz := HLt.out i
        have hs := HLe.out i
        generalize sumC (rowZ xs) F i = s at *
        generalize rowZ xs i = z at *
        generalize b2n (F.testBit i) = p at *
        have hz11 : z ≤ 11 := by omega
        have hs132 : s ≤ 132 := by omega
        have hpq : p * z ≤ 1 * 11 := Nat.mul_le_mul hb1 hz11
        have hb2 : p * z ≤ 1000000 := Nat.le_trans hpq (by decide)
        have hb3 : s + p * z ≤ 1000000 := Nat.le_trans (Nat.add_le_add hs132 hpq) (by decide)
        obtain ⟨m1, m2⟩ := two_wraps ((p : Int) * (z : Int)) (p * z) (Int.natCast_mul p z).symm hb2
        obtain ⟨m3, m4⟩ := two_wraps ((s : Int) + ((p * z : Nat) : Int)) (s + p * z) (Int.natCast_add s (p * z)).symm hb3
        have i1 : (0 : Int) ≤ (i : Int) := Int.natCast_nonneg i
        have i2 : (i : Int) < (L : Int) := Int.ofNat_lt.2 hlt
        have i3 : min i 64 = i := by omega
        generalize s + p * z = y at *
        generalize p * z = pq at *
        clear hb1 hpq hz hs hz11 hs132 hb2 hb3
        go_wp2
        go_region
        go_wp2
        go_roundw
        case rel => exact ⟨i + 1, hlt, by rw [HSt1.out], by go_num, Lib.hid HB.out.drew, Lib.hid (HV.out.belowAll (Below.refl _ _).drew)⟩
        case measure => simp [intOf]; omega
      · obtain rfl : i = L := by omega
        have t1 := HT.out
        have k1 := HK.out
        have k2 : (0 : Int) < (F : Int) := k1
        have k3 : decide ((F : Int) > 0) = true := decide_eq_true k1
        have k4 : 0 < F := by omega
        have k5 : decide (0 < F) = true := decide_eq_true k4
        generalize sumC (rowZ xs) F i = s at *
        go_wp2_with fail
        refine (HPs.out _ _ HV.out).mono ?_
        rintro e w9 ⟨rfl, hb9⟩
        go_wp2
        go_ret
        exact ⟨rfl, HB.out.trans (hb9.mono HB.out.size)⟩
end Go.Proofs.Ytaopejgmnbmngaa
