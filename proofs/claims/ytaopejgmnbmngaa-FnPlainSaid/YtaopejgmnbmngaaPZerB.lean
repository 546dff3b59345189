/- Promises of chapter 9 over given contracts: plain rows, Davenport, sums. Written by gen91.py. -/
import Derived.Test.YtaopejgmnbmngaaPZerA
import Derived.Test.YtaopejgmnbmngaaSame
namespace Go.Proofs.Ytaopejgmnbmngaa
open Go.RowKit Go.Shelf
set_option linter.unusedVariables false
theorem less_fit (v : Nat) (h : v ≤ 100000) : IntKind.i64.wrap ((v : Int) - 1) = (v : Int) - 1 ∧ wrap64 ((v : Int) - 1) = (v : Int) - 1 := ⟨IntWalk.i64_in _ (by omega), IntWalk.wrap64_in _ (by omega)⟩
set_option maxHeartbeats 2000000 in
set_option maxRecDepth 4000 in
theorem lawP_FnPlain (W : World) (B len cap : Nat) (A : Option Addr) (f : Nat → Nat) (hC : Code W B A len f) (hB : B ≤ W.heap.size) (hlc : len ≤ cap) (hcap : cap ≤ 9223372036854775807)
    (hN : NoZeroPlain) (hY : YesZeroPlain) (hK : YesZeroCounts) :
    Calls Try.prog 7 #[.slice A len cap] W fun e w' => e = .returned (.bool true) ∧ Below W.heap.size W w' := by
  have HC := Lib.hid (drawZeroPlain_any W B len cap A f hC hB hlc hcap)
  clear hC
  by_cases hlen : (1048576 : Int) < (len : Int)
  · go_enter Try.func7, Try.ntmps7
    go_wp2
    go_ret
    exact ⟨rfl, Below.refl _ _⟩
  go_enter Try.func7, Try.ntmps7
  go_wp2_with fail
  refine HC.out.mono ?_
  rintro e w1 ⟨n, sv, xs, rfl, hx, hbl, hI0⟩
  have HB := Lib.hid hbl
  have HV := Lib.hid hI0
  have hx2 : xs.length ≤ 2000000 := Nat.le_trans hx (by decide)
  clear hbl hI0 hB hlc hcap HC
  by_cases hno : ¬ (RowIn n xs)
  · skip
    go_wp2_with fail
    refine (hN n sv xs _ _ hno hx2 HV.out).mono ?_
    rintro e w2 ⟨rfl, hb2⟩
    have HV := Lib.hid (HV.out.belowAll hb2)
    have HB := Lib.hid (HB.out.trans (hb2.mono HB.out.size))
    clear hb2
    go_wp2_with fail
    refine (specZeroPlain_no n sv xs _ _ hno hx2 HV.out).mono ?_
    rintro e w3 ⟨rfl, rfl⟩
    go_wp2
    go_ret
    exact ⟨rfl, HB.out⟩
  have hrow0 : RowIn n xs := Classical.byContradiction hno
  clear hno
  have hrow := hrow0
  obtain ⟨m, rfl, h1, h2⟩ := row_nat hrow
  have h12 := hrow.2.1
  have hr := row_lt hrow
  have HYs := Lib.hid (fun W1 b h => hY m sv xs b W1 hrow h)
  have HSs := Lib.hid (fun W1 b h => specZeroPlain_yes m sv xs b W1 hrow h)
  have HKs := Lib.hid (fun W1 b h => hK m sv xs b W1 hrow h)
  have HPl := Lib.hid (fun h => p_plain m (rowZ xs) xs.length h1 h2 hr h)
  have HPq : Hid (plainB m (rowZ xs) xs.length = true → zfirst m (rowZ xs) xs.length = 0) := Lib.hid (fun h => Nat.eq_of_beq_eq_true h)
  have HLen := Lib.hid (cntL_len m (rowZ xs) xs.length)
  have HG := Lib.hid (fun v hv => cntL_get m (rowZ xs) xs.length v hv)
  obtain ⟨A, cp, hsv⟩ := HV.out.slice
  obtain ⟨ls, hls⟩ : ∃ ls, cntL m (rowZ xs) xs.length = ls := ⟨_, rfl⟩
  rw [hls] at HKs HLen HG
  clear hN hY hK hrow hrow0 hr hls
  generalize xs.length = L at *
  subst hsv
  cases hq : plainB m (rowZ xs) L
  · rw [hq] at HYs HSs
    go_wp2_with fail
    refine (HYs.out _ _ HV.out).mono ?_
    rintro e w2 ⟨rfl, hb2⟩
    have HV := Lib.hid (HV.out.belowAll hb2)
    have HB := Lib.hid (HB.out.trans (hb2.mono HB.out.size))
    clear hb2
    go_wp2_with fail
    refine (HSs.out _ _ HV.out).mono ?_
    rintro e w3 ⟨rfl, hb3⟩
    have HB := Lib.hid (HB.out.trans (hb3.mono HB.out.size))
    clear hb3
    go_wp2
    go_ret
    exact ⟨rfl, HB.out⟩
  · rw [hq] at HYs HSs
    obtain ⟨q1, q2⟩ := HPl.out (HPq.out hq)
    have HQ1 := Lib.hid (show (L : Int) < (m : Int) by omega)
    have HQ2 := Lib.hid q2
    have hLw := fit_one L (by omega)
    have HLw := Lib.hid hLw
    clear HPl HPq hq q1 q2 hLw
    go_wp2_with fail
    refine (HYs.out _ _ HV.out).mono ?_
    rintro e w2 ⟨rfl, hb2⟩
    have HV := Lib.hid (HV.out.belowAll hb2)
    have HB := Lib.hid (HB.out.trans (hb2.mono HB.out.size))
    clear hb2
    go_wp2_with fail
    refine (HSs.out _ _ HV.out).mono ?_
    rintro e w3 ⟨rfl, hb3⟩
    have HV := Lib.hid (HV.out.belowAll hb3)
    have HB := Lib.hid (HB.out.trans (hb3.mono HB.out.size))
    clear hb3
    go_wp2_with fail
    refine (HKs.out _ _ HV.out).mono ?_
    rintro e w4 ⟨sl, rfl, hb4, hI4⟩
    have HV := Lib.hid (HV.out.belowAll hb4)
    have HO := Lib.hid hI4
    clear hI4
    have HB := Lib.hid (HB.out.trans (hb4.mono HB.out.size))
    clear hb4
    obtain ⟨g, c9, rfl⟩ : ∃ g c9, sl = .slice (some ⟨g, 0, none⟩) m c9 := by
      rcases HO.out.shape with ⟨_, e2⟩ | ⟨g, c, e1, _⟩
      · have := HLen.out
        rw [e2] at this
        simp at this; omega
      · exact ⟨g, c, by rw [e1, HLen.out]⟩
    clear HYs HSs HKs
    go_wp2
    go_loopw [9, 10] (fun a u wr => ∃ v : Nat, v ≤ m ∧ a = .int .i64 ((sumTo (fun v => b2n (Nat.blt 0 (countN m (rowZ xs) L v))) v : Nat) : Int) ∧ u = .int .i64 (v : Int) ∧ wr = w4) (fun _ u _ => m - (intOf u).toNat)
    case atStart => exact ⟨0, Nat.zero_le _, rfl, rfl, rfl⟩
    case round =>
      obtain ⟨v, hv, rfl, rfl, hw⟩ := hrel
      subst hw
      by_cases hlt : v < m
      · have cv := HO.out.cell (i := v) (by rw [HLen.out]; exact hlt)
        rw [HG.out v hlt] at cv
        have HSt : Hid (sumTo (fun v => b2n (Nat.blt 0 (countN m (rowZ xs) L v))) (v + 1) = sumTo (fun v => b2n (Nat.blt 0 (countN m (rowZ xs) L v))) v + b2n (Nat.blt 0 (countN m (rowZ xs) L v))) := Lib.hid rfl
        have hle : sumTo (fun v => b2n (Nat.blt 0 (countN m (rowZ xs) L v))) v ≤ 1 * v := dsum_le _ 1 v fun _ => b2n_le _
        have hle2 : sumTo (fun v => b2n (Nat.blt 0 (countN m (rowZ xs) L v))) v ≤ 100000 := by omega
        generalize sumTo (fun v => b2n (Nat.blt 0 (countN m (rowZ xs) L v))) v = s at *
        have HF := Lib.hid (fit_one s hle2)
        have i1 : (0 : Int) ≤ (v : Int) := Int.natCast_nonneg v
        have i2 : (v : Int) < (m : Int) := Int.ofNat_lt.2 hlt
        by_cases hc : 0 < countN m (rowZ xs) L v
        · rw [(blt_iff _ _).2 hc] at HSt
          have HS2 : Hid (sumTo (fun v => b2n (Nat.blt 0 (countN m (rowZ xs) L v))) (v + 1) = s + 1) := HSt
          generalize countN m (rowZ xs) L v = c at *
          have k1 : (c : Int) > 0 := by omega
          have k2 : (0 : Int) < (c : Int) := k1
          obtain ⟨f1, f2⟩ := HF.out
          clear hle hle2 HSt
          go_wp2
          go_roundw
          case rel => exact ⟨v + 1, hlt, by rw [HS2.out]; first | done | rfl | go_num, by go_num, by first | rfl | trivial⟩
          case measure => simp [intOf]; omega
        · have hb : Nat.blt 0 (countN m (rowZ xs) L v) = false := by
            cases hh : Nat.blt 0 (countN m (rowZ xs) L v)
            · rfl
            · exact absurd ((blt_iff _ _).1 hh) hc
          rw [hb] at HSt
          have HS2 : Hid (sumTo (fun v => b2n (Nat.blt 0 (countN m (rowZ xs) L v))) (v + 1) = s) := HSt
          generalize countN m (rowZ xs) L v = c at *
          have k1 : ¬ (c : Int) > 0 := by omega
          have k2 : ¬ (0 : Int) < (c : Int) := k1
          clear hle hle2 HSt hb HF
          go_wp2
          go_roundw
          case rel => exact ⟨v + 1, hlt, by rw [HS2.out]; first | done | rfl | go_num, by go_num, by first | rfl | trivial⟩
          case measure => simp [intOf]; omega
      · obtain rfl : v = m := by omega
        have hle := HQ2.out
        generalize sumTo (fun v_1 => b2n (Nat.blt 0 (countN v (rowZ xs) L v_1))) v = s at *
        have k1 := HQ1.out
        have k2 : (s : Int) ≥ ((L + 1 : Nat) : Int) := Int.ofNat_le.2 hle
        have k3 : decide ((s : Int) ≥ ((L + 1 : Nat) : Int)) = true := decide_eq_true k2
        have k4 : decide ((L : Int) < (v : Int)) = true := decide_eq_true k1
        obtain ⟨f1, f2⟩ := HLw.out
        generalize L + 1 = t at *
        clear hle
        go_wp2
        go_ret
        exact ⟨rfl, HB.out⟩
end Go.Proofs.Ytaopejgmnbmngaa
