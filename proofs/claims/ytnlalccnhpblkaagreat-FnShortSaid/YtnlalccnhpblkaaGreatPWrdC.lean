/- Promises of chapter 10 over given contracts: shortest texts. Written by gen120.py. -/
import Derived.Test.YtnlalccnhpblkaaGreatDrawO
import Derived.Test.YtnlalccnhpblkaaGreatPWrdK
import Derived.Test.YtnlalccnhpblkaaGreatWrdNs
import Derived.Test.YtnlalccnhpblkaaGreatWrdX
import Derived.Test.YtnlalccnhpblkaaGreatGF
import Derived.Test.YtnlalccnhpblkaaGreatStepWA
import Derived.Test.YtnlalccnhpblkaaGreatStepQ
namespace Go.Proofs.YtnlalccnhpblkaaGreat
open Go.RowKit Go.Shelf
set_option linter.unusedVariables false
theorem short_sizeO (n : Int) (xs : List Int) (v : Int) (out : ByteArray) (h : shortO n xs v = some out) : out.size ≤ n.toNat := by
  unfold shortO at h
  by_cases hc : LetIn n xs ∧ 0 ≤ v ∧ v ≤ n - 1
  · rw [if_pos hc] at h
    cases hs : shortC n.toNat (letL xs) v.toNat with
    | none => rw [hs] at h; cases h
    | some cs =>
      rw [hs] at h
      have ho2 : toB (textC 0 cs) = out := Option.some.inj h
      rw [← ho2, toB_size, text_len]
      exact (short_some n.toNat (letL xs) v.toNat cs hs).2.2.1
  · rw [if_neg hc] at h; cases h
/-- A ring, letters and a place. -/
def LetPlace (W : World) (e : Ending) (w' : World) : Prop :=
  ∃ (n : Nat) (lv : Value) (xs : List Int) (v : Int), e = .returned (.tuple #[.int .i64 (n : Int), lv, .int .i64 v]) ∧ 2 ≤ n ∧ n ≤ 12 ∧ 1 ≤ xs.length ∧ xs.length ≤ 3 ∧ Below W.heap.size W w' ∧ IsInts w' W.heap.size lv xs
set_option maxHeartbeats 2000000 in
theorem drawWordShort_any (W : World) (B len cap : Nat) (A : Option Addr) (f : Nat → Nat) (hC : Code W B A len f) (hB : B ≤ W.heap.size) (hlc : len ≤ cap) (hcap : cap ≤ 9223372036854775807) :
    Calls Tryz.prog 4 #[.slice A len cap] W (LetPlace W) := by
  have HO := Lib.hid (open_any W B len cap A f hC hB hlc hcap)
  clear hC
  go_enter Tryz.func4, Tryz.ntmps4
  go_wp2_with fail
  refine HO.out.mono ?_
  rintro e w1 ⟨R, A', len', cap', rfl, hR, hl, hRd, hCd, hb1⟩
  have hWR : W.heap.size ≤ R := hR
  have HL := Lib.hid (l92Letters_any W w1 B R 0 hWR hb1 ⟨⟨A', len', cap', f, hRd, hCd, hl⟩, by omega⟩ (by omega))
  clear hRd hCd hb1 hl HO
  go_wp2_with fail
  refine HL.out.mono ?_
  rintro e w2 ⟨n, lv, xs, q, rfl, hn1, hn2, hx1, hx3, hq, hR2, hB2, hI2, hE2⟩
  obtain ⟨A2, cap2, rfl⟩ := ints_slice hI2
  have HR2 := Lib.hid hR2
  have HB2 := Lib.hid hB2
  have HI2 := Lib.hid hI2
  clear hR2 hB2 hI2 hE2 HL
  go_wp2_with fail
  refine (draw_any w2 B R q 24 HR2.out (by omega) (by omega) (by omega)).mono ?_
  rintro e w3 ⟨d, rfl, hd, hR3, hA3⟩
  have hd3 := hd (by omega)
  have HR3 := Lib.hid hR3
  have HB3 := Lib.hid (HB2.out.trans (hA3.below (m := W.heap.size) hWR HB2.out.size))
  have HI3 := Lib.hid (aside_ints HI2.out hA3 (Nat.lt_succ_self R))
  clear hR3 hA3 hd HR2 HB2 HI2
  by_cases hd23 : d = 23
  all_goals
    first
      | subst hd23
      | (have hq1 : (d : Int) / 23 = 0 := by omega
         have hq2 : Int.tdiv (d : Int) 23 = 0 := by rw [Int.tdiv_eq_ediv_of_nonneg (by omega)]; exact hq1)
    go_wp2_with fail
    refine (draw_any w3 B R (q + 1) _ HR3.out (by omega) (by omega) (by omega)).mono ?_
    rintro e w4 ⟨v, rfl, hv, hR4, hA4⟩
    have hv4 := hv (by omega)
    have HR4 := Lib.hid hR4
    have HB4 := Lib.hid (HB3.out.trans (hA4.below (m := W.heap.size) hWR HB3.out.size))
    have HI4 := Lib.hid (aside_ints HI3.out hA4 (Nat.lt_succ_self R))
    clear hR4 hA4 hv
    go_wp2_with fail
    refine (draw_any w4 B R (q + 1 + 1) 24 HR4.out (by omega) (by omega) (by omega)).mono ?_
    rintro e w5 ⟨c, rfl, hc, hR5, hA5⟩
    have hc5 := hc (by omega)
    have HB5 := Lib.hid (HB4.out.trans (hA5.below (m := W.heap.size) hWR HB4.out.size))
    have HI5 := Lib.hid ((aside_ints HI4.out hA5 (Nat.lt_succ_self R)).base (b' := W.heap.size) (by omega))
    clear hR5 hA5 hc
    by_cases hc23 : c = 23
    · subst hc23
      go_wp2
      refine bodyPost_ret (v := .tuple #[.int .i64 (n : Int), .slice A2 xs.length cap2, .int .i64 ((v : Int) - 1)]) (by simp [results, Tryz.results4, go_sem]) rfl ?_
      exact ⟨n, _, xs, _, rfl, hn1, hn2, hx1, hx3, HB5.out, HI5.out⟩
    · have hq3 : (c : Int) / 23 = 0 := by omega
      have hq4 : Int.tdiv (c : Int) 23 = 0 := by rw [Int.tdiv_eq_ediv_of_nonneg (by omega)]; exact hq3
      go_wp2
      refine bodyPost_ret (v := .tuple #[.int .i64 (n : Int), .slice A2 xs.length cap2, .int .i64 (v : Int)]) (by simp [results, Tryz.results4, go_sem]) rfl ?_
      exact ⟨n, _, xs, _, rfl, hn1, hn2, hx1, hx3, HB5.out, HI5.out⟩
set_option maxHeartbeats 2000000 in
theorem lawP_FnShort (W : World) (B len cap : Nat) (A : Option Addr) (f : Nat → Nat) (hC : Code W B A len f) (hB : B ≤ W.heap.size) (hlc : len ≤ cap) (hcap : cap ≤ 9223372036854775807)
    (hSh : AnyWordShort) (hE : AnyWordEnd) (hT : AnyWordTidy) :
    Calls Tryz.prog 3 #[.slice A len cap] W fun e w' => e = .returned (.bool true) ∧ Below W.heap.size W w' := by
  have HC := Lib.hid (drawWordShort_any W B len cap A f hC hB hlc hcap)
  clear hC
  by_cases hlen : (1048576 : Int) < (len : Int)
  · go_enter Tryz.func3, Tryz.ntmps3
    go_wp2
    go_ret
    exact ⟨rfl, Below.refl _ _⟩
  go_enter Tryz.func3, Tryz.ntmps3
  go_wp2_with fail
  refine HC.out.mono ?_
  rintro e w1 ⟨n, lv, xs, v, rfl, hn1, hn2, hx1, hx3, hbl, hI0⟩
  have HB := Lib.hid hbl
  have HV := Lib.hid hI0
  obtain ⟨A2, cap2, rfl⟩ := ints_slice hI0
  obtain ⟨g0, rfl⟩ := some_of_ints hI0 hx1
  have hxl : xs.length ≤ 2000000 := by omega
  have HI := Lib.hid (fun W1 b h => hSh (n : Int) (.slice (some ⟨g0, 0, none⟩) xs.length cap2) xs v b W1 hxl h)
  have HS := Lib.hid (fun W1 b h => specWordShort_any (n : Int) (.slice (some ⟨g0, 0, none⟩) xs.length cap2) xs v b W1 hxl h)
  have HE := Lib.hid (fun (s : ByteArray) (hs : s.size ≤ 1048576) W1 b h => hE (n : Int) (.slice (some ⟨g0, 0, none⟩) xs.length cap2) xs s b W1 hxl hs h)
  have HT := Lib.hid (fun (s : ByteArray) (hs : s.size ≤ 1048576) W1 b h => hT (n : Int) (.slice (some ⟨g0, 0, none⟩) xs.length cap2) xs s b W1 hxl hs h)
  clear hbl hI0 hB hlc hcap HC hE hT hSh hxl
  cases he : shortO (n : Int) xs v with
  | none =>
    rw [he] at HI HS
    clear HE HT he
    simp only [Option.getD_none, Option.isSome_none] at HI HS
    go_wp2_with fail
    refine (HI.out _ _ HV.out).mono ?_
    rintro e w2 ⟨rfl, hbw2⟩
    have HV := Lib.hid (HV.out.belowAll hbw2)
    have HB := Lib.hid (HB.out.trans (hbw2.mono HB.out.size))
    clear hbw2
    go_wp2_with fail
    refine (HS.out _ _ HV.out).mono ?_
    rintro e w3 ⟨rfl, hbw3⟩
    have HV := Lib.hid (HV.out.belowAll hbw3)
    have HB := Lib.hid (HB.out.trans (hbw3.mono HB.out.size))
    clear hbw3
    go_wp2
    go_ret
    exact ⟨rfl, HB.out⟩
  | some out =>
    obtain ⟨hL, h0, h1, p1, p2, p3⟩ := p_wordShort (n : Int) xs v out he
    have hos := short_sizeO (n : Int) xs v out he
    obtain ⟨x, rfl⟩ : ∃ x : Nat, v = (x : Int) := ⟨v.toNat, by omega⟩
    have hxn : x < n := by omega
    have HA := Lib.hid (fun W1 b h => HE.out out (by omega) W1 b h)
    have HX := Lib.hid (fun W1 b h => HT.out out (by omega) W1 b h)
    rw [he] at HI HS
    rw [p1] at HA
    rw [p2] at HX
    simp only [Option.getD_some, Option.isSome_some, Int.toNat_natCast] at HI HS HA HX
    rw [Int.toNat_natCast, Int.toNat_natCast] at p3
    have HFit := Lib.hid (steps_fit n xs hL)
    have HAll := Lib.hid (maskTo_all xs)
    have hlt := maskTo_lt n xs hL xs.length
    have hb0 := maskTo_bit0 n xs hL xs.length
    rw [maskTo_all] at hlt hb0
    have HBo := Lib.hid (fun W1 => implStepBoth_yes n (maskL (letL xs)) W1 (by omega) hn2 hlt hb0)
    have HFa := Lib.hid (fun W1 => implFarList_yes n (signsN n (letL xs)) W1 (by omega) hn2 (bothN_lt n _ (by omega) hlt) (both_zero_bit n _ (by omega) hlt hb0))
    have HGe := Lib.hid (tabI_get n (distN n (signsN n (letL xs))) x hxn)
    have HLe := Lib.hid (tabI_len n (distN n (signsN n (letL xs))))
    have HP3 := Lib.hid p3
    clear p1 p2 p3 he hlt hb0 HE HT h0 h1 hL
    change Hid (∀ W1, Calls _ _ _ W1 _) at HBo
    obtain ⟨S9, hS9⟩ : ∃ S9, signsN n (letL xs) = S9 := ⟨_, rfl⟩
    have hS8 : bothN n (maskL (letL xs)) = S9 := hS9
    rw [hS9] at HFa HGe HLe HP3
    rw [hS8] at HBo
    clear hS9 hS8
    obtain ⟨M9, hM9⟩ : ∃ M9, maskL (letL xs) = M9 := ⟨_, rfl⟩
    rw [hM9] at HBo HAll
    clear hM9
    generalize distN n S9 = F9 at *
    generalize tabI n F9 = ys at *
    generalize F9 x = z9 at *
    have hz9 := HP3.out
    subst hz9
    have c0 : 0 ≤ (x : Int) := by omega
    have c0n : (x : Int) < (n : Int) := by omega
    go_wp2_with fail
    refine (HI.out _ _ HV.out).mono ?_
    rintro e w2 ⟨rfl, hbw2⟩
    have HV := Lib.hid (HV.out.belowAll hbw2)
    have HB := Lib.hid (HB.out.trans (hbw2.mono HB.out.size))
    clear hbw2
    go_wp2_with fail
    refine (HS.out _ _ HV.out).mono ?_
    rintro e w3 ⟨rfl, hbw3⟩
    have HV := Lib.hid (HV.out.belowAll hbw3)
    have HB := Lib.hid (HB.out.trans (hbw3.mono HB.out.size))
    clear hbw3
    go_wp2_with fail
    refine (HA.out _ _ HV.out).mono ?_
    rintro e w4 ⟨rfl, hbw4⟩
    have HV := Lib.hid (HV.out.belowAll hbw4)
    have HB := Lib.hid (HB.out.trans (hbw4.mono HB.out.size))
    clear hbw4
    go_wp2_with fail
    refine (HX.out _ _ HV.out).mono ?_
    rintro e w5 ⟨rfl, hbw5⟩
    have HV := Lib.hid (HV.out.belowAll hbw5)
    have HB := Lib.hid (HB.out.trans (hbw5.mono HB.out.size))
    clear hbw5
    go_wp2
    go_loopw [14, 15] (fun a u wr => ∃ k : Nat, k ≤ xs.length ∧ a = .int .i64 ((maskTo xs k : Nat) : Int) ∧ u = .int .i64 (k : Int) ∧ Hid (Below w5.heap.size w5 wr)) (fun _ u _ => xs.length - (intOf u).toNat)
    case atStart => exact ⟨0, Nat.zero_le _, rfl, rfl, Lib.hid (Below.refl _ _)⟩
    case' round => obtain ⟨k, hk, rfl, rfl, HBk⟩ := hrel
    case' round => by_cases hlt : k < xs.length
    case' pos =>
      obtain ⟨x, hx, hx11, hw, hwi⟩ := HFit.out k hlt
      have c1 := (HV.out.belowAll HBk.out).cell (i := k) hlt
      rw [hx] at c1
      have x64 : min x 64 = x := by omega
      have x0 : (0 : Int) ≤ (x : Int) := by omega
      clear hx
      obtain ⟨S1, hS1⟩ : ∃ S1, maskTo xs (k + 1) = S1 := ⟨_, rfl⟩
      have HS1 := Lib.hid hS1
      rw [hS1] at hw hwi
      clear hS1
      generalize maskTo xs k = S0 at *
      go_wp2
      go_roundw
      case rel => exact ⟨k + 1, by omega, by rw [HS1.out], by go_num, HBk⟩
      case measure => simp [intOf]; omega
    case' neg => obtain rfl : k = xs.length := by omega
    rw [HAll.out]
    have HB := Lib.hid (HB.out.trans (HBk.out.mono HB.out.size))
    clear hlt HV
    go_wp2_with fail
    refine (HBo.out _).mono ?_
    rintro e w6 ⟨rfl, hb6⟩
    have HB := Lib.hid (HB.out.trans (hb6.mono HB.out.size))
    clear hb6
    go_wp2_with fail
    refine (HFa.out _).mono ?_
    rintro e w7 ⟨g, cp, rfl, hb7, hI7⟩
    have HB := Lib.hid (HB.out.trans (hb7.mono HB.out.size))
    have c9 := hI7.cell (i := x) (by rw [HLe.out]; exact hxn)
    rw [HGe.out] at c9
    clear hb7 hI7 HFit HGe HLe HP3
    go_wp2
    try go_region
    try go_wp2
    go_ret
    exact ⟨rfl, by first | exact HB.out | exact HB.out.drew⟩
end Go.Proofs.YtnlalccnhpblkaaGreat
