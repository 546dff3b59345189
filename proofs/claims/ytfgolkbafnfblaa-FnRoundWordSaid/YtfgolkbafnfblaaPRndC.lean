/- Laws of chapter 5 over a list, the program's contracts given: FnRound. -/
import Derived.Test.YtfgolkbafnfblaaDrawX
import Derived.Test.YtfgolkbafnfblaaRndL
import Derived.Test.YtfgolkbafnfblaaRndD
import Derived.Test.YtfgolkbafnfblaaStepWA
namespace Go.Proofs.Ytfgolkbafnfblaa
open Go.RowKit Go.Shelf
set_option linter.unusedVariables false
set_option maxHeartbeats 1000000 in
theorem lawP_Round (W : World) (B len cap : Nat) (A : Option Addr) (f : Nat → Nat) (hC : Code W B A len f) (hB : B ≤ W.heap.size) (hlc : len ≤ cap) (hcap : cap ≤ 9223372036854775807)
    (hIsNo : ∀ (n s : Int) (b : Nat) (sv : Value) (xs : List Int) (W : World), NoStep n s → IsInts W b sv xs → Calls Try.prog 9 #[.int .i64 n, .int .i64 s, sv] W fun e w' => e = .returned (.bool false) ∧ Below W.heap.size W w')
    (hIs : ∀ (n s b : Nat) (sv : Value) (xs : List Int) (W : World), 1 ≤ n → n ≤ 12 → s < 2 ^ n → s.testBit 0 = false → xs.length ≤ 1000 → IsInts W b sv xs → Calls Try.prog 9 #[.int .i64 (n:Int), .int .i64 (s:Int), sv] W fun e w' => e = .returned (.bool (isRndB n s xs)) ∧ Below W.heap.size W w')
    (hW : ∀ (n b : Nat) (sv : Value) (xs : List Int) (W : World), 1 ≤ n → n ≤ 12 → xs.length ≤ 1000 → IsInts W b sv xs → Calls Try.prog 11 #[.int .i64 (n:Int), sv] W (ListRes W (if isRndB n (butN n) xs then rwordN n xs n else []) (isRndB n (butN n) xs))) :
    Calls Try.prog 3 #[.slice A len cap] W fun e w' => e = .returned (.bool true) ∧ Below W.heap.size W w' := by
  have HC := Lib.hid (drawRoundIs_any W B len cap A f hC hB hlc hcap)
  clear hC
  by_cases hlen : (1048576 : Int) < (len : Int)
  · go_enter Try.func3, Try.ntmps3
    go_wp2
    go_ret
    exact ⟨rfl, Below.refl _ _⟩
  go_enter Try.func3, Try.ntmps3
  go_wp2_with fail
  refine HC.out.mono ?_
  rintro e w1 ⟨n, s, sl, xs, rfl, hn1, hn8, hs, hin, hb1, hI1⟩
  have HB := Lib.hid hb1
  have HL := Lib.hid hI1
  have hxl : xs.length ≤ 1000 := Nat.le_trans hin.1 (by decide)
  clear hb1 hB hlc hcap hI1 hin
  by_cases hno : NoStep (n : Int) (s : Int)
  · have HI := Lib.hid (fun b W (h : IsInts W b sl xs) => hIsNo n s b sl xs W hno h)
    have HS := Lib.hid (fun W => specRoundIs_no n s sl W hno)
    clear hno hIsNo hIs hW
    go_wp2_with fail
    refine (HI.out _ _ HL.out).mono ?_
    rintro e w2 ⟨rfl, hb2⟩
    have HB := Lib.hid (HB.out.trans (hb2.mono HB.out.size))
    clear hb2
    go_wp2_with fail
    refine (HS.out _).mono ?_
    rintro e w3 ⟨rfl, rfl⟩
    go_wp2
    go_ret
    exact ⟨rfl, HB.out⟩
  have h4 : s.testBit 0 = false := by
    obtain ⟨n', s', hn', hs', _, _, _, h4⟩ := not_noStep hno
    obtain rfl : s = s' := by omega
    exact h4
  have HI := Lib.hid (fun b W (h : IsInts W b sl xs) => hIs n s b sl xs W hn1 (by omega) hs h4 hxl h)
  have HS := Lib.hid (fun b W (h : IsInts W b sl xs) => specRoundIs_yes n s sl xs b W hn1 (by omega) hs h4 h)
  cases hr : isRndB n s xs
  · rw [hr] at HI HS
    clear hno hIsNo hIs hW hr
    go_wp2_with fail
    refine (HI.out _ _ HL.out).mono ?_
    rintro e w2 ⟨rfl, hb2⟩
    have HB := Lib.hid (HB.out.trans (hb2.mono HB.out.size))
    have HL := Lib.hid (HL.out.belowAll hb2)
    clear hb2
    go_wp2_with fail
    refine (HS.out _ _ HL.out).mono ?_
    rintro e w3 ⟨rfl, hb3⟩
    have HB := Lib.hid (HB.out.trans (hb3.mono HB.out.size))
    clear hb3
    go_wp2
    go_ret
    exact ⟨rfl, HB.out⟩
  · have hrd := isRnd_iff.1 hr
    have hbut := rnd_but hrd hs h4
    have HWd := Lib.hid (fun b W (h : IsInts W b sl xs) => hW n b sl xs W hn1 (by omega) hxl h)
    rw [isRnd_yes hbut] at HWd
    have e0 : (if true = true then rwordN n xs n else []) = rwordN n xs n := rfl
    rw [e0] at HWd
    have HBo := Lib.hid (fun W => implStepBoth_yes n s W hn1 (by omega) hs h4)
    have hbl := bothN_lt n s hn1 hs
    have hb0 := both_zero_bit n s hn1 hs h4
    have HX := Lib.hid (fun b W (h : IsInts W b sl xs) => hIs n (bothN n s) b sl xs W hn1 (by omega) hbl hb0 hxl h)
    rw [isRnd_yes (rnd_both hrd hn1 hs)] at HX
    rw [hr] at HI HS
    have hwl := rword_len n xs n
    have HSt := Lib.hid (fun i (hi : i < n) => rword_step hrd i hi)
    have hs40 : s < 2 ^ 40 := Nat.lt_of_lt_of_le hs (Nat.pow_le_pow_right (by omega) (by omega))
    generalize rwordN n xs n = ys at *
    generalize bothN n s = b9 at *
    clear hno hIsNo hIs hW hr hrd hbut e0 hbl hb0
    go_wp2_with fail
    refine (HI.out _ _ HL.out).mono ?_
    rintro e w2 ⟨rfl, hb2⟩
    have HB := Lib.hid (HB.out.trans (hb2.mono HB.out.size))
    have HL := Lib.hid (HL.out.belowAll hb2)
    clear hb2
    go_wp2_with fail
    refine (HS.out _ _ HL.out).mono ?_
    rintro e w3 ⟨rfl, hb3⟩
    have HB := Lib.hid (HB.out.trans (hb3.mono HB.out.size))
    have HL := Lib.hid (HL.out.belowAll hb3)
    clear hb3
    go_wp2_with fail
    refine (HWd.out _ _ HL.out).mono ?_
    rintro e w4 ⟨sa, rfl, hb4, hI4⟩
    have HB := Lib.hid (HB.out.trans (hb4.mono HB.out.size))
    have HL := Lib.hid (HL.out.belowAll hb4)
    have HY := Lib.hid hI4
    clear hb4 hI4
    go_wp2_with fail
    refine (HBo.out _).mono ?_
    rintro e w5 ⟨rfl, hb5⟩
    have HB := Lib.hid (HB.out.trans (hb5.mono HB.out.size))
    have HL := Lib.hid (HL.out.belowAll hb5)
    have HY := Lib.hid (HY.out.belowAll hb5)
    clear hb5
    rcases HY.out.shape with ⟨_, e9⟩ | ⟨g, cp, hsa, hg1, hg2, hg3⟩
    · rw [e9] at hwl; simp at hwl; omega
    rw [hwl] at hsa
    subst hsa
    go_wp2
    go_loop [12] (fun u => ∃ i : Nat, i ≤ n ∧ u = .int .i64 (i : Int)) (fun u => n - (intOf u).toNat)
    case atStart => exact ⟨0, Nat.zero_le _, rfl⟩
    case round =>
      obtain ⟨i, hi, rfl⟩ := hrel
      by_cases hlt : i < n
      · have ci := HY.out.cell (i := i) (by rw [hwl]; exact hlt)
        obtain ⟨r, hr, e, hbit⟩ := HSt.out i hlt
        rw [e] at ci
        have hbt := has_nat0 s r hs40
        rw [hbit] at hbt
        have hr64 : min r 64 = r := by omega
        have i1 : (0 : Int) ≤ (i : Int) := by omega
        have i2 : (i : Int) < (n : Int) := by omega
        clear e hbit
        go_wp2
        go_round
        case rel => exact ⟨i + 1, by omega, by go_num⟩
        case measure => simp [intOf]; omega
      · obtain rfl : i = n := by omega
        go_wp2_with (go_at_call 9; refine (HX.out _ _ HL.out).mono ?_; rintro e w6 ⟨rfl, hb6⟩)
        have HB := Lib.hid (HB.out.trans (hb6.mono HB.out.size))
        clear hb6
        go_ret
        exact ⟨rfl, HB.out⟩
end Go.Proofs.Ytfgolkbafnfblaa
