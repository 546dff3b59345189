/- Laws of chapter 5 over a list, the program's contracts given: FnRoundWord. -/
import Derived.Test.YtfgolkbafnfblaaDrawZ
import Derived.Test.YtfgolkbafnfblaaRndL
import Derived.Test.YtfgolkbafnfblaaSame
namespace Go.Proofs.Ytfgolkbafnfblaa
open Go.RowKit Go.Shelf
set_option linter.unusedVariables false
set_option maxHeartbeats 1000000 in
theorem lawP_RoundWord (W : World) (B len cap : Nat) (A : Option Addr) (f : Nat → Nat) (hC : Code W B A len f) (hB : B ≤ W.heap.size) (hlc : len ≤ cap) (hcap : cap ≤ 9223372036854775807)
    (hW : ∀ (n b : Nat) (sv : Value) (xs : List Int) (W : World), 1 ≤ n → n ≤ 12 → xs.length ≤ 1000 → IsInts W b sv xs → Calls Try.prog 11 #[.int .i64 (n:Int), sv] W (ListRes W (if isRndB n (butN n) xs then rwordN n xs n else []) (isRndB n (butN n) xs)))
    (hBy : ∀ (n b : Nat) (sv : Value) (xs : List Int) (W : World), 1 ≤ n → n ≤ 12 → xs.length ≤ 1000 → IsInts W b sv xs → Calls Try.prog 25 #[.int .i64 (n:Int), sv] W (ListRes W (byRes n xs) (okByB n xs))) :
    Calls Try.prog 6 #[.slice A len cap] W fun e w' => e = .returned (.bool true) ∧ Below W.heap.size W w' := by
  have HC := Lib.hid (drawRoundWord_any W B len cap A f hC hB hlc hcap)
  clear hC
  by_cases hlen : (1048576 : Int) < (len : Int)
  · go_enter Try.func6, Try.ntmps6
    go_wp2
    go_ret
    exact ⟨rfl, Below.refl _ _⟩
  go_enter Try.func6, Try.ntmps6
  go_wp2_with fail
  refine HC.out.mono ?_
  rintro e w1 ⟨n, sl, xs, rfl, hn1, hn8, hin, hb1, hI1⟩
  have HB := Lib.hid hb1
  have HL := Lib.hid hI1
  have hxl : xs.length ≤ 1000 := Nat.le_trans hin.1 (by decide)
  clear hb1 hB hlc hcap hI1 hin
  have HI := Lib.hid (fun b W (h : IsInts W b sl xs) => hW n b sl xs W hn1 (by omega) hxl h)
  have HS := Lib.hid (fun b W (h : IsInts W b sl xs) => specRoundWord_any n sl xs b W hn1 (by omega) h)
  cases hr : isRndB n (butN n) xs
  · rw [hr] at HI HS
    have e0 : (if false = true then rwordN n xs n else []) = ([] : List Int) := rfl
    rw [e0] at HI HS
    clear hr hW hBy e0
    go_wp2_with fail
    refine (HI.out _ _ HL.out).mono ?_
    rintro e w2 ⟨sa, rfl, hb2, hI2⟩
    have HI2 := Lib.hid hI2
    have HL := Lib.hid (HL.out.belowAll hb2)
    have HB := Lib.hid (HB.out.trans (hb2.mono HB.out.size))
    clear hb2 hI2
    go_wp2_with fail
    refine (HS.out _ _ HL.out).mono ?_
    rintro e w3 ⟨sb, rfl, hb3, hI3⟩
    have HI3 := Lib.hid hI3
    have HI2 := Lib.hid (HI2.out.belowAll hb3)
    have HB := Lib.hid (HB.out.trans (hb3.mono HB.out.size))
    clear hb3 hI3
    go_wp2_with fail
    refine (sameInts_any _ _ [] _ _ _ HI2.out HI3.out).mono ?_
    rintro e w4 ⟨rfl, hb4⟩
    have HI2 := Lib.hid (HI2.out.belowAll hb4)
    have HI3 := Lib.hid (HI3.out.belowAll hb4)
    have HB := Lib.hid (HB.out.trans (hb4.mono HB.out.size))
    clear hb4
    go_wp2_with fail
    refine (sameInts_any _ _ [] _ _ _ HI2.out HI3.out).mono ?_
    rintro e w5 ⟨rfl, hb5⟩
    have HB := Lib.hid (HB.out.trans (hb5.mono HB.out.size))
    clear hb5
    go_wp2
    go_ret
    exact ⟨rfl, HB.out⟩
  · have hrd := isRnd_iff.1 hr
    obtain ⟨hok, hby⟩ := by_word hrd
    have hwl := rword_len n xs n
    rw [hr] at HI HS
    have e0 : (if true = true then rwordN n xs n else []) = rwordN n xs n := rfl
    rw [e0] at HI HS
    have HY := Lib.hid (fun b sv W (h : IsInts W b sv (rwordN n xs n)) => hBy n b sv (rwordN n xs n) W hn1 (by omega) (by omega) h)
    rw [byRes_yes hok, okBy_yes hok, hby] at HY
    have hsum := rat_sum n (rwordN n xs n) n hn1 (fun i hi => by have := (rword_in hrd i hi).1; omega)
    rw [hok.back] at hsum
    have HTot := Lib.hid (fun (sv : Value) W b (h : IsInts W b sv (rwordN n xs n)) => totalL_any sv (rwordN n xs n) W b h (by omega) (fun i hi => by
      rw [hwl] at hi
      have := rword_in hrd i hi
      omega))
    have hsl : sumL (rwordN n xs n) (rwordN n xs n).length % n = 0 := by rw [hwl]; exact hsum
    generalize sumL (rwordN n xs n) (rwordN n xs n).length = S at *
    generalize rwordN n xs n = ys at *
    have t1 : Int.tmod (S : Int) (n : Int) = 0 := by rw [← Int.ofNat_tmod, hsl]; rfl
    have t2 : (S : Int) % (n : Int) = 0 := by rw [← Int.natCast_emod, hsl]; rfl
    have t3 : ((n : Int) = 0) = False := by simp; omega
    have t4 : ((n : Int) == 0) = false := by simp; omega
    clear hr hW hBy e0 hrd hok hby hwl hsum hsl
    go_wp2_with fail
    refine (HI.out _ _ HL.out).mono ?_
    rintro e w2 ⟨sa, rfl, hb2, hI2⟩
    have HI2 := Lib.hid hI2
    have HL := Lib.hid (HL.out.belowAll hb2)
    have HB := Lib.hid (HB.out.trans (hb2.mono HB.out.size))
    clear hb2 hI2
    go_wp2_with fail
    refine (HS.out _ _ HL.out).mono ?_
    rintro e w3 ⟨sb, rfl, hb3, hI3⟩
    have HI3 := Lib.hid hI3
    have HI2 := Lib.hid (HI2.out.belowAll hb3)
    have HL := Lib.hid (HL.out.belowAll hb3)
    have HB := Lib.hid (HB.out.trans (hb3.mono HB.out.size))
    clear hb3 hI3
    go_wp2_with fail
    refine (sameInts_any _ _ ys _ _ _ HI2.out HI3.out).mono ?_
    rintro e w4 ⟨rfl, hb4⟩
    have HI2 := Lib.hid (HI2.out.belowAll hb4)
    have HL := Lib.hid (HL.out.belowAll hb4)
    have HB := Lib.hid (HB.out.trans (hb4.mono HB.out.size))
    clear hb4 HI3
    go_wp2_with fail
    refine (HY.out _ _ _ HI2.out).mono ?_
    rintro e w5 ⟨sx, rfl, hb5, hI5⟩
    have HI5 := Lib.hid hI5
    have HI2 := Lib.hid (HI2.out.belowAll hb5)
    have HL := Lib.hid (HL.out.belowAll hb5)
    have HB := Lib.hid (HB.out.trans (hb5.mono HB.out.size))
    clear hb5 hI5
    go_wp2_with fail
    refine (sameInts_any _ _ xs _ _ _ HI5.out HL.out).mono ?_
    rintro e w6 ⟨rfl, hb6⟩
    have HI2 := Lib.hid (HI2.out.belowAll hb6)
    have HB := Lib.hid (HB.out.trans (hb6.mono HB.out.size))
    clear hb6
    go_wp2_with fail
    refine (HTot.out _ _ _ HI2.out).mono ?_
    rintro e w7 ⟨rfl, rfl⟩
    go_wp2
    go_ret
    exact ⟨rfl, HB.out⟩
end Go.Proofs.Ytfgolkbafnfblaa
