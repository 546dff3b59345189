/- FnExactWordLaws over given contracts of the program. Written by gen116.py. -/
import Derived.Test.YtgcfgegbbfbaaaaWrdU
import Derived.Test.YtgcfgegbbfbaaaaWrdR
namespace Go.Proofs.Ytgcfgegbbfbaaaa
open Go.RowKit Go.Shelf
set_option linter.unusedVariables false
/-- The laws as texts. -/
def lawsO (n : Nat) (xs : List Int) (k : Nat) : List ByteArray := (lawsN n (letL xs) k).map fun cs => toB (textC 0 cs)
def NoWordLaws : Prop := ∀ (n : Int) (lv : Value) (xs : List Int) (k : Int) (b : Nat) (W : World), ¬ (LetIn n xs ∧ 1 ≤ k ∧ k ≤ 6) → xs.length ≤ 2000000 → IsInts W b lv xs → Calls Try.prog 20 #[.int .i64 n, lv, .int .i64 k] W (StrsRes W [] false)
def YesWordLaws : Prop := ∀ (n k : Nat) (lv : Value) (xs : List Int) (b : Nat) (W : World), LetIn (n : Int) xs → 1 ≤ k → k ≤ 6 → IsInts W b lv xs → Calls Try.prog 20 #[.int .i64 (n:Int), lv, .int .i64 (k:Int)] W (StrsRes W (lawsO n xs k) true)
theorem lex_len (m k : Nat) (hm : m ≤ 3) (hk : k ≤ 6) : (lexC m k).length ≤ 100000 := by
  have h : ∀ m' : Fin 4, ∀ k' : Fin 7, (lexC m'.val k'.val).length ≤ 100000 := by decide +kernel
  exact h ⟨m, by omega⟩ ⟨k, by omega⟩
theorem lawsO_len (n : Nat) (xs : List Int) (k : Nat) (h3 : xs.length ≤ 3) (hk : k ≤ 6) : (lawsO n xs k).length ≤ 100000 := by
  unfold lawsO lawsN
  rw [List.length_map]
  exact Nat.le_trans (List.length_filter_le _ _) (lex_len _ k (by rw [let_len]; exact h3) hk)
set_option maxHeartbeats 1000000 in
theorem lawL_WordLaws (a0 aK : Int) (W : World) (B len cap : Nat) (A : Option Addr) (z : Nat → Int) (hC : Came W B A len z) (hB : B ≤ W.heap.size) (hlc : len ≤ cap) (hcap : cap ≤ 9223372036854775807) (ys : List ByteArray) (q : Bool) (hyl : ys.length ≤ 100000)
    (hS : len ≤ 1048576 → ∀ sv W b, IsInts W b sv (tabI len z) → Calls Try.prog 19 #[.int .i64 a0, sv, .int .i64 aK] W (StrsRes W ys q))
    (hI : len ≤ 1048576 → ∀ sv W b, IsInts W b sv (tabI len z) → Calls Try.prog 20 #[.int .i64 a0, sv, .int .i64 aK] W (StrsRes W ys q)) :
    Calls Try.prog 7 #[.int .i64 a0, .slice A len cap, .int .i64 aK] W fun e w' => e = .returned (.bool true) ∧ Below W.heap.size W w' := by
  by_cases hlen : (1048576 : Int) < (len : Int)
  · go_enter Try.func7, Try.ntmps7
    go_wp2
    go_ret
    exact ⟨rfl, Below.refl _ _⟩
  have hl : len ≤ 1048576 := by omega
  have HT := Lib.hid (fun w (h : Below W.heap.size W w) => toInts_any W w B len cap A z (hC.below (h.mono hB)) (Nat.le_trans hB h.size) hl)
  have HS := Lib.hid (hS hl)
  have HI := Lib.hid (hI hl)
  have HB := Lib.hid (Below.refl W.heap.size W)
  have HLen := Lib.hid (tabI_len len z)
  have HYl : Hid (ys.length ≤ 2000000) := Lib.hid (Nat.le_trans hyl (by decide))
  clear hC hS hI
  cases q
  all_goals
    go_enter Try.func7, Try.ntmps7
    go_wp2_with fail
    refine (HT.out _ HB.out).mono ?_
    rintro e w1 ⟨s1, rfl, hb1, hI1⟩
    have HB := Lib.hid (HB.out.trans (hb1.mono HB.out.size))
    have HS1 := Lib.hid hI1
    clear hI1
    clear hb1
    have z1 := HB.out.size
    go_wp2_with fail
    refine (HS.out _ _ _ HS1.out).mono ?_
    rintro e w2 ⟨r1, rfl, hb2, hI2⟩
    have HB := Lib.hid (HB.out.trans (hb2.mono HB.out.size))
    have HR := Lib.hid hI2
    have HRl := Lib.hid (fun k (e : r1.ownBlock = some k) => (World.ownsRow.lt HR.out k e).2)
    clear hI2 HS1
    clear hb2
    have z2 := HB.out.size
    go_wp2_with fail
    refine (HT.out _ HB.out).mono ?_
    rintro e w3 ⟨x1, rfl, hb3, hI3⟩
    have HB := Lib.hid (HB.out.trans (hb3.mono HB.out.size))
    have HR := Lib.hid (strs_belowAll HR.out hb3)
    have HX := Lib.hid hI3
    have z3 := hb3.size
    have HXl := Lib.hid (fun k (e : x1.ownBlock = some k) => (World.ownsRow.lt HX.out k e).2)
    have HXg := Lib.hid (fun k (e : x1.ownBlock = some k) => (World.ownsRow.lt HX.out k e).1)
    clear hI3
    clear hb3
    go_wp2_with fail
    refine (HI.out _ _ _ HX.out).mono ?_
    rintro e w4 ⟨g0, rfl, hb4, hI4⟩
    have HB := Lib.hid (HB.out.trans (hb4.mono HB.out.size))
    have HR := Lib.hid (strs_belowAll HR.out hb4)
    have HX := Lib.hid (HX.out.belowAll hb4)
    have HG := Lib.hid hI4
    have HGg := Lib.hid (fun k (e : g0.ownBlock = some k) => (World.ownsRow.lt HG.out k e).1)
    clear hI4
    clear hb4
    go_wp2_with fail
    refine (eqStrs_any _ _ ys _ _ _ HG.out HR.out).mono ?_
    rintro e w5 ⟨rfl, hb5⟩
    have HB := Lib.hid (HB.out.trans (hb5.mono HB.out.size))
    have HR := Lib.hid (strs_belowAll HR.out hb5)
    have HX := Lib.hid (HX.out.belowAll hb5)
    have HG := Lib.hid (strs_belowAll HG.out hb5)
    clear hb5
    go_wp2_with fail
    refine (HT.out _ HB.out).mono ?_
    rintro e w6 ⟨s2, rfl, hb6, hI6⟩
    have HB := Lib.hid (HB.out.trans (hb6.mono HB.out.size))
    have HR := Lib.hid (strs_belowAll HR.out hb6)
    have HX := Lib.hid (HX.out.belowAll hb6)
    have HG := Lib.hid (strs_belowAll HG.out hb6)
    have HS2 := Lib.hid hI6
    clear hI6
    clear hb6
    go_wp2_with fail
    refine (eqInts_any _ _ (tabI len z) _ _ _ HX.out HS2.out).mono ?_
    rintro e w7 ⟨rfl, hb7⟩
    have HB := Lib.hid (HB.out.trans (hb7.mono HB.out.size))
    have HR := Lib.hid (strs_belowAll HR.out hb7)
    have HX := Lib.hid (HX.out.belowAll hb7)
    have HG := Lib.hid (strs_belowAll HG.out hb7)
    clear HS2
    clear hb7
    go_wp2_with fail
    refine (markInts_any _ (tabI len z) _ _ 1 HX.out (by decide) (by decide) (by rw [tabI_len]; exact Nat.le_trans hl (by decide))).mono ?_
    rintro e w8 ⟨rfl, _, hg8⟩
    have HR := Lib.hid (show IsStrs w8 w1.heap.size r1 ys from World.ownsRow.kept HR.out hg8 (apart_lt HRl.out HXg.out))
    have HG := Lib.hid (show IsStrs w8 w3.heap.size g0 ys from World.ownsRow.kept HG.out hg8 (apart_gt HGg.out HXl.out))
    have HB := Lib.hid (HB.out.grown hg8 HB.out.size (fun k e => Nat.le_trans z2 (HXg.out k e)))
    clear hg8 HX
    rw [HLen.out]
    go_wp2_with fail
    refine (eqStrs_any _ _ ys _ _ _ HG.out HR.out).mono ?_
    rintro e w9 ⟨rfl, hb9⟩
    have HB := Lib.hid (HB.out.trans (hb9.mono HB.out.size))
    have HR := Lib.hid (strs_belowAll HR.out hb9)
    have HG := Lib.hid (strs_belowAll HG.out hb9)
    clear hb9
    go_wp2_with fail
    refine (markStrs_any _ ys _ _ 1 HG.out (by decide) (by decide) HYl.out).mono ?_
    rintro e w10 ⟨rfl, hI10, hg10⟩
    have HM := Lib.hid hI10
    have HR := Lib.hid (show IsStrs w10 w1.heap.size r1 ys from World.ownsRow.kept HR.out hg10 (apart_lt (fun k e => Nat.lt_of_lt_of_le (HRl.out k e) z3) HGg.out))
    have HB := Lib.hid (HB.out.grown hg10 HB.out.size (fun k e => Nat.le_trans (Nat.le_trans z2 z3) (HGg.out k e)))
    clear hg10 hI10 HG
    go_wp2_with fail
    refine (heldStrs_any _ ys.length _ _ 1 HM.out (by decide) (by decide) HYl.out).mono ?_
    rintro e w11 ⟨rfl, hb11⟩
    have HB := Lib.hid (HB.out.trans (hb11.mono HB.out.size))
    have HR := Lib.hid (strs_belowAll HR.out hb11)
    have HM := Lib.hid (strs_belowAll HM.out hb11)
    clear hb11
    go_wp2_with fail
    refine (HT.out _ HB.out).mono ?_
    rintro e w12 ⟨s3, rfl, hb12, hI12⟩
    have HB := Lib.hid (HB.out.trans (hb12.mono HB.out.size))
    have HR := Lib.hid (strs_belowAll HR.out hb12)
    have HM := Lib.hid (strs_belowAll HM.out hb12)
    have HS3 := Lib.hid hI12
    clear hI12
    clear hb12
    go_wp2_with fail
    refine (HI.out _ _ _ HS3.out).mono ?_
    rintro e w13 ⟨h0, rfl, hb13, hI13⟩
    have HB := Lib.hid (HB.out.trans (hb13.mono HB.out.size))
    have HR := Lib.hid (strs_belowAll HR.out hb13)
    have HM := Lib.hid (strs_belowAll HM.out hb13)
    have HH := Lib.hid hI13
    clear hI13 HS3
    clear hb13
    go_wp2_with fail
    refine (eqStrs_any _ _ ys _ _ _ HH.out HR.out).mono ?_
    rintro e w14 ⟨rfl, hb14⟩
    have HB := Lib.hid (HB.out.trans (hb14.mono HB.out.size))
    have HM := Lib.hid (strs_belowAll HM.out hb14)
    clear hb14
    go_wp2_with fail
    refine (heldStrs_any _ ys.length _ _ 1 HM.out (by decide) (by decide) HYl.out).mono ?_
    rintro e w15 ⟨rfl, hb15⟩
    have HB := Lib.hid (HB.out.trans (hb15.mono HB.out.size))
    clear hb15
    go_wp2
    go_ret
    exact ⟨rfl, HB.out⟩
theorem lawE_WordLaws (a0 aK : Int) (W : World) (B len cap : Nat) (A : Option Addr) (z : Nat → Int) (hC : Came W B A len z) (hB : B ≤ W.heap.size) (hlc : len ≤ cap) (hcap : cap ≤ 9223372036854775807) (hN : NoWordLaws) (hY : YesWordLaws) :
    Calls Try.prog 7 #[.int .i64 a0, .slice A len cap, .int .i64 aK] W fun e w' => e = .returned (.bool true) ∧ Below W.heap.size W w' := by
  by_cases h : LetIn a0 (tabI len z) ∧ 1 ≤ aK ∧ aK ≤ 6
  · have hn := h.1.1
    have hk := h.2
    obtain ⟨m, rfl⟩ : ∃ m : Nat, a0 = (m : Int) := ⟨a0.toNat, by omega⟩
    obtain ⟨k, rfl⟩ : ∃ k : Nat, aK = (k : Int) := ⟨aK.toNat, by omega⟩
    exact lawL_WordLaws (m : Int) (k : Int) W B len cap A z hC hB hlc hcap (lawsO m (tabI len z) k) true (lawsO_len m _ k h.1.2.2.1 (by omega)) (fun _ sv W b hI => specWordLaws_yes m k sv _ b W hI h.1 (by omega) (by omega)) (fun _ sv W b hI => hY m k sv _ b W h.1 (by omega) (by omega) hI)
  · exact lawL_WordLaws a0 aK W B len cap A z hC hB hlc hcap [] false (by decide) (fun hl sv W b hI => specWordLaws_no a0 sv _ aK b W (by rw [tabI_len]; omega) hI h) (fun hl sv W b hI => hN a0 sv _ aK b W h (by rw [tabI_len]; omega) hI)
end Go.Proofs.Ytgcfgegbbfbaaaa
