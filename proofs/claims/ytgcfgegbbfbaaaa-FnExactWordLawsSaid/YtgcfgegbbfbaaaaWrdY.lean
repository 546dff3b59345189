/- FnExactWordFar over given contracts of the program. Written by gen107.py. -/
import Derived.Test.YtgcfgegbbfbaaaaWrdX
namespace Go.Proofs.Ytgcfgegbbfbaaaa
open Go.RowKit Go.Shelf
set_option linter.unusedVariables false
def NoWordFar : Prop := ∀ (n : Int) (lv : Value) (xs : List Int) (b : Nat) (W : World), ¬ LetIn n xs → xs.length ≤ 2000000 → IsInts W b lv xs → Calls Try.prog 26 #[.int .i64 n, lv] W (ListRes W [] false)
def YesWordFar : Prop := ∀ (n : Nat) (lv : Value) (xs : List Int) (b : Nat) (W : World), LetIn (n : Int) xs → IsInts W b lv xs → Calls Try.prog 26 #[.int .i64 (n:Int), lv] W (ListRes W (tabI n (farV n (letL xs))) true)
set_option maxHeartbeats 1000000 in
theorem lawL_WordFar (a0 : Int) (W : World) (B len cap : Nat) (A : Option Addr) (z : Nat → Int) (hC : Came W B A len z) (hB : B ≤ W.heap.size) (hlc : len ≤ cap) (hcap : cap ≤ 9223372036854775807) (ys : List Int) (q : Bool) (hyl : ys.length ≤ 1000)
    (hS : len ≤ 1048576 → ∀ sv W b, IsInts W b sv (tabI len z) → Calls Try.prog 25 #[.int .i64 a0, sv] W (ListRes W ys q))
    (hI : len ≤ 1048576 → ∀ sv W b, IsInts W b sv (tabI len z) → Calls Try.prog 26 #[.int .i64 a0, sv] W (ListRes W ys q)) :
    Calls Try.prog 8 #[.int .i64 a0, .slice A len cap] W fun e w' => e = .returned (.bool true) ∧ Below W.heap.size W w' := by
  by_cases hlen : (1048576 : Int) < (len : Int)
  · go_enter Try.func8, Try.ntmps8
    go_wp2
    go_ret
    exact ⟨rfl, Below.refl _ _⟩
  have hl : len ≤ 1048576 := by omega
  have HT := Lib.hid (fun w (h : Below W.heap.size W w) => toInts_any W w B len cap A z (hC.below (h.mono hB)) (Nat.le_trans hB h.size) hl)
  have HS := Lib.hid (hS hl)
  have HI := Lib.hid (hI hl)
  have HB := Lib.hid (Below.refl W.heap.size W)
  have HLen := Lib.hid (tabI_len len z)
  have HYl : Hid (ys.length ≤ 4000000) := Lib.hid (Nat.le_trans hyl (by decide))
  clear hC hS hI
  cases q
  all_goals
    go_enter Try.func8, Try.ntmps8
    go_wp2_with fail
    refine (HT.out _ HB.out).mono ?_
    rintro e w1 ⟨s1, rfl, hb1, hI1⟩
    have HB := Lib.hid (HB.out.trans (hb1.mono HB.out.size))
    have HS1 := Lib.hid hI1
    clear hI1
    clear hb1
    have z1 := HB.out.size
    go_wp2_with fail
    refine (HS.out _ _ _ HS1.out).mono ?_
    rintro e w2 ⟨r1, rfl, hb2, hI2⟩
    have HB := Lib.hid (HB.out.trans (hb2.mono HB.out.size))
    have HR := Lib.hid hI2
    have HRl := Lib.hid (fun k (e : r1.ownBlock = some k) => (World.ownsRow.lt HR.out k e).2)
    clear hI2 HS1
    clear hb2
    have z2 := HB.out.size
    go_wp2_with fail
    refine (HT.out _ HB.out).mono ?_
    rintro e w3 ⟨x1, rfl, hb3, hI3⟩
    have HB := Lib.hid (HB.out.trans (hb3.mono HB.out.size))
    have HR := Lib.hid (HR.out.belowAll hb3)
    have HX := Lib.hid hI3
    have z3 := hb3.size
    have HXl := Lib.hid (fun k (e : x1.ownBlock = some k) => (World.ownsRow.lt HX.out k e).2)
    have HXg := Lib.hid (fun k (e : x1.ownBlock = some k) => (World.ownsRow.lt HX.out k e).1)
    clear hI3
    clear hb3
    go_wp2_with fail
    refine (HI.out _ _ _ HX.out).mono ?_
    rintro e w4 ⟨g0, rfl, hb4, hI4⟩
    have HB := Lib.hid (HB.out.trans (hb4.mono HB.out.size))
    have HR := Lib.hid (HR.out.belowAll hb4)
    have HX := Lib.hid (HX.out.belowAll hb4)
    have HG := Lib.hid hI4
    have HGg := Lib.hid (fun k (e : g0.ownBlock = some k) => (World.ownsRow.lt HG.out k e).1)
    clear hI4
    clear hb4
    go_wp2_with fail
    refine (eqInts_any _ _ ys _ _ _ HG.out HR.out).mono ?_
    rintro e w5 ⟨rfl, hb5⟩
    have HB := Lib.hid (HB.out.trans (hb5.mono HB.out.size))
    have HR := Lib.hid (HR.out.belowAll hb5)
    have HX := Lib.hid (HX.out.belowAll hb5)
    have HG := Lib.hid (HG.out.belowAll hb5)
    clear hb5
    go_wp2_with fail
    refine (HT.out _ HB.out).mono ?_
    rintro e w6 ⟨s2, rfl, hb6, hI6⟩
    have HB := Lib.hid (HB.out.trans (hb6.mono HB.out.size))
    have HR := Lib.hid (HR.out.belowAll hb6)
    have HX := Lib.hid (HX.out.belowAll hb6)
    have HG := Lib.hid (HG.out.belowAll hb6)
    have HS2 := Lib.hid hI6
    clear hI6
    clear hb6
    go_wp2_with fail
    refine (eqInts_any _ _ (tabI len z) _ _ _ HX.out HS2.out).mono ?_
    rintro e w7 ⟨rfl, hb7⟩
    have HB := Lib.hid (HB.out.trans (hb7.mono HB.out.size))
    have HR := Lib.hid (HR.out.belowAll hb7)
    have HX := Lib.hid (HX.out.belowAll hb7)
    have HG := Lib.hid (HG.out.belowAll hb7)
    clear HS2
    clear hb7
    go_wp2_with fail
    refine (markInts_any _ (tabI len z) _ _ 1 HX.out (by decide) (by decide) (by rw [tabI_len]; exact Nat.le_trans hl (by decide))).mono ?_
    rintro e w8 ⟨rfl, _, hg8⟩
    have HR := Lib.hid (show IsInts w8 w1.heap.size r1 ys from World.ownsRow.kept HR.out hg8 (apart_lt HRl.out HXg.out))
    have HG := Lib.hid (show IsInts w8 w3.heap.size g0 ys from World.ownsRow.kept HG.out hg8 (apart_gt HGg.out HXl.out))
    have HB := Lib.hid (HB.out.grown hg8 HB.out.size (fun k e => Nat.le_trans z2 (HXg.out k e)))
    clear hg8 HX
    rw [HLen.out]
    go_wp2_with fail
    refine (eqInts_any _ _ ys _ _ _ HG.out HR.out).mono ?_
    rintro e w9 ⟨rfl, hb9⟩
    have HB := Lib.hid (HB.out.trans (hb9.mono HB.out.size))
    have HR := Lib.hid (HR.out.belowAll hb9)
    have HG := Lib.hid (HG.out.belowAll hb9)
    clear hb9
    go_wp2_with fail
    refine (markInts_any _ ys _ _ 1 HG.out (by decide) (by decide) HYl.out).mono ?_
    rintro e w10 ⟨rfl, hI10, hg10⟩
    have HM := Lib.hid hI10
    have HR := Lib.hid (show IsInts w10 w1.heap.size r1 ys from World.ownsRow.kept HR.out hg10 (apart_lt (fun k e => Nat.lt_of_lt_of_le (HRl.out k e) z3) HGg.out))
    have HB := Lib.hid (HB.out.grown hg10 HB.out.size (fun k e => Nat.le_trans (Nat.le_trans z2 z3) (HGg.out k e)))
    clear hg10 hI10 HG
    go_wp2_with fail
    refine (heldInts_any _ ys.length _ _ 1 HM.out (by decide) (by decide) HYl.out).mono ?_
    rintro e w11 ⟨rfl, rfl⟩
    go_wp2_with fail
    refine (HT.out _ HB.out).mono ?_
    rintro e w12 ⟨s3, rfl, hb12, hI12⟩
    have HB := Lib.hid (HB.out.trans (hb12.mono HB.out.size))
    have HR := Lib.hid (HR.out.belowAll hb12)
    have HM := Lib.hid (HM.out.belowAll hb12)
    have HS3 := Lib.hid hI12
    clear hI12
    clear hb12
    go_wp2_with fail
    refine (HI.out _ _ _ HS3.out).mono ?_
    rintro e w13 ⟨h0, rfl, hb13, hI13⟩
    have HB := Lib.hid (HB.out.trans (hb13.mono HB.out.size))
    have HR := Lib.hid (HR.out.belowAll hb13)
    have HM := Lib.hid (HM.out.belowAll hb13)
    have HH := Lib.hid hI13
    clear hI13 HS3
    clear hb13
    go_wp2_with fail
    refine (eqInts_any _ _ ys _ _ _ HH.out HR.out).mono ?_
    rintro e w14 ⟨rfl, hb14⟩
    have HB := Lib.hid (HB.out.trans (hb14.mono HB.out.size))
    have HM := Lib.hid (HM.out.belowAll hb14)
    clear hb14
    go_wp2_with fail
    refine (heldInts_any _ ys.length _ _ 1 HM.out (by decide) (by decide) HYl.out).mono ?_
    rintro e w15 ⟨rfl, rfl⟩
    go_wp2
    go_ret
    exact ⟨rfl, HB.out⟩
theorem lawE_WordFar (a0 : Int) (W : World) (B len cap : Nat) (A : Option Addr) (z : Nat → Int) (hC : Came W B A len z) (hB : B ≤ W.heap.size) (hlc : len ≤ cap) (hcap : cap ≤ 9223372036854775807) (hN : NoWordFar) (hY : YesWordFar) :
    Calls Try.prog 8 #[.int .i64 a0, .slice A len cap] W fun e w' => e = .returned (.bool true) ∧ Below W.heap.size W w' := by
  by_cases h : LetIn a0 (tabI len z)
  · have hn := h.1
    obtain ⟨m, rfl⟩ : ∃ m : Nat, a0 = (m : Int) := ⟨a0.toNat, by omega⟩
    exact lawL_WordFar (m : Int) W B len cap A z hC hB hlc hcap (tabI m (farV m (letL (tabI len z)))) true (by rw [tabI_len]; omega) (fun _ sv W b hI => specWordFar_yes m sv _ b W hI h) (fun _ sv W b hI => hY m sv _ b W h hI)
  · exact lawL_WordFar a0 W B len cap A z hC hB hlc hcap [] false (by decide) (fun hl sv W b hI => specWordFar_no a0 sv _ b W (by rw [tabI_len]; omega) hI h) (fun hl sv W b hI => hN a0 sv _ b W h (by rw [tabI_len]; omega) hI)
end Go.Proofs.Ytgcfgegbbfbaaaa
