/- Exact laws of chapter 5 over a list that came in: the program's contracts given. -/
import Derived.Test.YtkpjklgooneklaaRndG
import Derived.Test.YtkpjklgooneklaaRndD
import Derived.Test.YtkpjklgooneklaaRndE
import Derived.Test.YtkpjklgooneklaaToInts
namespace Go.Proofs.Ytkpjklgooneklaa
open Go.RowKit Go.Shelf
set_option linter.unusedVariables false
theorem lawL_RoundIs (a0 a1 : Int) (W : World) (B len cap : Nat) (A : Option Addr) (z : Nat → Int) (hC : Came W B A len z) (hB : B ≤ W.heap.size) (hlc : len ≤ cap) (hcap : cap ≤ 9223372036854775807) (q : Bool)
    (hS : ∀ sv W b, IsInts W b sv (tabI len z) → Calls Try.prog 8 #[.int .i64 a0, .int .i64 a1, sv] W fun e w' => e = .returned (.bool q) ∧ Below W.heap.size W w')
    (hI : ∀ sv W b, IsInts W b sv (tabI len z) → Calls Try.prog 10 #[.int .i64 a0, .int .i64 a1, sv] W fun e w' => e = .returned (.bool q) ∧ Below W.heap.size W w') :
    Calls Try.prog 3 #[.int .i64 a0, .int .i64 a1, .slice A len cap] W fun e w' => e = .returned (.bool true) ∧ Below W.heap.size W w' := by
  by_cases hlen : (1048576 : Int) < (len : Int)
  · go_enter Try.func3, Try.ntmps3
    go_wp2
    go_ret
    exact ⟨rfl, Below.refl _ _⟩
  have hl : len ≤ 1048576 := by omega
  have HT := Lib.hid (fun w (h : Below W.heap.size W w) => toInts_any W w B len cap A z (hC.below (h.mono hB)) (Nat.le_trans hB h.size) hl)
  have HS := Lib.hid hS
  have HI := Lib.hid hI
  have HB := Lib.hid (Below.refl W.heap.size W)
  clear hC hS hI
  cases q
  all_goals
    go_enter Try.func3, Try.ntmps3
    go_wp2_with fail
    refine (HT.out _ HB.out).mono ?_
    rintro e w1 ⟨s1, rfl, hb1, hI1⟩
    have HB1 := Lib.hid (HB.out.trans (hb1.mono HB.out.size))
    have HI1 := Lib.hid hI1
    clear hb1 hI1
    go_wp2_with fail
    refine (HS.out _ _ _ HI1.out).mono ?_
    rintro e w2 ⟨rfl, hb2⟩
    have HB2 := Lib.hid (HB1.out.trans (hb2.mono HB1.out.size))
    clear hb2
    go_wp2_with fail
    refine (HT.out _ HB2.out).mono ?_
    rintro e w3 ⟨s2, rfl, hb3, hI3⟩
    have HB3 := Lib.hid (HB2.out.trans (hb3.mono HB2.out.size))
    have HI3 := Lib.hid hI3
    clear hb3 hI3
    go_wp2_with fail
    refine (HI.out _ _ _ HI3.out).mono ?_
    rintro e w4 ⟨rfl, hb4⟩
    have HB4 := Lib.hid (HB3.out.trans (hb4.mono HB3.out.size))
    have HI4 := Lib.hid (HI3.out.belowAll hb4)
    clear hb4
    go_wp2_with fail
    refine (HT.out _ HB4.out).mono ?_
    rintro e w5 ⟨s3, rfl, hb5, hI5⟩
    have HB5 := Lib.hid (HB4.out.trans (hb5.mono HB4.out.size))
    have HI5 := Lib.hid hI5
    have HI6 := Lib.hid (HI4.out.belowAll hb5)
    clear hb5 hI5
    go_wp2_with fail
    refine (eqInts_any _ _ (tabI len z) _ _ _ HI6.out HI5.out).mono ?_
    rintro e w6 ⟨rfl, hb6⟩
    have HB6 := Lib.hid (HB5.out.trans (hb6.mono HB5.out.size))
    clear hb6
    go_wp2
    go_ret
    exact ⟨rfl, HB6.out⟩
end Go.Proofs.Ytkpjklgooneklaa
