/- The law FnTurned: turned steps turn distances. -/
import Derived.Test.YtgonanembcnlgaaDrawF
import Derived.Test.YtgonanembcnlgaaSame
import Derived.Test.YtgonanembcnlgaaFarR
namespace Go.Proofs.Ytgonanembcnlgaa
open Go.RowKit Go.Shelf
set_option linter.unusedVariables false
theorem law_PTurned (W : World) (B len cap : Nat) (A : Option Addr) (f : Nat → Nat) (hC : Code W B A len f) (hB : B ≤ W.heap.size) (hlc : len ≤ cap) (hcap : cap ≤ 9223372036854775807) :
    Calls Try.prog 9 #[.slice A len cap] W fun e w' => e = .returned (.bool true) ∧ Below W.heap.size W w' := by
  have HC := Lib.hid (drawFarTurned_any W B len cap A f hC hB hlc hcap)
  clear hC
  by_cases hlen : (1048576 : Int) < (len : Int)
  · go_enter Try.func9, Try.ntmps9
    go_wp2
    go_ret
    exact ⟨rfl, Below.refl _ _⟩
  go_enter Try.func9, Try.ntmps9
  go_wp2_with fail
  refine HC.out.mono ?_
  rintro e w1 ⟨n, s, v, rfl, h1, h2, h3, hv1, hv2, hb1⟩
  have HB := Lib.hid hb1
  clear hb1 hB hlc hcap
  by_cases hyes : ¬ NoStep (n : Int) (s : Int) ∧ 0 ≤ v ∧ v < (n : Int) ∧ (unitsN n).testBit v.toNat = true
  · obtain ⟨hno, hv3, hv4, hu⟩ := hyes
    have h4 : s.testBit 0 = false := by
      obtain ⟨n', s', hn', hs', _, _, _, h4⟩ := not_noStep hno
      obtain rfl : s = s' := by omega
      exact h4
    obtain ⟨m, rfl⟩ : ∃ m : Nat, v = (m : Int) := ⟨v.toNat, by omega⟩
    have hm : m < n := by omega
    rw [Int.toNat_natCast] at hu
    have hg := ((unitsN_bit n m).1 hu).2
    have HI := Lib.hid (fun W => (implFarTurned_yes n s m W h1 h2 h3 h4 hm hu).mono (R' := fun e w' => ListRes W (tabI n (turnL n s m n)) true e w') fun e w' h => lists_res h)
    have HS := Lib.hid (fun W => (specFarTurned_yes n s m W h1 h2 h3 h4 hm hu).mono (R' := fun e w' => ListRes W (tabI n (turnL n s m n)) true e w') fun e w' h => lists_res h)
    have HT := Lib.hid (fun W => implTurn_yes n s (m : Int) W h1 h2 h3 (by omega) (by omega))
    have hl := fun W => (implFarList_yes n (turnN n s (m : Int)) W h1 h2 (turnN_lt n s _ h1) (turn_zero n s m h1 h2 hm hg h4)).mono (R' := fun e w' => ListRes W (tabI n (distN n (turnN n s (m : Int)))) true e w') fun e w' h => lists_res h
    rw [← tabI_congr n _ _ (fun x hx => turnL_dist n s m x h1 h2 h3 hm hg hx)] at hl
    have HL := Lib.hid hl
    clear hl hno hu
    generalize tabI n (turnL n s m n) = xs at *
    generalize turnN n s (m : Int) = t at *
    go_wp2_with fail
    refine (HI.out _).mono ?_
    rintro e w2 ⟨sa, rfl, hb2, hI2⟩
    have HI2 := Lib.hid hI2
    have HB := Lib.hid (HB.out.trans (hb2.mono HB.out.size))
    clear hI2 hb2
    go_wp2_with fail
    refine (HS.out _).mono ?_
    rintro e w3 ⟨sb, rfl, hb3, hI3⟩
    have HI3 := Lib.hid hI3
    have HI2' := Lib.hid (HI2.out.belowAll hb3)
    have HB := Lib.hid (HB.out.trans (hb3.mono HB.out.size))
    clear hI3 hb3
    go_wp2_with fail
    refine (sameInts_any _ _ xs _ _ _ HI2'.out HI3.out).mono ?_
    rintro e w4 ⟨rfl, hb4⟩
    have HI4 := Lib.hid (HI2'.out.belowAll hb4)
    have HB := Lib.hid (HB.out.trans (hb4.mono HB.out.size))
    clear hb4
    go_wp2_with fail
    refine (HT.out _).mono ?_
    rintro e w5 ⟨rfl, hb5⟩
    have HI5 := Lib.hid (HI4.out.belowAll hb5)
    have HB := Lib.hid (HB.out.trans (hb5.mono HB.out.size))
    clear hb5
    go_wp2_with fail
    refine (HL.out _).mono ?_
    rintro e w6 ⟨sc, rfl, hb6, hI6⟩
    have HI6 := Lib.hid (HI5.out.belowAll hb6)
    have HI7 := Lib.hid hI6
    have HB := Lib.hid (HB.out.trans (hb6.mono HB.out.size))
    clear hb6 hI6
    go_wp2_with fail
    refine (sameInts_any _ _ xs _ _ _ HI7.out HI6.out).mono ?_
    rintro e w7 ⟨rfl, hb7⟩
    have HB := Lib.hid (HB.out.trans (hb7.mono HB.out.size))
    clear hb7
    go_wp2
    go_ret
    exact ⟨rfl, HB.out⟩
  · have key : (∀ W, Calls Try.prog 34 #[.int .i64 (n:Int), .int .i64 (s:Int), .int .i64 v] W (ListRes W [] false)) ∧ (∀ W, Calls Try.prog 35 #[.int .i64 (n:Int), .int .i64 (s:Int), .int .i64 v] W (ListRes W [] false)) := by
      by_cases hno : NoStep (n : Int) (s : Int)
      · exact ⟨fun W => (implFarTurned_no n s v W hno).mono fun e w' h => nil_res h, fun W => (specFarTurned_no n s v W hno).mono fun e w' h => none_res h⟩
      · have h4 : s.testBit 0 = false := by
          obtain ⟨n', s', hn', hs', _, _, _, h4⟩ := not_noStep hno
          obtain rfl : s = s' := by omega
          exact h4
        by_cases hv : 0 ≤ v ∧ v < (n : Int)
        · obtain ⟨m, rfl⟩ : ∃ m : Nat, v = (m : Int) := ⟨v.toNat, by omega⟩
          have hm : m < n := by omega
          have hu : (unitsN n).testBit m = false := by
            cases hu : (unitsN n).testBit m
            · rfl
            · exact absurd ⟨hno, hv.1, hv.2, by rw [Int.toNat_natCast]; exact hu⟩ hyes
          exact ⟨fun W => (implFarTurned_unit n s m W h1 h2 h3 h4 hm hu).mono fun e w' h => nil_res h, fun W => (specFarTurned_unit n s m W h1 h2 h3 h4 hm hu).mono fun e w' h => none_res h⟩
        · exact ⟨fun W => (implFarTurned_out n s v W h1 h2 h3 h4 hv).mono fun e w' h => nil_res h, fun W => (specFarTurned_out n s v W h1 h2 h3 h4 hv).mono fun e w' h => none_res h⟩
    have HI := Lib.hid key.1
    have HS := Lib.hid key.2
    clear key hyes
    go_wp2_with fail
    refine (HI.out _).mono ?_
    rintro e w2 ⟨sa, rfl, hb2, hI2⟩
    have HI2 := Lib.hid hI2
    have HB := Lib.hid (HB.out.trans (hb2.mono HB.out.size))
    clear hI2 hb2
    go_wp2_with fail
    refine (HS.out _).mono ?_
    rintro e w3 ⟨sb, rfl, hb3, hI3⟩
    have HI3 := Lib.hid hI3
    have HI2' := Lib.hid (HI2.out.belowAll hb3)
    have HB := Lib.hid (HB.out.trans (hb3.mono HB.out.size))
    clear hI3 hb3
    go_wp2_with fail
    refine (sameInts_any _ _ [] _ _ _ HI2'.out HI3.out).mono ?_
    rintro e w4 ⟨rfl, hb4⟩
    have HI4 := Lib.hid (HI2'.out.belowAll hb4)
    have HI5 := Lib.hid (HI3.out.belowAll hb4)
    have HB := Lib.hid (HB.out.trans (hb4.mono HB.out.size))
    clear hb4
    go_wp2_with fail
    refine (sameInts_any _ _ [] _ _ _ HI4.out HI5.out).mono ?_
    rintro e w5 ⟨rfl, hb5⟩
    have HB := Lib.hid (HB.out.trans (hb5.mono HB.out.size))
    clear hb5
    go_wp2
    go_ret
    exact ⟨rfl, HB.out⟩
end Go.Proofs.Ytgonanembcnlgaa
