/- The laws FnFullTurns, FnTurnsMinus: full sets come just where rounds have no common length; lengths of rounds are told by differences. -/
import Derived.Test.YtookciehnjnmnaaDrawV
import Derived.Test.YtookciehnjnmnaaArrG
import Derived.Test.YtookciehnjnmnaaArrM
import Derived.Test.YtookciehnjnmnaaWalkC
import Derived.Test.YtookciehnjnmnaaWalkG
import Derived.Test.YtookciehnjnmnaaStepWB
import Derived.Test.YtookciehnjnmnaaGB
namespace Go.Proofs.Ytookciehnjnmnaa
open Go.RowKit Go.Shelf
set_option linter.unusedVariables false
theorem law_PFullTurns (W : World) (B len cap : Nat) (A : Option Addr) (f : Nat → Nat) (hC : Code W B A len f) (hB : B ≤ W.heap.size) (hlc : len ≤ cap) (hcap : cap ≤ 9223372036854775807) :
    Calls Try.prog 3 #[.slice A len cap] W fun e w' => e = .returned (.bool true) ∧ Below W.heap.size W w' := by
  have HC := Lib.hid (drawWalkTurns_any W B len cap A f hC hB hlc hcap)
  clear hC
  by_cases hlen : (1048576 : Int) < (len : Int)
  · go_enter Try.func3, Try.ntmps3
    go_wp2
    go_ret
    exact ⟨rfl, Below.refl _ _⟩
  go_enter Try.func3, Try.ntmps3
  go_wp2_with fail
  refine HC.out.mono ?_
  rintro e w1 ⟨n, s, rfl, h1, h2, h3, hb1⟩
  have HB := Lib.hid hb1
  clear hb1 hB hlc hcap
  by_cases hbad : NoStep (n : Int) (s : Int) ∨ s = 0
  · have hI : ∀ W, Calls Try.prog 10 #[.int .i64 (n:Int), .int .i64 (s:Int)] W fun e w' => e = .returned (.tuple #[.int .i64 0, .bool false]) ∧ Below W.heap.size W w' := fun W => by
      rcases hbad with h | h
      · exact implWalkTurns_no n s W h
      · subst h; exact implWalkTurns_none n W h1 h2
    have hS : ∀ W, Calls Try.prog 11 #[.int .i64 (n:Int), .int .i64 (s:Int)] W fun e w' => e = .returned (.tuple #[.int .i64 0, .bool false]) ∧ W = w' := fun W => by
      rcases hbad with h | h
      · exact specWalkTurns_no n s W h
      · subst h; exact specWalkTurns_none n W h1 h2
    have HI := Lib.hid hI
    have HS := Lib.hid hS
    clear hI hS hbad
    go_wp2_with fail
    refine (HI.out _).mono ?_
    rintro e w2 ⟨rfl, hb2⟩
    have HB := Lib.hid (HB.out.trans (hb2.mono HB.out.size))
    clear hb2
    go_wp2_with fail
    refine (HS.out _).mono ?_
    rintro e w3 ⟨rfl, rfl⟩
    go_wp2
    go_ret
    exact ⟨rfl, HB.out⟩
  have hno : ¬ NoStep (n : Int) (s : Int) := fun h => hbad (.inl h)
  have hs0 : s ≠ 0 := fun h => hbad (.inr h)
  have h4 : s.testBit 0 = false := by
    obtain ⟨n', s', hn', hs', _, _, _, h4⟩ := not_noStep hno
    obtain rfl : s = s' := by omega
    exact h4
  have HI := Lib.hid (fun W => implWalkTurns_yes n s W h1 h2 h3 h4 hs0)
  have HS := Lib.hid (fun W => specWalkTurns_yes n s W h1 h2 h3 h4 hs0)
  have HP := Lib.hid (fun W => implStepParts_yes n s W h1 h2 h3 h4)
  obtain ⟨wf1, wf2, wf3⟩ := walk_facts n s h1 h2 h3 h4
  obtain ⟨t1, tf, tp⟩ := wf1 hs0
  rw [wf3] at HS t1 tf tp
  have htl := wturn_le n s n
  have hpp := partsN_pos n s h1
  rcases fst_facts n s (2 * n) (by omega) with ⟨fa, fb⟩ | ⟨fa, fb, fc⟩
  · have HF := Lib.hid (fun W => implFull_none n s W h1 h2 h3 h4 fb)
    have hneg : ¬ (wturnN n s n = 1 ∧ partsN n s = 1) := fun h => (tf.2 h) fa
    generalize wturnN n s n = t at *
    generalize partsN n s = p at *
    clear tf tp fa fb wf1 wf2 wf3 hbad hno hs0 h3 h4
    have a1 : (1 : Int) ≤ (t : Int) := by omega
    have a2 : decide ((1 : Int) ≤ (t : Int)) = true := decide_eq_true a1
    by_cases ht : t = 1
    · have a3 : ((t : Int) == 1) = true := by simp [ht]
      have a4 : ((p : Int) == 1) = false := by simp; omega
      clear ht hneg
      go_wp2_with fail
      refine (HI.out _).mono ?_
      rintro e w2 ⟨rfl, hb2⟩
      have HB := Lib.hid (HB.out.trans (hb2.mono HB.out.size))
      clear hb2
      go_wp2_with fail
      refine (HS.out _).mono ?_
      rintro e w3 ⟨rfl, rfl⟩
      go_wp2_with fail
      refine (HF.out _).mono ?_
      rintro e w4 ⟨rfl, hb4⟩
      have HB := Lib.hid (HB.out.trans (hb4.mono HB.out.size))
      clear hb4
      go_wp2_with fail
      refine (HP.out _).mono ?_
      rintro e w5 ⟨rfl, hb5⟩
      have HB := Lib.hid (HB.out.trans (hb5.mono HB.out.size))
      clear hb5
      go_wp2
      go_ret
      exact ⟨rfl, HB.out⟩
    · have a3 : ((t : Int) == 1) = false := by simp; omega
      clear ht hneg
      go_wp2_with fail
      refine (HI.out _).mono ?_
      rintro e w2 ⟨rfl, hb2⟩
      have HB := Lib.hid (HB.out.trans (hb2.mono HB.out.size))
      clear hb2
      go_wp2_with fail
      refine (HS.out _).mono ?_
      rintro e w3 ⟨rfl, rfl⟩
      go_wp2_with fail
      refine (HF.out _).mono ?_
      rintro e w4 ⟨rfl, hb4⟩
      have HB := Lib.hid (HB.out.trans (hb4.mono HB.out.size))
      clear hb4
      go_wp2_with fail
      refine (HP.out _).mono ?_
      rintro e w5 ⟨rfl, hb5⟩
      have HB := Lib.hid (HB.out.trans (hb5.mono HB.out.size))
      clear hb5
      go_wp2
      go_ret
      exact ⟨rfl, HB.out⟩
  · have f99 : fstN n s (2 * n) ≠ 99 := by omega
    have HF := Lib.hid (fun W => implFull_some n s _ W h1 h2 h3 h4 (wf2 f99) fb fc)
    obtain ⟨b1, b2⟩ := tf.1 f99
    rw [b1] at HI HS
    rw [b2] at HP
    generalize fstN n s (2 * n) = k at *
    clear tf tp fa fb fc wf1 wf2 wf3 hbad hno hs0 h3 h4 b1 b2 htl hpp t1 f99
    go_wp2_with fail
    refine (HI.out _).mono ?_
    rintro e w2 ⟨rfl, hb2⟩
    have HB := Lib.hid (HB.out.trans (hb2.mono HB.out.size))
    clear hb2
    go_wp2_with fail
    refine (HS.out _).mono ?_
    rintro e w3 ⟨rfl, rfl⟩
    go_wp2_with fail
    refine (HF.out _).mono ?_
    rintro e w4 ⟨rfl, hb4⟩
    have HB := Lib.hid (HB.out.trans (hb4.mono HB.out.size))
    clear hb4
    go_wp2_with fail
    refine (HP.out _).mono ?_
    rintro e w5 ⟨rfl, hb5⟩
    have HB := Lib.hid (HB.out.trans (hb5.mono HB.out.size))
    clear hb5
    go_wp2
    go_ret
    exact ⟨rfl, HB.out⟩
theorem law_PTurnsMinus (W : World) (B len cap : Nat) (A : Option Addr) (f : Nat → Nat) (hC : Code W B A len f) (hB : B ≤ W.heap.size) (hlc : len ≤ cap) (hcap : cap ≤ 9223372036854775807) :
    Calls Try.prog 4 #[.slice A len cap] W fun e w' => e = .returned (.bool true) ∧ Below W.heap.size W w' := by
  have HC := Lib.hid (drawWalkTurns_any W B len cap A f hC hB hlc hcap)
  clear hC
  by_cases hlen : (1048576 : Int) < (len : Int)
  · go_enter Try.func4, Try.ntmps4
    go_wp2
    go_ret
    exact ⟨rfl, Below.refl _ _⟩
  go_enter Try.func4, Try.ntmps4
  go_wp2_with fail
  refine HC.out.mono ?_
  rintro e w1 ⟨n, s, rfl, h1, h2, h3, hb1⟩
  have HB := Lib.hid hb1
  clear hb1 hB hlc hcap
  by_cases hbad : NoStep (n : Int) (s : Int) ∨ s = 0
  · have hI : ∀ W, Calls Try.prog 10 #[.int .i64 (n:Int), .int .i64 (s:Int)] W fun e w' => e = .returned (.tuple #[.int .i64 0, .bool false]) ∧ Below W.heap.size W w' := fun W => by
      rcases hbad with h | h
      · exact implWalkTurns_no n s W h
      · subst h; exact implWalkTurns_none n W h1 h2
    have hS : ∀ W, Calls Try.prog 11 #[.int .i64 (n:Int), .int .i64 (s:Int)] W fun e w' => e = .returned (.tuple #[.int .i64 0, .bool false]) ∧ W = w' := fun W => by
      rcases hbad with h | h
      · exact specWalkTurns_no n s W h
      · subst h; exact specWalkTurns_none n W h1 h2
    have HI := Lib.hid hI
    have HS := Lib.hid hS
    clear hI hS hbad
    go_wp2_with fail
    refine (HI.out _).mono ?_
    rintro e w2 ⟨rfl, hb2⟩
    have HB := Lib.hid (HB.out.trans (hb2.mono HB.out.size))
    clear hb2
    go_wp2_with fail
    refine (HS.out _).mono ?_
    rintro e w3 ⟨rfl, rfl⟩
    go_wp2
    go_ret
    exact ⟨rfl, HB.out⟩
  have hno : ¬ NoStep (n : Int) (s : Int) := fun h => hbad (.inl h)
  have hs0 : s ≠ 0 := fun h => hbad (.inr h)
  have h4 : s.testBit 0 = false := by
    obtain ⟨n', s', hn', hs', _, _, _, h4⟩ := not_noStep hno
    obtain rfl : s = s' := by omega
    exact h4
  have HI := Lib.hid (fun W => implWalkTurns_yes n s W h1 h2 h3 h4 hs0)
  have HS := Lib.hid (fun W => specWalkTurns_yes n s W h1 h2 h3 h4 hs0)
  have HP := Lib.hid (fun W => implStepParts_yes n s W h1 h2 h3 h4)
  obtain ⟨wf1, wf2, wf3⟩ := walk_facts n s h1 h2 h3 h4
  obtain ⟨t1, tf, tp⟩ := wf1 hs0
  rw [wf3] at HS t1 tf tp
  have htl := wturn_le n s n
  have hpp := partsN_pos n s h1
  have HD := Lib.hid (fun W => implMinus_yes n s s W h1 h2 h3 h3)
  have hdl := sumN_lt n s (turnN n s (-1))
  have hel := lessN_lt (n := n) 1 hdl
  have he0 : (lessN (sumN n s (turnN n s (-1))) 1).testBit 0 = false := by rw [lessN_bit]; simp
  have HX := Lib.hid (fun W => implStepParts_yes n (lessN (sumN n s (turnN n s (-1))) 1) W h1 h2 hel he0)
  have hp12 := pow_le n h2
  have hln := less_nat (sumN n s (turnN n s (-1))) 1 (by omega) (by omega)
  have hbp : partsN n (lessN (sumN n s (turnN n s (-1))) 1) = wturnN n s n * partsN n s := tp.symm
  rw [hbp] at HX
  have hp2 := hpp.2
  have hp1 := hpp.1
  generalize sumN n s (turnN n s (-1)) = d at *
  generalize lessN d 1 = x at *
  generalize wturnN n s n = t at *
  generalize partsN n s = p at *
  have hm : t * p ≤ 144 := Nat.le_trans (Nat.mul_le_mul (Nat.le_trans htl h2) (Nat.le_trans hp2 h2)) (Nat.le_refl _)
  have hc : (t : Int) * (p : Int) = ((t * p : Nat) : Int) := (Int.natCast_mul t p).symm
  generalize t * p = q at *
  have hw1 : IntKind.i64.wrap ((t : Int) * (p : Int)) = (q : Int) := by rw [hc]; exact IntWalk.i64_in _ ⟨by omega, by omega⟩
  have hw2 : wrap64 ((t : Int) * (p : Int)) = (q : Int) := by rw [hc]; exact IntWalk.wrap64_in _ ⟨by omega, by omega⟩
  have hlm : bits .andNot .i64 (d : Int) 1 = (x : Int) := hln
  clear hln hc hm tf tp wf1 wf2 wf3 hbad hno hs0 h3 h4 hel he0 hdl hbp
  go_wp2_with fail
  refine (HI.out _).mono ?_
  rintro e w2 ⟨rfl, hb2⟩
  have HB := Lib.hid (HB.out.trans (hb2.mono HB.out.size))
  clear hb2
  go_wp2_with fail
  refine (HS.out _).mono ?_
  rintro e w3 ⟨rfl, rfl⟩
  go_wp2_with fail
  refine (HP.out _).mono ?_
  rintro e w4 ⟨rfl, hb4⟩
  have HB := Lib.hid (HB.out.trans (hb4.mono HB.out.size))
  clear hb4
  go_wp2_with fail
  refine (HD.out _).mono ?_
  rintro e w5 ⟨rfl, hb5⟩
  have HB := Lib.hid (HB.out.trans (hb5.mono HB.out.size))
  clear hb5
  go_wp2_with fail
  refine (HX.out _).mono ?_
  rintro e w6 ⟨rfl, hb6⟩
  have HB := Lib.hid (HB.out.trans (hb6.mono HB.out.size))
  clear hb6
  go_wp2
  go_ret
  exact ⟨rfl, HB.out⟩
end Go.Proofs.Ytookciehnjnmnaa
