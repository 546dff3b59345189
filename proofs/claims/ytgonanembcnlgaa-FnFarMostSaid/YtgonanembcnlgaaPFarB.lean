/- The laws FnFarMost, FnFarSum, FnLayers. -/
import Derived.Test.YtgonanembcnlgaaDrawF
import Derived.Test.YtgonanembcnlgaaFarMath
import Derived.Test.YtgonanembcnlgaaFarH
import Derived.Test.YtgonanembcnlgaaStepWA
import Derived.Test.YtgonanembcnlgaaStepWB
namespace Go.Proofs.Ytgonanembcnlgaa
open Go.RowKit Go.Shelf
set_option linter.unusedVariables false
theorem law_PFarMost (W : World) (B len cap : Nat) (A : Option Addr) (f : Nat → Nat) (hC : Code W B A len f) (hB : B ≤ W.heap.size) (hlc : len ≤ cap) (hcap : cap ≤ 9223372036854775807) :
    Calls Try.prog 4 #[.slice A len cap] W fun e w' => e = .returned (.bool true) ∧ Below W.heap.size W w' := by
  have HC := Lib.hid (drawFarMost_any W B len cap A f hC hB hlc hcap)
  clear hC
  by_cases hlen : (1048576 : Int) < (len : Int)
  · go_enter Try.func4, Try.ntmps4
    go_wp2
    go_ret
    exact ⟨rfl, Below.refl _ _⟩
  go_enter Try.func4, Try.ntmps4
  go_wp2_with fail
  refine HC.out.mono ?_
  rintro e w1 ⟨n, s, rfl, h1, h2, h3, hb1⟩
  have HB := Lib.hid hb1
  clear hb1 hB hlc hcap
  have key : (partsN n s ≠ 1 ∨ NoStep (n : Int) (s : Int)) → (∀ W, Calls Try.prog 16 #[.int .i64 (n:Int), .int .i64 (s:Int)] W fun e w' => e = .returned (.tuple #[.int .i64 0, .bool false]) ∧ Below W.heap.size W w') ∧ (∀ W, Calls Try.prog 17 #[.int .i64 (n:Int), .int .i64 (s:Int)] W fun e w' => e = .returned (.tuple #[.int .i64 0, .bool false]) ∧ W = w') := fun hor => by
    by_cases hno : NoStep (n : Int) (s : Int)
    · exact ⟨fun W => implFarMost_no n s W hno, fun W => specFarMost_no n s W hno⟩
    · have h4 : s.testBit 0 = false := by
        obtain ⟨n', s', hn', hs', _, _, _, h4⟩ := not_noStep hno
        obtain rfl : s = s' := by omega
        exact h4
      have hp : partsN n s ≠ 1 := hor.resolve_right hno
      exact ⟨fun W => implFarMost_part n s W h1 h2 h3 h4 hp, fun W => specFarMost_part n s W h1 h2 h3 h4 hp⟩
  by_cases hbad : partsN n s ≠ 1 ∨ NoStep (n : Int) (s : Int)
  · have HI := Lib.hid (key hbad).1
    have HS := Lib.hid (key hbad).2
    clear key hbad
    go_wp2_with fail
    refine (HI.out _).mono ?_
    rintro e w2 ⟨rfl, hb2⟩
    have HB := Lib.hid (HB.out.trans (hb2.mono HB.out.size))
    clear hb2
    go_wp2_with fail
    refine (HS.out _).mono ?_
    rintro e w3 ⟨rfl, rfl⟩
    go_wp2
    go_ret
    exact ⟨rfl, HB.out⟩
  clear key
  have hp : partsN n s = 1 := by
    rcases Nat.decEq (partsN n s) 1 with h | h
    · exact absurd (.inl h) hbad
    · exact h
  have hno : ¬ NoStep (n : Int) (s : Int) := fun h => hbad (.inr h)
  have h4 : s.testBit 0 = false := by
    obtain ⟨n', s', hn', hs', _, _, _, h4⟩ := not_noStep hno
    obtain rfl : s = s' := by omega
    exact h4
  clear hbad hno
  have HI := Lib.hid (fun W => implFarMost_yes n s W h1 h2 h3 h4 hp)
  have HS := Lib.hid (fun W => specFarMost_yes n s W h1 h2 h3 h4 hp)
  have HBo := Lib.hid (fun W => implStepBoth_yes n s W h1 h2 h3 h4)
  have HI2 := Lib.hid (fun W => implFarMost_yes n (bothN n s) W h1 h2 (bothN_lt n s h1 h3) (both_zero_bit n s h1 h3 h4) (by rw [parts_both n s h1 h3]; exact hp))
  have HL := Lib.hid (fun W => implFarLayers_yes n s W h1 h2 h3 h4)
  have hm := most_lt n s h1 h2 h3
  have hx := most_both n s h1 h2 h3 hp
  generalize tabI (mostN n s n + 1) (fun d => ((layN n s n d : Nat) : Int)) = xs at *
  generalize mostN n (bothN n s) n = x at *
  generalize mostN n s n = m at *
  generalize bothN n s = b at *
  obtain ⟨N, hN⟩ : ∃ N, m + 1 = N := ⟨_, rfl⟩
  rw [hN] at HL
  have hNI : (m : Int) + 1 = (N : Int) := by omega
  have hmI : (m : Int) < (n : Int) := by omega
  have hxI : (x : Int) ≤ (m : Int) := by omega
  clear hN hm hx hp h4
  go_wp2_with fail
  refine (HI.out _).mono ?_
  rintro e w2 ⟨rfl, hb2⟩
  have HB := Lib.hid (HB.out.trans (hb2.mono HB.out.size))
  clear hb2
  go_wp2_with fail
  refine (HS.out _).mono ?_
  rintro e w3 ⟨rfl, hb3⟩
  have HB := Lib.hid (HB.out.trans (hb3.mono HB.out.size))
  clear hb3
  go_wp2_with fail
  refine (HBo.out _).mono ?_
  rintro e w4 ⟨rfl, hb4⟩
  have HB := Lib.hid (HB.out.trans (hb4.mono HB.out.size))
  clear hb4
  go_wp2_with fail
  refine (HI2.out _).mono ?_
  rintro e w5 ⟨rfl, hb5⟩
  have HB := Lib.hid (HB.out.trans (hb5.mono HB.out.size))
  clear hb5
  go_wp2_with fail
  refine (HL.out _).mono ?_
  rintro e w6 ⟨g, cp, rfl, hb6, hI6⟩
  have HB := Lib.hid (HB.out.trans (hb6.mono HB.out.size))
  clear hb6
  clear hI6
  go_wp2
  go_ret
  exact ⟨rfl, HB.out⟩
end Go.Proofs.Ytgonanembcnlgaa
