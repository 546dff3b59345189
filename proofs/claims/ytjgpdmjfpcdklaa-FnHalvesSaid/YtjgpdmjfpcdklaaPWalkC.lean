/- The law FnHalves: halved places have even ways back. -/
import Derived.Test.YtjgpdmjfpcdklaaDrawV
import Derived.Test.YtjgpdmjfpcdklaaArrG
import Derived.Test.YtjgpdmjfpcdklaaWalkJ
import Derived.Test.YtjgpdmjfpcdklaaStepSB
import Derived.Test.YtjgpdmjfpcdklaaStepWB
import Derived.Test.YtjgpdmjfpcdklaaStepWA
import Derived.Test.YtjgpdmjfpcdklaaStepQ
namespace Go.Proofs.Ytjgpdmjfpcdklaa
open Go.RowKit Go.Shelf
set_option linter.unusedVariables false
theorem no_odd (n s k : Nat) (h1 : 1 ≤ n) (hs : s < 2 ^ n) (h : (wsetN n s k).testBit 0 = false) : wlkN n s k 0 = 0 := by
  have hi := wlk_set n s k 0 h1 hs (by omega)
  rw [h] at hi
  have : ¬ 0 < wlkN n s k 0 := fun h => by cases hi.1 h
  omega
set_option maxHeartbeats 1000000 in
theorem law_PHalves (W : World) (B len cap : Nat) (A : Option Addr) (f : Nat → Nat) (hC : Code W B A len f) (hB : B ≤ W.heap.size) (hlc : len ≤ cap) (hcap : cap ≤ 9223372036854775807) :
    Calls Try.prog 3 #[.slice A len cap] W fun e w' => e = .returned (.bool true) ∧ Below W.heap.size W w' := by
  have HC := Lib.hid (drawStepHalves_any W B len cap A f hC hB hlc hcap)
  clear hC
  by_cases hlen : (1048576 : Int) < (len : Int)
  · go_enter Try.func3, Try.ntmps3
    go_wp2
    go_ret
    exact ⟨rfl, Below.refl _ _⟩
  go_enter Try.func3, Try.ntmps3
  go_wp2_with fail
  refine HC.out.mono ?_
  rintro e w1 ⟨n, s, rfl, h1, h2, h3, hb1⟩
  have HB := Lib.hid hb1
  clear hb1 hB hlc hcap
  by_cases hno : NoStep (n : Int) (s : Int)
  · have HI := Lib.hid (fun W => implStepHalves_no n s W hno)
    have HS := Lib.hid (fun W => specStepHalves_no n s W hno)
    clear hno
    go_wp2_with fail
    refine (HI.out _).mono ?_
    rintro e w2 ⟨rfl, hb2⟩
    have HB := Lib.hid (HB.out.trans (hb2.mono HB.out.size))
    clear hb2
    go_wp2_with fail
    refine (HS.out _).mono ?_
    rintro e w3 ⟨rfl, rfl⟩
    go_wp2
    go_ret
    exact ⟨rfl, HB.out⟩
  have h4 : s.testBit 0 = false := by
    obtain ⟨n', s', hn', hs', _, _, _, h4⟩ := not_noStep hno
    obtain rfl : s = s' := by omega
    exact h4
  have HI := Lib.hid (fun W => implStepHalves_yes n s W h1 h2 h3 h4)
  have HS := Lib.hid (fun W => specStepHalves_yes n s W h1 h2 h3 h4)
  have HBo := Lib.hid (fun W => implStepBoth_yes n s W h1 h2 h3 h4)
  cases hh : halvesN n s
  · rw [hh] at HI HS
    clear hno
    go_wp2_with fail
    refine (HI.out _).mono ?_
    rintro e w2 ⟨rfl, hb2⟩
    have HB := Lib.hid (HB.out.trans (hb2.mono HB.out.size))
    clear hb2
    go_wp2_with fail
    refine (HS.out _).mono ?_
    rintro e w3 ⟨rfl, rfl⟩
    go_wp2
    go_ret
    exact ⟨rfl, HB.out⟩
  · rw [hh] at HI HS
    obtain ⟨f0, f1, f3, f5, f7⟩ := half_facts n s h1 h2 h3 h4 hh
    have HHb := Lib.hid (fun W => implStepHalves_yes n (bothN n s) W h1 h2 (bothN_lt n s h1 h3) (both_zero_bit n s h1 h3 h4))
    rw [f0] at HHb
    have hW : ∀ k : Nat, k = 1 ∨ k = 3 ∨ k = 5 ∨ k = 7 → ∀ W, Calls Try.prog 13 #[.int .i64 (n:Int), .int .i64 (s:Int), .int .i64 (k:Int)] W fun e w' => e = .returned (.tuple #[.int .i64 0, .bool true]) ∧ Below W.heap.size W w' := by
      intro k hk W
      have h := implWalkClosed_yes n s k W h1 h2 h3 h4 (by omega)
      have e : wlkN n s k 0 = 0 := no_odd n s k h1 h3 (by rcases hk with rfl | rfl | rfl | rfl <;> assumption)
      rw [e] at h
      exact h
    have HW := Lib.hid hW
    generalize bothN n s = b at *
    clear hW hno f0 f1 f3 f5 f7 hh h3 h4
    go_wp2_with fail
    refine (HI.out _).mono ?_
    rintro e w2 ⟨rfl, hb2⟩
    have HB := Lib.hid (HB.out.trans (hb2.mono HB.out.size))
    clear hb2
    go_wp2_with fail
    refine (HS.out _).mono ?_
    rintro e w3 ⟨rfl, rfl⟩
    go_wp2_with fail
    refine (HBo.out _).mono ?_
    rintro e w4 ⟨rfl, hb4⟩
    have HB := Lib.hid (HB.out.trans (hb4.mono HB.out.size))
    clear hb4
    go_wp2
    go_loopw [9] (fun u wr => ∃ k : Nat, (k = 1 ∨ k = 3 ∨ k = 5 ∨ k = 7 ∨ k = 9) ∧ u = .int .i64 (k : Int) ∧ Below W.heap.size W wr) (fun u _ => 10 - (intOf u).toNat)
    case atStart => exact ⟨1, .inl rfl, rfl, HB.out⟩
    case round =>
      obtain ⟨k, hk, rfl, hB⟩ := hrel
      clear HB
      have HB := Lib.hid hB
      clear hB
      by_cases hlt : k < 8
      · have HWk := Lib.hid (fun W => HW.out k (by omega) W)
        go_wp2_with fail
        refine (HWk.out _).mono ?_
        rintro e w5 ⟨rfl, hb5⟩
        have HB := Lib.hid (HB.out.trans (hb5.mono HB.out.size))
        clear hb5
        go_wp2
        go_roundw
        case rel => exact ⟨k + 2, by omega, by go_num, HB.out⟩
        case measure => simp [intOf]; omega
      · obtain rfl : k = 9 := by omega
        go_wp2_with (go_at_call 10; refine (HHb.out _).mono ?_; rintro e w6 ⟨rfl, hb6⟩)
        have HB := Lib.hid (HB.out.trans (hb6.mono HB.out.size))
        clear hb6
        go_ret
        exact ⟨rfl, HB.out⟩
end Go.Proofs.Ytjgpdmjfpcdklaa
