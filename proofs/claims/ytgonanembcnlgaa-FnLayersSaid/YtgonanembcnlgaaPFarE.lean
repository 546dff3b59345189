/- The laws FnFarMost, FnFarSum, FnLayers. -/
import Derived.Test.YtgonanembcnlgaaDrawF
import Derived.Test.YtgonanembcnlgaaFarMath
import Derived.Test.YtgonanembcnlgaaFarH
import Derived.Test.YtgonanembcnlgaaStepWA
import Derived.Test.YtgonanembcnlgaaStepWB
namespace Go.Proofs.Ytgonanembcnlgaa
open Go.RowKit Go.Shelf
set_option linter.unusedVariables false
set_option maxRecDepth 20000 in
set_option maxHeartbeats 1000000 in
theorem law_PLayers (W : World) (B len cap : Nat) (A : Option Addr) (f : Nat → Nat) (hC : Code W B A len f) (hB : B ≤ W.heap.size) (hlc : len ≤ cap) (hcap : cap ≤ 9223372036854775807) :
    Calls Try.prog 7 #[.slice A len cap] W fun e w' => e = .returned (.bool true) ∧ Below W.heap.size W w' := by
  have HC := Lib.hid (drawFarLayers_any W B len cap A f hC hB hlc hcap)
  clear hC
  by_cases hlen : (1048576 : Int) < (len : Int)
  · go_enter Try.func7, Try.ntmps7
    go_wp2
    go_ret
    exact ⟨rfl, Below.refl _ _⟩
  go_enter Try.func7, Try.ntmps7
  go_wp2_with fail
  refine HC.out.mono ?_
  rintro e w1 ⟨n, s, rfl, h1, h2, h3, hb1⟩
  have HB := Lib.hid hb1
  clear hb1 hB hlc hcap
  by_cases hno : NoStep (n : Int) (s : Int)
  · have HI := Lib.hid (fun W => (implFarLayers_no n s W hno).mono (R' := fun e w' => ListRes W [] false e w') fun e w' h => nil_res h)
    have HS := Lib.hid (fun W => (specFarLayers_no n s W hno).mono (R' := fun e w' => ListRes W [] false e w') fun e w' h => none_res h)
    clear hno
    go_wp2_with fail
    refine (HI.out _).mono ?_
    rintro e w2 ⟨sa, rfl, hb2, hI2⟩
    have HI2 := Lib.hid hI2
    clear hI2
    have HB := Lib.hid (HB.out.trans (hb2.mono HB.out.size))
    clear hb2
    go_wp2_with fail
    refine (HS.out _).mono ?_
    rintro e w3 ⟨sb, rfl, hb3, hI3⟩
    have HI3 := Lib.hid hI3
    have HI2' := Lib.hid (HI2.out.belowAll hb3)
    clear hI3
    have HB := Lib.hid (HB.out.trans (hb3.mono HB.out.size))
    clear hb3
    go_wp2_with fail
    refine (sameInts_any _ _ [] _ _ _ HI2'.out HI3.out).mono ?_
    rintro e w4 ⟨rfl, hb4⟩
    have HI4 := Lib.hid (HI2'.out.belowAll hb4)
    have HI5 := Lib.hid (HI3.out.belowAll hb4)
    have HB := Lib.hid (HB.out.trans (hb4.mono HB.out.size))
    clear hb4
    go_wp2_with fail
    refine (sameInts_any _ _ [] _ _ _ HI4.out HI5.out).mono ?_
    rintro e w5 ⟨rfl, hb5⟩
    have HB := Lib.hid (HB.out.trans (hb5.mono HB.out.size))
    clear hb5
    go_wp2
    go_ret
    exact ⟨rfl, HB.out⟩
  have h4 : s.testBit 0 = false := by
    obtain ⟨n', s', hn', hs', _, _, _, h4⟩ := not_noStep hno
    obtain rfl : s = s' := by omega
    exact h4
  have HI := Lib.hid (fun W => implFarLayers_yes n s W h1 h2 h3 h4)
  have HS := Lib.hid (fun W => (specFarLayers_yes n s W h1 h2 h3 h4).mono (R' := fun e w' => ListRes W (tabI (mostN n s n + 1) (fun d => ((layN n s n d : Nat) : Int))) true e w') fun e w' h => lists_res h)
  have HPa := Lib.hid (fun W => implStepPart_yes n s W h1 h2 h3 h4)
  have hpw := pow_le n h2
  have hpl := partF_lt n s h1
  have HSz := Lib.hid (fun W => size_any s W (by omega))
  have HSp := Lib.hid (fun W => size_any (partN n s) W (by omega))
  have hz := lay_zero n s h1
  have ho := lay_one n s h1 h2 h3 h4
  have ht := lay_total n s h1 h2
  have hms := most_step n s h1 h3 h4
  have hml := most_le n s n
  have hll := lay_le n s n
  obtain ⟨N, hN⟩ : ∃ N, mostN n s n + 1 = N := ⟨_, rfl⟩
  rw [hN] at HI HS ht
  have hxl := tabI_len N (fun d => ((layN n s n d : Nat) : Int))
  have htot : sumL (tabI N (fun d => ((layN n s n d : Nat) : Int))) N = sizeN (partN n s) := by
    rw [← ht]
    unfold sumL
    exact sumTo_congr _ _ _ fun d hd => by rw [tabI_get N _ d hd, Int.toNat_natCast]
  have HTot := Lib.hid (fun (sv : Value) W b h => totalL_any sv (tabI N (fun d => ((layN n s n d : Nat) : Int))) W b h (by rw [hxl]; omega) (fun i hi => by
    rw [hxl] at hi
    rw [tabI_get N _ i hi]
    have := hll i
    omega))
  rw [hxl, htot] at HTot
  have hN1 : 1 ≤ N := by omega
  have hNs : 1 < N ↔ s ≠ 0 := by rw [← hms]; omega
  have g0 := tabI_get N (fun d => ((layN n s n d : Nat) : Int)) 0 (by omega)
  rw [hz] at g0
  have g1 : 1 < N → (tabI N (fun d => ((layN n s n d : Nat) : Int))).getD 1 0 = ((sizeN s : Nat) : Int) := fun h => by rw [tabI_get N _ 1 h, ho]
  clear hz ho ht hms hml hll hN htot h4 hno
  generalize tabI N (fun d => ((layN n s n d : Nat) : Int)) = xs at *
  generalize partN n s = pt at *
  generalize sizeN pt = zp at *
  generalize sizeN s = zs at *
  go_wp2_with fail
  refine (HI.out _).mono ?_
  rintro e w2 ⟨g, cp, rfl, hb2, hI2⟩
  have HI2 := Lib.hid hI2
  clear hI2
  have HB := Lib.hid (HB.out.trans (hb2.mono HB.out.size))
  clear hb2
  go_wp2_with fail
  refine (HS.out _).mono ?_
  rintro e w3 ⟨sb, rfl, hb3, hI3⟩
  have HI3 := Lib.hid hI3
  have HI2' := Lib.hid (HI2.out.belowAll hb3)
  clear hI3
  have HB := Lib.hid (HB.out.trans (hb3.mono HB.out.size))
  clear hb3
  go_wp2_with fail
  refine (sameInts_any _ _ xs _ _ _ HI2'.out HI3.out).mono ?_
  rintro e w4 ⟨rfl, hb4⟩
  have HI4 := Lib.hid (HI2'.out.belowAll hb4)
  have HB := Lib.hid (HB.out.trans (hb4.mono HB.out.size))
  clear hb4
  go_wp2_with fail
  refine (HPa.out _).mono ?_
  rintro e w5 ⟨rfl, hb5⟩
  have HI5 := Lib.hid (HI4.out.belowAll hb5)
  have HB := Lib.hid (HB.out.trans (hb5.mono HB.out.size))
  clear hb5
  have c0 := HI5.out.cell (i := 0) (by rw [hxl]; omega)
  rw [g0] at c0
  by_cases hN2 : 1 < N
  · have hs0 : ¬ (s : Int) = 0 := by have := hNs.1 hN2; omega
    have c1 := HI5.out.cell (i := 1) (by rw [hxl]; exact hN2)
    rw [g1 hN2] at c1
    have t1 : decide ((N : Int) < 2) = false := decide_eq_false (by omega)
    have t2 : decide ((1 : Int) < (N : Int)) = true := decide_eq_true (by omega)
    have t0 : (0 : Int) < (N : Int) := by omega
    have t3 : (1 : Int) < (N : Int) := by omega
    have hs1 : ((s : Int) != 0) = true := by simp; omega
    have hs2 : ((s : Int) == 0) = false := by simp; omega
    clear hNs g0 g1 hN2 hN1
    go_wp2
    refine wp_region_quiet_lit (by kernel_rfl) (by kernel_rfl) ?_
    repeat (go_big_quiet_step (fail))
    go_big_quiet_want
    go_big_quiet_op
    apply Exists.intro
    refine ⟨fun _ => ?_, ?_⟩
    · go_at_call 27
      exact Calls.quiet_of_same ((HTot.out _ _ _ (HI5.out.belowAll (below_drewN (Below.refl _ _) _))).mono fun _ _ h => ⟨h.1, h.2.symm⟩)
    go_big_quiet_on
    repeat (go_big_quiet_step (fail))
    go_big_quiet_want
    go_big_quiet_op
    apply Exists.intro
    refine ⟨fun _ => ?_, ?_⟩
    · go_at_call 23
      exact Calls.quiet_of_same ((HSp.out _).mono fun _ _ h => ⟨h.1, h.2.symm⟩)
    go_big_quiet_on
    repeat (go_big_quiet_step (fail))
    go_big_quiet_want
    go_big_quiet_op
    apply Exists.intro
    refine ⟨fun _ => ?_, ?_⟩
    · go_at_call 23
      exact Calls.quiet_of_same ((HSz.out _).mono fun _ _ h => ⟨h.1, h.2.symm⟩)
    go_big_quiet_on
    repeat (go_big_quiet_step (fail))
    refine wpQuiet_nil ?_
    intro _ hw'
    obtain ⟨nq, hw''⟩ := hw'
    subst hw''
    go_wp2
    go_ret
    exact ⟨rfl, below_drewN HB.out _⟩
  · have hs0 : s = 0 := by
      rcases Nat.eq_zero_or_pos s with h | h
      · exact h
      · exact absurd (hNs.2 (by omega)) hN2
    obtain rfl : N = 1 := by omega
    subst hs0
    clear hNs g0 g1 hN2 hN1
    go_wp2
    refine wp_region_quiet_lit (by kernel_rfl) (by kernel_rfl) ?_
    repeat (go_big_quiet_step (fail))
    go_big_quiet_want
    go_big_quiet_op
    apply Exists.intro
    refine ⟨fun _ => ?_, ?_⟩
    · go_at_call 27
      exact Calls.quiet_of_same ((HTot.out _ _ _ (HI5.out.belowAll (below_drewN (Below.refl _ _) _))).mono fun _ _ h => ⟨h.1, h.2.symm⟩)
    go_big_quiet_on
    repeat (go_big_quiet_step (fail))
    go_big_quiet_want
    go_big_quiet_op
    apply Exists.intro
    refine ⟨fun _ => ?_, ?_⟩
    · go_at_call 23
      exact Calls.quiet_of_same ((HSp.out _).mono fun _ _ h => ⟨h.1, h.2.symm⟩)
    go_big_quiet_on
    repeat (go_big_quiet_step (fail))
    refine wpQuiet_nil ?_
    intro _ hw'
    obtain ⟨nq, hw''⟩ := hw'
    subst hw''
    go_wp2
    go_ret
    exact ⟨rfl, below_drewN HB.out _⟩
end Go.Proofs.Ytgonanembcnlgaa
