/- The laws FnStep, FnEven, FnBoth, FnOther, FnPart, FnParts. -/
import Derived.Test.YtgadlhcgaeilcaaStepD
import Derived.Test.YtgadlhcgaeilcaaStepQ
import Derived.Test.YtgadlhcgaeilcaaStepWB
import Derived.Test.YtgadlhcgaeilcaaPost
namespace Go.Proofs.Ytgadlhcgaeilcaa
open Go.RowKit Go.Shelf
set_option linter.unusedVariables false
theorem law_PStep (W : World) (B len cap : Nat) (A : Option Addr) (f : Nat → Nat) (hC : Code W B A len f) (hB : B ≤ W.heap.size) (hlc : len ≤ cap) (hcap : cap ≤ 9223372036854775807) :
    Calls Try.prog 3 #[.slice A len cap] W fun e w' => e = .returned (.bool true) ∧ Below W.heap.size W w' := by
  have HC := Lib.hid (drawStepIn_any W B len cap A f hC hB hlc hcap)
  clear hC
  by_cases hlen : (1048576 : Int) < (len : Int)
  · go_enter Try.func3, Try.ntmps3
    go_wp2
    go_ret
    exact ⟨rfl, Below.refl _ _⟩
  · go_enter Try.func3, Try.ntmps3
    go_wp2_with fail
    refine HC.out.mono ?_
    rintro e w1 ⟨n, s, rfl, h1, h2, h3, hb1⟩
    have HB := Lib.hid hb1
    clear hb1 hB hlc hcap
    by_cases hno : NoStep (n : Int) (s : Int)
    · have HN := Lib.hid hno
      clear hno
      go_wp2_with fail
      refine (implStep_no n s _ HN.out).mono ?_
      rintro e w2 ⟨rfl, hb2⟩
      have HB := Lib.hid (HB.out.trans (hb2.mono HB.out.size))
      clear hb2
      go_wp2_with fail
      refine (specStep_no n s _ HN.out).mono ?_
      rintro e w3 ⟨rfl, rfl⟩
      go_wp2
      go_ret
      exact ⟨rfl, HB.out⟩
    · have h4 : s.testBit 0 = false := by
        obtain ⟨n', s', hn', hs', _, _, _, h4⟩ := not_noStep hno
        obtain rfl : s = s' := by omega
        exact h4
      clear hno
      have HIm := Lib.hid (fun W => implStep_yes n s W h1 h2 h3 h4)
      have HSp := Lib.hid (fun W => specStep_yes n s W h1 h2 h3 h4)
      have HTu := Lib.hid (fun W => implTurn_yes n s (-1) W h1 h2 h3 (by omega) (by omega))
      have HOt := Lib.hid (fun W => implStepOther_yes n s W h1 h2 h3 h4)
      have HX := Lib.hid (fun W => implStep_yes n (turnN n s (-1)) W h1 h2 (turnN_lt n s (-1) h1) (turn_zero_bit n s h1 h3 h4))
      have HY := Lib.hid (fun W => implStep_yes n (otherN n s) W h1 h2 (otherN_lt n s) (other_zero_bit n s))
      generalize turnN n s (-1) = x at *
      generalize otherN n s = y at *
      go_wp2_with fail
      refine (HIm.out _).mono ?_
      rintro e w2 ⟨rfl, hb2⟩
      have HB := Lib.hid (HB.out.trans (hb2.mono HB.out.size))
      clear hb2
      go_wp2_with fail
      refine (HSp.out _).mono ?_
      rintro e w3 ⟨rfl, rfl⟩
      go_wp2_with fail
      refine (HTu.out _).mono ?_
      rintro e w4 ⟨rfl, hb4⟩
      have HB := Lib.hid (HB.out.trans (hb4.mono HB.out.size))
      clear hb4
      go_wp2_with fail
      refine (HOt.out _).mono ?_
      rintro e w5 ⟨rfl, hb5⟩
      have HB := Lib.hid (HB.out.trans (hb5.mono HB.out.size))
      clear hb5
      go_wp2_with fail
      refine (HX.out _).mono ?_
      rintro e w6 ⟨rfl, hb6⟩
      have HB := Lib.hid (HB.out.trans (hb6.mono HB.out.size))
      clear hb6
      go_wp2_with fail
      refine (HY.out _).mono ?_
      rintro e w7 ⟨rfl, hb7⟩
      have HB := Lib.hid (HB.out.trans (hb7.mono HB.out.size))
      clear hb7
      go_wp2
      go_ret
      exact ⟨rfl, HB.out⟩
theorem law_PEven (W : World) (B len cap : Nat) (A : Option Addr) (f : Nat → Nat) (hC : Code W B A len f) (hB : B ≤ W.heap.size) (hlc : len ≤ cap) (hcap : cap ≤ 9223372036854775807) :
    Calls Try.prog 4 #[.slice A len cap] W fun e w' => e = .returned (.bool true) ∧ Below W.heap.size W w' := by
  have HC := Lib.hid (drawStepEven_any W B len cap A f hC hB hlc hcap)
  clear hC
  by_cases hlen : (1048576 : Int) < (len : Int)
  · go_enter Try.func4, Try.ntmps4
    go_wp2
    go_ret
    exact ⟨rfl, Below.refl _ _⟩
  · go_enter Try.func4, Try.ntmps4
    go_wp2_with fail
    refine HC.out.mono ?_
    rintro e w1 ⟨n, s, rfl, h1, h2, h3, hb1⟩
    have HB := Lib.hid hb1
    clear hb1 hB hlc hcap
    by_cases hno : NoStep (n : Int) (s : Int)
    · have HN := Lib.hid hno
      clear hno
      go_wp2_with fail
      refine (implStepEven_no n s _ HN.out).mono ?_
      rintro e w2 ⟨rfl, hb2⟩
      have HB := Lib.hid (HB.out.trans (hb2.mono HB.out.size))
      clear hb2
      go_wp2_with fail
      refine (specStepEven_no n s _ HN.out).mono ?_
      rintro e w3 ⟨rfl, rfl⟩
      go_wp2
      go_ret
      exact ⟨rfl, HB.out⟩
    · have h4 : s.testBit 0 = false := by
        obtain ⟨n', s', hn', hs', _, _, _, h4⟩ := not_noStep hno
        obtain rfl : s = s' := by omega
        exact h4
      clear hno
      have him := fun W => implStepEven_yes n s W h1 h2 h3 h4
      have hsp := fun W => specStepEven_yes n s W h1 h2 h3 h4
      have hot := fun W => implStepOther_yes n s W h1 h2 h3 h4
      have hbo := fun W => implStepBoth_yes n s W h1 h2 h3 h4
      have hev := fun W => implStepEven_yes n (otherN n s) W h1 h2 (otherN_lt n s) (other_zero_bit n s)
      have heo := even_other n s h1 h3
      by_cases he : bothN n s = s
      · rw [show decide (bothN n s = s) = true from by simpa using he] at him hsp
        rw [show decide (bothN n (otherN n s) = otherN n s) = true from by simpa using heo he] at hev
        rw [he] at hbo
        clear heo he
        generalize otherN n s = o at *
        have HIm := Lib.hid him
        have HSp := Lib.hid hsp
        have HOt := Lib.hid hot
        have HBo := Lib.hid hbo
        have HEv := Lib.hid hev
        clear him hsp hot hbo hev
        go_wp2_with fail
        refine (HIm.out _).mono ?_
        rintro e w2 ⟨rfl, hb2⟩
        have HB := Lib.hid (HB.out.trans (hb2.mono HB.out.size))
        clear hb2
        go_wp2_with fail
        refine (HSp.out _).mono ?_
        rintro e w3 ⟨rfl, rfl⟩
        go_wp2_with fail
        refine (HOt.out _).mono ?_
        rintro e w4 ⟨rfl, hb4⟩
        have HB := Lib.hid (HB.out.trans (hb4.mono HB.out.size))
        clear hb4
        go_wp2_with fail
        refine (HBo.out _).mono ?_
        rintro e w5 ⟨rfl, hb5⟩
        have HB := Lib.hid (HB.out.trans (hb5.mono HB.out.size))
        clear hb5
        go_wp2_with fail
        refine (HEv.out _).mono ?_
        rintro e w6 ⟨rfl, hb6⟩
        have HB := Lib.hid (HB.out.trans (hb6.mono HB.out.size))
        clear hb6
        go_wp2
        go_ret
        exact ⟨rfl, HB.out⟩
      · rw [show decide (bothN n s = s) = false from by simpa using he] at him hsp
        have HIm := Lib.hid him
        have HSp := Lib.hid hsp
        clear him hsp hot hbo hev heo he
        go_wp2_with fail
        refine (HIm.out _).mono ?_
        rintro e w2 ⟨rfl, hb2⟩
        have HB := Lib.hid (HB.out.trans (hb2.mono HB.out.size))
        clear hb2
        go_wp2_with fail
        refine (HSp.out _).mono ?_
        rintro e w3 ⟨rfl, rfl⟩
        go_wp2
        go_ret
        exact ⟨rfl, HB.out⟩
theorem law_PBoth (W : World) (B len cap : Nat) (A : Option Addr) (f : Nat → Nat) (hC : Code W B A len f) (hB : B ≤ W.heap.size) (hlc : len ≤ cap) (hcap : cap ≤ 9223372036854775807) :
    Calls Try.prog 5 #[.slice A len cap] W fun e w' => e = .returned (.bool true) ∧ Below W.heap.size W w' := by
  have HC := Lib.hid (drawStepBoth_any W B len cap A f hC hB hlc hcap)
  clear hC
  by_cases hlen : (1048576 : Int) < (len : Int)
  · go_enter Try.func5, Try.ntmps5
    go_wp2
    go_ret
    exact ⟨rfl, Below.refl _ _⟩
  · go_enter Try.func5, Try.ntmps5
    go_wp2_with fail
    refine HC.out.mono ?_
    rintro e w1 ⟨n, s, rfl, h1, h2, h3, hb1⟩
    have HB := Lib.hid hb1
    clear hb1 hB hlc hcap
    by_cases hno : NoStep (n : Int) (s : Int)
    · have HN := Lib.hid hno
      clear hno
      go_wp2_with fail
      refine (implStepBoth_no n s _ HN.out).mono ?_
      rintro e w2 ⟨rfl, hb2⟩
      have HB := Lib.hid (HB.out.trans (hb2.mono HB.out.size))
      clear hb2
      go_wp2_with fail
      refine (specStepBoth_no n s _ HN.out).mono ?_
      rintro e w3 ⟨rfl, rfl⟩
      go_wp2
      go_ret
      exact ⟨rfl, HB.out⟩
    · have h4 : s.testBit 0 = false := by
        obtain ⟨n', s', hn', hs', _, _, _, h4⟩ := not_noStep hno
        obtain rfl : s = s' := by omega
        exact h4
      clear hno
      have hpw := pow_le n h2
      have hbl := bothN_lt n s h1 h3
      have hb0 := both_zero_bit n s h1 h3 h4
      have him := fun W => implStepBoth_yes n s W h1 h2 h3 h4
      have hsp := fun W => specStepBoth_yes n s W h1 h2 h3 h4
      have hbo := fun W => implStepBoth_yes n (bothN n s) W h1 h2 hbl hb0
      have hev := fun W => implStepEven_yes n (bothN n s) W h1 h2 hbl hb0
      rw [show decide (bothN n (bothN n s) = bothN n s) = true from by simpa using both_both n s h1 h3] at hev
      rw [both_both n s h1 h3] at hbo
      have hle := less_nat s (bothN n s) (by omega) (by omega)
      rw [both_sub n s] at hle
      generalize bothN n s = b at *
      have HIm := Lib.hid him
      have HSp := Lib.hid hsp
      have HBo := Lib.hid hbo
      have HEv := Lib.hid hev
      clear him hsp hbo hev
      go_wp2_with fail
      refine (HIm.out _).mono ?_
      rintro e w2 ⟨rfl, hb2⟩
      have HB := Lib.hid (HB.out.trans (hb2.mono HB.out.size))
      clear hb2
      go_wp2_with fail
      refine (HSp.out _).mono ?_
      rintro e w3 ⟨rfl, rfl⟩
      go_wp2_with fail
      refine (HBo.out _).mono ?_
      rintro e w4 ⟨rfl, hb4⟩
      have HB := Lib.hid (HB.out.trans (hb4.mono HB.out.size))
      clear hb4
      go_wp2_with fail
      refine (HEv.out _).mono ?_
      rintro e w5 ⟨rfl, hb5⟩
      have HB := Lib.hid (HB.out.trans (hb5.mono HB.out.size))
      clear hb5
      go_wp2
      go_ret
      exact ⟨rfl, HB.out⟩
theorem law_POther (W : World) (B len cap : Nat) (A : Option Addr) (f : Nat → Nat) (hC : Code W B A len f) (hB : B ≤ W.heap.size) (hlc : len ≤ cap) (hcap : cap ≤ 9223372036854775807) :
    Calls Try.prog 6 #[.slice A len cap] W fun e w' => e = .returned (.bool true) ∧ Below W.heap.size W w' := by
  have HC := Lib.hid (drawStepOther_any W B len cap A f hC hB hlc hcap)
  clear hC
  by_cases hlen : (1048576 : Int) < (len : Int)
  · go_enter Try.func6, Try.ntmps6
    go_wp2
    go_ret
    exact ⟨rfl, Below.refl _ _⟩
  · go_enter Try.func6, Try.ntmps6
    go_wp2_with fail
    refine HC.out.mono ?_
    rintro e w1 ⟨n, s, rfl, h1, h2, h3, hb1⟩
    have HB := Lib.hid hb1
    clear hb1 hB hlc hcap
    by_cases hno : NoStep (n : Int) (s : Int)
    · have HN := Lib.hid hno
      clear hno
      go_wp2_with fail
      refine (implStepOther_no n s _ HN.out).mono ?_
      rintro e w2 ⟨rfl, hb2⟩
      have HB := Lib.hid (HB.out.trans (hb2.mono HB.out.size))
      clear hb2
      go_wp2_with fail
      refine (specStepOther_no n s _ HN.out).mono ?_
      rintro e w3 ⟨rfl, rfl⟩
      go_wp2
      go_ret
      exact ⟨rfl, HB.out⟩
    · have h4 : s.testBit 0 = false := by
        obtain ⟨n', s', hn', hs', _, _, _, h4⟩ := not_noStep hno
        obtain rfl : s = s' := by omega
        exact h4
      clear hno
      have hpw := pow_le n h2
      have hol := otherN_lt n s
      have ho0 := other_zero_bit n s
      have him := fun W => implStepOther_yes n s W h1 h2 h3 h4
      have hsp := fun W => specStepOther_yes n s W h1 h2 h3 h4
      have hot := fun W => implStepOther_yes n (otherN n s) W h1 h2 hol ho0
      rw [other_other n s h3 h4] at hot
      have hpa := fun W => implStepParts_yes n s W h1 h2 h3 h4
      have hpb := fun W => implStepParts_yes n (otherN n s) W h1 h2 hol ho0
      have hsa := fun W => size_any s W (by omega)
      have hsb := fun W => size_any (otherN n s) W (by omega)
      have hsz := other_size n s h1 h2 h3 h4
      have hand := and_nat s (otherN n s) (by omega) (by omega)
      rw [other_and n s] at hand
      have hone := parts_one n s h1
      generalize otherN n s = o at *
      generalize sizeN s = zs at *
      generalize sizeN o = zo at *
      have hadd : IntKind.i64.wrap ((zs : Int) + (zo : Int)) = ((n : Int) - 1) := by rw [IntWalk.i64_in _ (by omega)]; omega
      have hsub : IntKind.i64.wrap ((n : Int) - 1) = ((n : Int) - 1) := IntWalk.i64_in _ (by omega)
      have HIm := Lib.hid him
      have HSp := Lib.hid hsp
      have HOt := Lib.hid hot
      have HPa := Lib.hid hpa
      have HPb := Lib.hid hpb
      have HSa := Lib.hid hsa
      have HSb := Lib.hid hsb
      clear him hsp hot hpa hpb hsa hsb hsz
      generalize partsN n s = pa at *
      generalize partsN n o = pb at *
      by_cases ha : pa = 1
      · subst ha
        clear hone
        go_wp2_with fail
        refine (HIm.out _).mono ?_
        rintro e w2 ⟨rfl, hb2⟩
        have HB := Lib.hid (HB.out.trans (hb2.mono HB.out.size))
        clear hb2
        go_wp2_with fail
        refine (HSp.out _).mono ?_
        rintro e w3 ⟨rfl, rfl⟩
        go_wp2_with fail
        refine (HOt.out _).mono ?_
        rintro e w4 ⟨rfl, hb4⟩
        have HB := Lib.hid (HB.out.trans (hb4.mono HB.out.size))
        clear hb4
        go_wp2_with fail
        refine (HPa.out _).mono ?_
        rintro e w5 ⟨rfl, hb5⟩
        have HB := Lib.hid (HB.out.trans (hb5.mono HB.out.size))
        clear hb5
        go_wp2_with fail
        refine (HPb.out _).mono ?_
        rintro e w6 ⟨rfl, hb6⟩
        have HB := Lib.hid (HB.out.trans (hb6.mono HB.out.size))
        clear hb6
        go_wp2_with fail
        refine (HSa.out _).mono ?_
        rintro e w7 ⟨rfl, rfl⟩
        go_wp2_with fail
        refine (HSb.out _).mono ?_
        rintro e w8 ⟨rfl, rfl⟩
        go_wp2
        go_ret
        exact ⟨rfl, HB.out⟩
      · have hpb1 : pb = 1 := by omega
        subst hpb1
        have haz : ((pa : Int) == 1) = false := by simp; omega
        clear hone
        go_wp2_with fail
        refine (HIm.out _).mono ?_
        rintro e w2 ⟨rfl, hb2⟩
        have HB := Lib.hid (HB.out.trans (hb2.mono HB.out.size))
        clear hb2
        go_wp2_with fail
        refine (HSp.out _).mono ?_
        rintro e w3 ⟨rfl, rfl⟩
        go_wp2_with fail
        refine (HOt.out _).mono ?_
        rintro e w4 ⟨rfl, hb4⟩
        have HB := Lib.hid (HB.out.trans (hb4.mono HB.out.size))
        clear hb4
        go_wp2_with fail
        refine (HPa.out _).mono ?_
        rintro e w5 ⟨rfl, hb5⟩
        have HB := Lib.hid (HB.out.trans (hb5.mono HB.out.size))
        clear hb5
        go_wp2_with fail
        refine (HPb.out _).mono ?_
        rintro e w6 ⟨rfl, hb6⟩
        have HB := Lib.hid (HB.out.trans (hb6.mono HB.out.size))
        clear hb6
        go_wp2_with fail
        refine (HSa.out _).mono ?_
        rintro e w7 ⟨rfl, rfl⟩
        go_wp2_with fail
        refine (HSb.out _).mono ?_
        rintro e w8 ⟨rfl, rfl⟩
        go_wp2
        go_ret
        exact ⟨rfl, HB.out⟩
theorem law_PPart (W : World) (B len cap : Nat) (A : Option Addr) (f : Nat → Nat) (hC : Code W B A len f) (hB : B ≤ W.heap.size) (hlc : len ≤ cap) (hcap : cap ≤ 9223372036854775807) :
    Calls Try.prog 8 #[.slice A len cap] W fun e w' => e = .returned (.bool true) ∧ Below W.heap.size W w' := by
  have HC := Lib.hid (drawStepPart_any W B len cap A f hC hB hlc hcap)
  clear hC
  by_cases hlen : (1048576 : Int) < (len : Int)
  · go_enter Try.func8, Try.ntmps8
    go_wp2
    go_ret
    exact ⟨rfl, Below.refl _ _⟩
  · go_enter Try.func8, Try.ntmps8
    go_wp2_with fail
    refine HC.out.mono ?_
    rintro e w1 ⟨n, s, rfl, h1, h2, h3, hb1⟩
    have HB := Lib.hid hb1
    clear hb1 hB hlc hcap
    by_cases hno : NoStep (n : Int) (s : Int)
    · have HN := Lib.hid hno
      clear hno
      go_wp2_with fail
      refine (implStepPart_no n s _ HN.out).mono ?_
      rintro e w2 ⟨rfl, hb2⟩
      have HB := Lib.hid (HB.out.trans (hb2.mono HB.out.size))
      clear hb2
      go_wp2_with fail
      refine (specStepPart_no n s _ HN.out).mono ?_
      rintro e w3 ⟨rfl, rfl⟩
      go_wp2
      go_ret
      exact ⟨rfl, HB.out⟩
    · have h4 : s.testBit 0 = false := by
        obtain ⟨n', s', hn', hs', _, _, _, h4⟩ := not_noStep hno
        obtain rfl : s = s' := by omega
        exact h4
      clear hno
      have hpw := pow_le n h2
      have hpl := partN_lt n s h1
      obtain ⟨hf1, hf2⟩ := part_facts n s h1 h2
      have him := fun W => implStepPart_yes n s W h1 h2 h3 h4
      have hsp := fun W => specStepPart_yes n s W h1 h2 h3 h4
      have hpa := fun W => implStepParts_yes n s W h1 h2 h3 h4
      have hho := fun W => implHolds_yes n (partN n s) W h1 h2 hpl
      rw [hf2] at hho
      have hsz := fun W => size_any (partN n s) W (by omega)
      have hmul : IntKind.i64.wrap (((sizeN (partN n s) : Nat) : Int) * ((partsN n s : Nat) : Int)) = (n : Int) := by
        rw [← Int.natCast_mul, hf1]
        exact IntWalk.i64_in _ (by omega)
      clear hf1 hf2
      generalize partN n s = o at *
      generalize partsN n s = k at *
      generalize sizeN o = z at *
      have HIm := Lib.hid him
      have HSp := Lib.hid hsp
      have HPa := Lib.hid hpa
      have HHo := Lib.hid hho
      have HSz := Lib.hid hsz
      clear him hsp hpa hho hsz
      go_wp2_with fail
      refine (HIm.out _).mono ?_
      rintro e w2 ⟨rfl, hb2⟩
      have HB := Lib.hid (HB.out.trans (hb2.mono HB.out.size))
      clear hb2
      go_wp2_with fail
      refine (HSp.out _).mono ?_
      rintro e w3 ⟨rfl, rfl⟩
      go_wp2_with fail
      refine (HPa.out _).mono ?_
      rintro e w4 ⟨rfl, hb4⟩
      have HB := Lib.hid (HB.out.trans (hb4.mono HB.out.size))
      clear hb4
      go_wp2_with fail
      refine (HHo.out _).mono ?_
      rintro e w5 ⟨rfl, hb5⟩
      have HB := Lib.hid (HB.out.trans (hb5.mono HB.out.size))
      clear hb5
      go_wp2_with fail
      refine (HSz.out _).mono ?_
      rintro e w6 ⟨rfl, rfl⟩
      go_wp2
      go_ret
      exact ⟨rfl, HB.out⟩
theorem law_PParts (W : World) (B len cap : Nat) (A : Option Addr) (f : Nat → Nat) (hC : Code W B A len f) (hB : B ≤ W.heap.size) (hlc : len ≤ cap) (hcap : cap ≤ 9223372036854775807) :
    Calls Try.prog 9 #[.slice A len cap] W fun e w' => e = .returned (.bool true) ∧ Below W.heap.size W w' := by
  have HC := Lib.hid (drawStepParts_any W B len cap A f hC hB hlc hcap)
  clear hC
  by_cases hlen : (1048576 : Int) < (len : Int)
  · go_enter Try.func9, Try.ntmps9
    go_wp2
    go_ret
    exact ⟨rfl, Below.refl _ _⟩
  · go_enter Try.func9, Try.ntmps9
    go_wp2_with fail
    refine HC.out.mono ?_
    rintro e w1 ⟨n, s, rfl, h1, h2, h3, hb1⟩
    have HB := Lib.hid hb1
    clear hb1 hB hlc hcap
    by_cases hno : NoStep (n : Int) (s : Int)
    · have HN := Lib.hid hno
      clear hno
      go_wp2_with fail
      refine (implStepParts_no n s _ HN.out).mono ?_
      rintro e w2 ⟨rfl, hb2⟩
      have HB := Lib.hid (HB.out.trans (hb2.mono HB.out.size))
      clear hb2
      go_wp2_with fail
      refine (specStepParts_no n s _ HN.out).mono ?_
      rintro e w3 ⟨rfl, rfl⟩
      go_wp2
      go_ret
      exact ⟨rfl, HB.out⟩
    · have h4 : s.testBit 0 = false := by
        obtain ⟨n', s', hn', hs', _, _, _, h4⟩ := not_noStep hno
        obtain rfl : s = s' := by omega
        exact h4
      clear hno
      have hpw := pow_le n h2
      have hbl := bothN_lt n s h1 h3
      have hb0 := both_zero_bit n s h1 h3 h4
      have him := fun W => implStepParts_yes n s W h1 h2 h3 h4
      have hsp := fun W => specStepParts_yes n s W h1 h2 h3 h4
      have hbo := fun W => implStepBoth_yes n s W h1 h2 h3 h4
      have hpb := fun W => implStepParts_yes n (bothN n s) W h1 h2 hbl hb0
      rw [parts_both n s h1 h3] at hpb
      obtain ⟨hg1, hg2⟩ := partsN_pos n s h1
      have hdn : n % partsN n s = 0 := Nat.mod_eq_zero_of_dvd (parts_dvd_n n s n)
      have HD : Hid (∀ v, v < n → s.testBit v = true → v % partsN n s = 0) := Lib.hid (fun v hv hb => Nat.mod_eq_zero_of_dvd (parts_dvd_step n s n v hv hb))
      generalize bothN n s = b at *
      generalize partsN n s = g at *
      have HIm := Lib.hid him
      have HSp := Lib.hid hsp
      have HBo := Lib.hid hbo
      have HPb := Lib.hid hpb
      clear him hsp hbo hpb
      have hgz : ((g : Int) = 0) = False := by simp; omega
      have hgz2 : ((g : Int) == 0) = false := by simp; omega
      have hnm : ((n : Int)).tmod (g : Int) = 0 := by rw [← Int.ofNat_tmod, hdn]; rfl
      have hnm2 : ((n : Int)) % (g : Int) = 0 := by rw [← Int.natCast_emod, hdn]; rfl
      clear hdn
      go_wp2_with fail
      refine (HIm.out _).mono ?_
      rintro e w2 ⟨rfl, hb2⟩
      have HB := Lib.hid (HB.out.trans (hb2.mono HB.out.size))
      clear hb2
      go_wp2_with fail
      refine (HSp.out _).mono ?_
      rintro e w3 ⟨rfl, rfl⟩
      go_wp2_with fail
      refine (HBo.out _).mono ?_
      rintro e w4 ⟨rfl, hb4⟩
      have HB := Lib.hid (HB.out.trans (hb4.mono HB.out.size))
      clear hb4
      go_wp2_with fail
      refine (HPb.out _).mono ?_
      rintro e w5 ⟨rfl, hb5⟩
      have HB := Lib.hid (HB.out.trans (hb5.mono HB.out.size))
      clear hb5
      go_wp2
      go_loop [13] (fun v => ∃ j : Nat, 1 ≤ j ∧ j ≤ n ∧ v = .int .i64 (j : Int)) (fun v => n - (intOf v).toNat)
      case atStart => exact ⟨1, by omega, h1, rfl⟩
      case round =>
        obtain ⟨j, hj1, hj, rfl⟩ := hrel
        by_cases hlt : j < n
        · have hbt := has_nat s j (by omega)
          have hD := HD.out j hlt
          by_cases hbit : s.testBit j = true
          · have hd0 := hD hbit
            have hjm : ((j : Int)).tmod (g : Int) = 0 := by rw [← Int.ofNat_tmod, hd0]; rfl
            have hjm2 : ((j : Int)) % (g : Int) = 0 := by rw [← Int.natCast_emod, hd0]; rfl
            clear hd0 hD
            go_wp2
            go_round
            case rel => exact ⟨j + 1, by omega, by omega, by go_num⟩
            case measure => simp [intOf]; omega
          · have hbit' : s.testBit j = false := by simpa using hbit
            clear hD
            go_wp2
            go_round
            case rel => exact ⟨j + 1, by omega, by omega, by go_num⟩
            case measure => simp [intOf]; omega
        · have e : j = n := by omega
          subst e
          go_wp2
          go_ret
          exact ⟨rfl, HB.out⟩
end Go.Proofs.Ytgadlhcgaeilcaa
