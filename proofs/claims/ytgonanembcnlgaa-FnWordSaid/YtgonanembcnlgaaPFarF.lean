/- The law FnWord: words add up, and are as long as distances. -/
import Derived.Test.YtgonanembcnlgaaDrawF
import Derived.Test.YtgonanembcnlgaaFarMath
import Derived.Test.YtgonanembcnlgaaFarL
namespace Go.Proofs.Ytgonanembcnlgaa
open Go.RowKit Go.Shelf
set_option linter.unusedVariables false
set_option maxRecDepth 20000 in
set_option maxHeartbeats 2000000 in
theorem law_PWord (W : World) (B len cap : Nat) (A : Option Addr) (f : Nat → Nat) (hC : Code W B A len f) (hB : B ≤ W.heap.size) (hlc : len ≤ cap) (hcap : cap ≤ 9223372036854775807) :
    Calls Try.prog 6 #[.slice A len cap] W fun e w' => e = .returned (.bool true) ∧ Below W.heap.size W w' := by
  have HC := Lib.hid (drawFarWord_any W B len cap A f hC hB hlc hcap)
  clear hC
  by_cases hlen : (1048576 : Int) < (len : Int)
  · go_enter Try.func6, Try.ntmps6
    go_wp2
    go_ret
    exact ⟨rfl, Below.refl _ _⟩
  go_enter Try.func6, Try.ntmps6
  go_wp2_with fail
  refine HC.out.mono ?_
  rintro e w1 ⟨n, s, v, rfl, h1, h2, h3, hv1, hv2, hb1⟩
  have HB := Lib.hid hb1
  clear hb1 hB hlc hcap
  by_cases hyes : ¬ NoStep (n : Int) (s : Int) ∧ 0 ≤ v ∧ v < (n : Int) ∧ 0 ≤ distN n s v.toNat
  · obtain ⟨hno, hv3, hv4, hd⟩ := hyes
    have h4 : s.testBit 0 = false := by
      obtain ⟨n', s', hn', hs', _, _, _, h4⟩ := not_noStep hno
      obtain rfl : s = s' := by omega
      exact h4
    obtain ⟨v, rfl⟩ : ∃ m : Nat, v = (m : Int) := ⟨v.toNat, by omega⟩
    have hvn : v < n := by omega
    rw [Int.toNat_natCast] at hd
    obtain ⟨d0, hd0⟩ : ∃ d0 : Nat, distN n s v = (d0 : Int) := ⟨(distN n s v).toNat, by omega⟩
    have hr := distN_range n s v
    have HI := Lib.hid (fun W => (implFarWord_yes n s v d0 W h1 h2 h3 h4 hvn hd0).mono (R' := fun e w' => ListRes W (wordN n s d0 v) true e w') fun e w' h => word_res h)
    have HS := Lib.hid (fun W => (specFarWord_yes n s v d0 W h1 h2 h3 h4 hvn hd0).mono (R' := fun e w' => ListRes W (wordN n s d0 v) true e w') fun e w' h => word_res h)
    have HL := Lib.hid (fun W => implFarList_yes n s W h1 h2 h3 h4)
    obtain ⟨g1, g2, g3⟩ := word_steps n s d0 v h1 h2 h3 h4 hvn hd0
    have hxl := word_len n s d0 v
    have hlv := tabI_get n (distN n s) v hvn
    rw [hd0] at hlv
    have hll := tabI_len n (distN n s)
    have hd12 : d0 ≤ 12 := by omega
    have h40 : s < 2 ^ 40 := Nat.lt_of_lt_of_le h3 (Nat.pow_le_pow_right (by omega) (by omega))
    have hpw := pow_le n h2
    generalize wordN n s d0 v = xs at *
    generalize tabI n (distN n s) = ys at *
    have HTot := Lib.hid (fun (sv : Value) W b h => totalL_any sv xs W b h (by omega) (fun i hi => by
      obtain ⟨k, e1, e2, e3, e4⟩ := g1 i (by omega)
      rw [e1]
      omega))
    rw [hxl] at HTot
    have HG1 : Hid (∀ i, i < d0 → ∃ k : Nat, xs.getD i 0 = (k : Int) ∧ k < n ∧ s.testBit k = true) := Lib.hid (fun i hi => by
      obtain ⟨k, e1, e2, e3, e4⟩ := g1 i hi
      exact ⟨k, e1, e2, e3⟩)
    have HG2 := Lib.hid g2
    generalize sumL xs d0 = T at *
    have hm2 : (T : Int) % (n : Int) = (v : Int) := by rw [← g3]; simp
    have hm1 : Int.tmod (T : Int) (n : Int) = (v : Int) := by rw [Int.tmod_eq_emod_of_nonneg (by omega)]; exact hm2
    have hn0 : ¬ (n : Int) = 0 := by omega
    clear g1 g2 g3 hd hr hd0 hno h4 h3 hpw
    go_wp2_with fail
    refine (HI.out _).mono ?_
    rintro e w2 ⟨sa, rfl, hb2, hI2⟩
    have HI2 := Lib.hid hI2
    clear hI2
    have HB := Lib.hid (HB.out.trans (hb2.mono HB.out.size))
    clear hb2
    go_wp2_with fail
    refine (HS.out _).mono ?_
    rintro e w3 ⟨sb, rfl, hb3, hI3⟩
    have HI3 := Lib.hid hI3
    have HI2' := Lib.hid (HI2.out.belowAll hb3)
    clear hI3
    have HB := Lib.hid (HB.out.trans (hb3.mono HB.out.size))
    clear hb3
    go_wp2_with fail
    refine (sameInts_any _ _ xs _ _ _ HI2'.out HI3.out).mono ?_
    rintro e w4 ⟨rfl, hb4⟩
    have HI4 := Lib.hid (HI2'.out.belowAll hb4)
    have HB := Lib.hid (HB.out.trans (hb4.mono HB.out.size))
    clear hb4
    go_wp2_with fail
    refine (HL.out _).mono ?_
    rintro e w5 ⟨g, cp, rfl, hb5, hI5⟩
    have HI5 := Lib.hid (HI4.out.belowAll hb5)
    have HL5 := Lib.hid hI5
    clear hI5
    have HB := Lib.hid (HB.out.trans (hb5.mono HB.out.size))
    clear hb5
    rcases HI5.out.shape with ⟨rfl, hx0⟩ | ⟨ga, ca, rfl, hg1, hg2, hg3⟩
    · subst hx0
      obtain rfl : d0 = 0 := by rw [← hxl]; rfl
      clear hxl HG1 HG2
      go_wp2
      go_loopw [12] (fun u wr => u = .int .i64 0 ∧ Below w5.heap.size w5 wr) (fun _ _ => 0)
      case atStart => exact ⟨rfl, Below.refl _ _⟩
      case round =>
        obtain ⟨rfl, hBk⟩ := hrel
        have HBk := Lib.hid hBk
        have HLk := Lib.hid (HL5.out.belowAll hBk)
        have HIk := Lib.hid (HI5.out.belowAll hBk)
        clear hBk
        have c2 := HLk.out.cell (i := v) (by rw [hll]; exact hvn)
        rw [hlv] at c2
        have HB9 := Lib.hid (HB.out.trans (HBk.out.mono HB.out.size))
        go_wp2_with (go_at_call 27; refine (HTot.out _ _ _ (by exact HIk.out)).mono ?_; rintro e w' ⟨rfl, rfl⟩)
        go_ret
        exact ⟨rfl, HB9.out⟩
    · rw [hxl] at HI5 ⊢
      clear hg1 hg2 hg3
      go_wp2
      go_loopw [12] (fun u wr => ∃ k : Nat, k ≤ d0 ∧ u = .int .i64 (k : Int) ∧ Below w5.heap.size w5 wr) (fun u _ => d0 - (intOf u).toNat)
      case atStart => exact ⟨0, Nat.zero_le _, rfl, Below.refl _ _⟩
      case round =>
        obtain ⟨k, hk, rfl, hBk⟩ := hrel
        have HBk := Lib.hid hBk
        have HLk := Lib.hid (HL5.out.belowAll hBk)
        have HIk := Lib.hid (HI5.out.belowAll hBk)
        clear hBk
        by_cases hlt : k < d0
        · have c1 := HIk.out.cell (i := k) (by rw [hxl]; exact hlt)
          obtain ⟨z, hz, hzn, hzb⟩ := HG1.out k hlt
          rw [hz] at c1
          have b1 := bit_one h40 hzb
          have z0 : (0 : Int) ≤ (z : Int) := by omega
          have z1 : ¬ (z : Int) < 0 := by omega
          have i1 : (0 : Int) ≤ (k : Int) := by omega
          have i2 : (k : Int) < (d0 : Int) := by omega
          by_cases hk0 : k = 0
          · subst hk0
            go_wp2
            go_quiet (fail)
            go_wp2
            go_roundw
            case rel => exact ⟨0 + 1, by omega, by go_num, below_drewN HBk.out _⟩
            case measure => simp [intOf]; omega
          · obtain ⟨j, rfl⟩ : ∃ j, k = j + 1 := ⟨k - 1, by omega⟩
            have c0 := HIk.out.cell (i := j) (by rw [hxl]; omega)
            obtain ⟨y, hy, hyn, hyb⟩ := HG1.out j (by omega)
            have hyz := HG2.out j (by omega)
            rw [hy] at c0
            rw [hy, hz] at hyz
            have d1 : decide ((0 : Int) < ((j + 1 : Nat) : Int)) = true := decide_eq_true (by omega)
            have d2 : decide ((z : Int) < (y : Int)) = false := decide_eq_false (by omega)
            have d3 : decide ((0 : Int) < (j : Int) + 1) = true := decide_eq_true (by omega)
            go_wp2
            go_quiet (fail)
            go_wp2
            go_roundw
            case rel => exact ⟨j + 1 + 1, by omega, by go_num, below_drewN HBk.out _⟩
            case measure => simp [intOf]; omega
        · obtain rfl : k = d0 := by omega
          have i2 : ¬ (k : Int) < (k : Int) := by omega
          have c2 := HLk.out.cell (i := v) (by rw [hll]; exact hvn)
          rw [hlv] at c2
          have HB9 := Lib.hid (HB.out.trans (HBk.out.mono HB.out.size))
          go_wp2_with (go_at_call 27; refine (HTot.out _ _ _ (by exact HIk.out)).mono ?_; rintro e w' ⟨rfl, rfl⟩)
          go_ret
          exact ⟨rfl, HB9.out⟩
  · have key : (∀ W, Calls Try.prog 25 #[.int .i64 (n:Int), .int .i64 (s:Int), .int .i64 v] W (ListRes W [] false)) ∧ (∀ W, Calls Try.prog 26 #[.int .i64 (n:Int), .int .i64 (s:Int), .int .i64 v] W (ListRes W [] false)) := by
      by_cases hno : NoStep (n : Int) (s : Int)
      · exact ⟨fun W => (implFarWord_no n s v W hno).mono fun e w' h => nil_res h, fun W => (specFarWord_no n s v W hno).mono fun e w' h => none_res h⟩
      · have h4 : s.testBit 0 = false := by
          obtain ⟨n', s', hn', hs', _, _, _, h4⟩ := not_noStep hno
          obtain rfl : s = s' := by omega
          exact h4
        have hwf : (Lit.int .i64 v).wf = true := WalkArith.wf_i64 ⟨by omega, by omega⟩
        by_cases hv : 0 ≤ v ∧ v < (n : Int)
        · obtain ⟨x, rfl⟩ : ∃ m : Nat, v = (m : Int) := ⟨v.toNat, by omega⟩
          have hx : x < n := by omega
          have hd : ¬ 0 ≤ distN n s x := fun h => hyes ⟨hno, hv.1, hv.2, by rw [Int.toNat_natCast]; exact h⟩
          have hin : inS (partN n s) (x : Int) = false := by
            rw [inS_nat]
            cases hb : (partN n s).testBit x
            · rfl
            · exfalso
              apply hd
              unfold distN
              rw [hb]
              simp
          exact ⟨fun W => (implFarWord_not n s x W h1 h2 h3 h4 hwf hin).mono fun e w' h => nil_res h, fun W => (specFarWord_part n s x W h1 h2 h3 h4 hx (by omega)).mono fun e w' h => none_res h⟩
        · have hin : inS (partN n s) v = false := by
            cases hb : inS (partN n s) v
            · rfl
            · exfalso
              simp only [inS, Bool.and_eq_true, decide_eq_true_eq] at hb
              have := ((part_bit n s _ h1).1 hb.2).1
              omega
          exact ⟨fun W => (implFarWord_not n s v W h1 h2 h3 h4 hwf hin).mono fun e w' h => nil_res h, fun W => (specFarWord_out n s v W h1 h2 h3 h4 hv).mono fun e w' h => none_res h⟩
    have HI := Lib.hid key.1
    have HS := Lib.hid key.2
    clear key hyes
    go_wp2_with fail
    refine (HI.out _).mono ?_
    rintro e w2 ⟨sa, rfl, hb2, hI2⟩
    have HI2 := Lib.hid hI2
    clear hI2
    have HB := Lib.hid (HB.out.trans (hb2.mono HB.out.size))
    clear hb2
    go_wp2_with fail
    refine (HS.out _).mono ?_
    rintro e w3 ⟨sb, rfl, hb3, hI3⟩
    have HI3 := Lib.hid hI3
    have HI2' := Lib.hid (HI2.out.belowAll hb3)
    clear hI3
    have HB := Lib.hid (HB.out.trans (hb3.mono HB.out.size))
    clear hb3
    go_wp2_with fail
    refine (sameInts_any _ _ [] _ _ _ HI2'.out HI3.out).mono ?_
    rintro e w4 ⟨rfl, hb4⟩
    have HI4 := Lib.hid (HI2'.out.belowAll hb4)
    have HI5 := Lib.hid (HI3.out.belowAll hb4)
    have HB := Lib.hid (HB.out.trans (hb4.mono HB.out.size))
    clear hb4
    go_wp2_with fail
    refine (sameInts_any _ _ [] _ _ _ HI4.out HI5.out).mono ?_
    rintro e w5 ⟨rfl, hb5⟩
    have HB := Lib.hid (HB.out.trans (hb5.mono HB.out.size))
    clear hb5
    go_wp2
    go_ret
    exact ⟨rfl, HB.out⟩
end Go.Proofs.Ytgonanembcnlgaa
