/- Promises of chapter 8 over given contracts: plays, threes, two steps, equal plays. Written by gen67.py. -/
import Derived.Test.YtaklmepioeoohaaGQ
import Derived.Test.YtaklmepioeoohaaDrawI
import Derived.Test.YtaklmepioeoohaaGB
import Derived.Test.YtaklmepioeoohaaStepWA
import Derived.Test.YtaklmepioeoohaaGF
import Derived.Test.YtaklmepioeoohaaPDifA
namespace Go.Proofs.Ytaklmepioeoohaa
open Go.RowKit Go.Shelf
set_option linter.unusedVariables false
theorem three_nums (n K : Nat) (h3 : 3 ≤ n) (h12 : n ≤ 12) (hk : 24 * K = (n + 1) * n * (n - 1)) : ∃ X1 X2 X3 N1 : Nat, (IntKind.i64.wrap (24 * (K : Int)) = (X3 : Int) ∧ wrap64 (24 * (K : Int)) = (X3 : Int)) ∧ (IntKind.i64.wrap ((n : Int) + 1) = (X1 : Int) ∧ wrap64 ((n : Int) + 1) = (X1 : Int)) ∧ (IntKind.i64.wrap ((X1 : Int) * (n : Int)) = (X2 : Int) ∧ wrap64 ((X1 : Int) * (n : Int)) = (X2 : Int)) ∧ (IntKind.i64.wrap ((n : Int) - 1) = (N1 : Int) ∧ wrap64 ((n : Int) - 1) = (N1 : Int)) ∧ (IntKind.i64.wrap ((X2 : Int) * (N1 : Int)) = (X3 : Int) ∧ wrap64 ((X2 : Int) * (N1 : Int)) = (X3 : Int)) := by
  have b2 : (n + 1) * n ≤ 13 * 12 := Nat.mul_le_mul (by omega) h12
  have b3 : (n + 1) * n * (n - 1) ≤ 13 * 12 * 12 := Nat.mul_le_mul b2 (by omega)
  refine ⟨n + 1, (n + 1) * n, (n + 1) * n * (n - 1), n - 1, two_wraps _ _ ?_ (Nat.le_trans b3 (by omega)), two_wraps _ _ (by omega) (by omega), two_wraps _ _ (Int.natCast_mul _ _).symm (Nat.le_trans b2 (by omega)), two_wraps _ _ (by omega) (by omega), two_wraps _ _ (Int.natCast_mul _ _).symm (Nat.le_trans b3 (by omega))⟩
  rw [← hk]
  exact (Int.natCast_mul 24 K).symm
theorem four_nums (n d : Nat) (h12 : n ≤ 12) (h : n = 4 * d + 3) : ∃ T : Nat, (IntKind.i64.wrap (4 * (d : Int)) = (T : Int) ∧ wrap64 (4 * (d : Int)) = (T : Int)) ∧ (IntKind.i64.wrap ((T : Int) + 3) = (n : Int) ∧ wrap64 ((T : Int) + 3) = (n : Int)) :=
  ⟨4 * d, two_wraps _ _ (by omega) (by omega), two_wraps _ _ (by omega) (by omega)⟩
theorem evZ_yes (n s : Nat) (h : evenB n s = true) : evZ n s = difN n s 1 := by unfold evZ; rw [h]; rfl
theorem evZ_no (n s : Nat) (h : evenB n s = false) : evZ n s = 0 := by unfold evZ; rw [h]; rfl
set_option maxHeartbeats 1000000 in
set_option maxRecDepth 4000 in
theorem lawP_FnPlay (W : World) (B len cap : Nat) (A : Option Addr) (f : Nat → Nat) (hC : Code W B A len f) (hB : B ≤ W.heap.size) (hlc : len ≤ cap) (hcap : cap ≤ 9223372036854775807)
    (hN : NoPlayIn) (hY : YesPlayIn) :
    Calls Try.prog 3 #[.slice A len cap] W fun e w' => e = .returned (.bool true) ∧ Below W.heap.size W w' := by
  have HC := Lib.hid (drawPlayIn_any W B len cap A f hC hB hlc hcap)
  clear hC
  by_cases hlen : (1048576 : Int) < (len : Int)
  · go_enter Try.func3, Try.ntmps3
    go_wp2
    go_ret
    exact ⟨rfl, Below.refl _ _⟩
  go_enter Try.func3, Try.ntmps3
  go_wp2_with fail
  refine HC.out.mono ?_
  rintro e w1 ⟨n, s, rfl, hn1, hn13, hs13, hbl⟩
  have HB := Lib.hid hbl
  clear hbl hB hlc hcap
  by_cases hno : NoPlay (n : Int) (s : Int)
  · have HI := Lib.hid (fun W => hN n s W hno)
    have HS := Lib.hid (fun W => specPlayIn_no n s W hno)
    clear hno
    go_wp2_with fail
    refine (HI.out _).mono ?_
    rintro e w2 ⟨rfl, hb2⟩
    have HB := Lib.hid (HB.out.trans (hb2.mono HB.out.size))
    clear hb2
    go_wp2_with fail
    refine (HS.out _).mono ?_
    rintro e w3 ⟨rfl, rfl⟩
    go_wp2
    go_ret
    exact ⟨rfl, HB.out⟩
  obtain ⟨n', s', hn', hs', h3, h12, hs, hp⟩ := not_noPlay hno
  obtain rfl : n = n' := by omega
  obtain rfl : s = s' := by omega
  clear hn' hs' hno hs13
  obtain ⟨q1, q2, q3, q4, q5, q6, q7⟩ := play_says n s h12 hs hp
  obtain ⟨p1, p2, p3, p4, p5⟩ := (play_iff n s).1 hp
  have HI := Lib.hid (fun W => hY n s W h12 hs hp)
  have HS := Lib.hid (fun W => specPlayIn_yes n s W h12 hs hp)
  have hT := fun W => implTurn_yes n s (-1) W (by omega) h12 hs (by omega) (by omega)
  have HO := Lib.hid (fun W => implStepOther_yes n s W (by omega) h12 hs p3)
  have hB := fun W => implStepBoth_yes n s W (by omega) h12 hs p3
  have htl := turnN_lt n s (-1) (by omega)
  have hJ := fun W => hY n (turnN n s (-1)) W h12 htl q2
  have hbo : bothN n s = 2 ^ n - 2 := p5
  obtain ⟨e1, e2, e3, e4⟩ := pow2_less n (by omega) h12
  rw [hbo] at hB
  rw [q1] at hT hJ
  have HT := Lib.hid hT
  have HB2 := Lib.hid hB
  have HJ := Lib.hid hJ
  generalize otherN n s = t at *
  generalize 2 ^ n - 2 = Q at *
  generalize 2 ^ n = P at *
  clear hN hY hs hp htl q1 q2 q3 q4 q5 q6 q7 p2 p3 p4 p5 hT hB hJ hbo
  go_wp2_with fail
  refine (HI.out _).mono ?_
  rintro e w2 ⟨rfl, hb2⟩
  have HB := Lib.hid (HB.out.trans (hb2.mono HB.out.size))
  clear hb2
  go_wp2_with fail
  refine (HS.out _).mono ?_
  rintro e w3 ⟨rfl, rfl⟩
  go_wp2_with fail
  refine (HT.out _).mono ?_
  rintro e w4 ⟨rfl, hb4⟩
  have HB := Lib.hid (HB.out.trans (hb4.mono HB.out.size))
  clear hb4
  go_wp2_with fail
  refine (HO.out _).mono ?_
  rintro e w5 ⟨rfl, hb5⟩
  have HB := Lib.hid (HB.out.trans (hb5.mono HB.out.size))
  clear hb5
  go_wp2_with fail
  refine (HB2.out _).mono ?_
  rintro e w6 ⟨rfl, hb6⟩
  have HB := Lib.hid (HB.out.trans (hb6.mono HB.out.size))
  clear hb6
  go_wp2_with fail
  refine (HJ.out _).mono ?_
  rintro e w7 ⟨rfl, hb7⟩
  have HB := Lib.hid (HB.out.trans (hb7.mono HB.out.size))
  clear hb7
  go_wp2
  go_ret
  exact ⟨rfl, HB.out⟩
set_option maxHeartbeats 1000000 in
set_option maxRecDepth 4000 in
theorem lawP_FnThree (W : World) (B len cap : Nat) (A : Option Addr) (f : Nat → Nat) (hC : Code W B A len f) (hB : B ≤ W.heap.size) (hlc : len ≤ cap) (hcap : cap ≤ 9223372036854775807)
    (hN : NoPlayThree) (hY : YesPlayThree) :
    Calls Try.prog 5 #[.slice A len cap] W fun e w' => e = .returned (.bool true) ∧ Below W.heap.size W w' := by
  have HC := Lib.hid (drawPlayThree_any W B len cap A f hC hB hlc hcap)
  clear hC
  by_cases hlen : (1048576 : Int) < (len : Int)
  · go_enter Try.func5, Try.ntmps5
    go_wp2
    go_ret
    exact ⟨rfl, Below.refl _ _⟩
  go_enter Try.func5, Try.ntmps5
  go_wp2_with fail
  refine HC.out.mono ?_
  rintro e w1 ⟨n, s, rfl, hn1, hn13, hs13, hbl⟩
  have HB := Lib.hid hbl
  clear hbl hB hlc hcap
  by_cases hno : NoPlay (n : Int) (s : Int)
  · have HI := Lib.hid (fun W => hN n s W hno)
    have HS := Lib.hid (fun W => specPlayThree_no n s W hno)
    clear hno
    go_wp2_with fail
    refine (HI.out _).mono ?_
    rintro e w2 ⟨rfl, hb2⟩
    have HB := Lib.hid (HB.out.trans (hb2.mono HB.out.size))
    clear hb2
    go_wp2_with fail
    refine (HS.out _).mono ?_
    rintro e w3 ⟨rfl, rfl⟩
    go_wp2
    go_ret
    exact ⟨rfl, HB.out⟩
  obtain ⟨n', s', hn', hs', h3, h12, hs, hp⟩ := not_noPlay hno
  obtain rfl : n = n' := by omega
  obtain rfl : s = s' := by omega
  clear hn' hs' hno hs13
  obtain ⟨q1, q2, q3, q4, q5, q6, q7⟩ := play_says n s h12 hs hp
  obtain ⟨p1, p2, p3, p4, p5⟩ := (play_iff n s).1 hp
  have HI := Lib.hid (fun W => hY n s W h12 hs hp)
  have HS := Lib.hid (fun W => specPlayThree_yes n s W h12 hs hp)
  obtain ⟨X1, X2, X3, N1, ⟨e1, e2⟩, ⟨e3, e4⟩, ⟨e5, e6⟩, ⟨e7, e8⟩, ⟨e9, e10⟩⟩ := three_nums n (threeN n s) h3 h12 q3
  generalize threeN n s = K at *
  clear hN hY hs hp q1 q2 q3 q4 q5 q6 q7 p2 p3 p4 p5
  go_wp2_with fail
  refine (HI.out _).mono ?_
  rintro e w2 ⟨rfl, hb2⟩
  have HB := Lib.hid (HB.out.trans (hb2.mono HB.out.size))
  clear hb2
  go_wp2_with fail
  refine (HS.out _).mono ?_
  rintro e w3 ⟨rfl, rfl⟩
  go_wp2
  go_ret
  exact ⟨rfl, HB.out⟩
set_option maxHeartbeats 1000000 in
set_option maxRecDepth 4000 in
theorem lawP_FnTwice (W : World) (B len cap : Nat) (A : Option Addr) (f : Nat → Nat) (hC : Code W B A len f) (hB : B ≤ W.heap.size) (hlc : len ≤ cap) (hcap : cap ≤ 9223372036854775807)
    (hN : NoPlayTwice) (hY : YesPlayTwice) :
    Calls Try.prog 6 #[.slice A len cap] W fun e w' => e = .returned (.bool true) ∧ Below W.heap.size W w' := by
  have HC := Lib.hid (drawPlayTwice_any W B len cap A f hC hB hlc hcap)
  clear hC
  by_cases hlen : (1048576 : Int) < (len : Int)
  · go_enter Try.func6, Try.ntmps6
    go_wp2
    go_ret
    exact ⟨rfl, Below.refl _ _⟩
  go_enter Try.func6, Try.ntmps6
  go_wp2_with fail
  refine HC.out.mono ?_
  rintro e w1 ⟨n, s, rfl, hn1, hn13, hs13, hbl⟩
  have HB := Lib.hid hbl
  clear hbl hB hlc hcap
  by_cases hno : NoPlay (n : Int) (s : Int)
  · have HI := Lib.hid (fun W => hN n s W hno)
    have HS := Lib.hid (fun W => specPlayTwice_no n s W hno)
    clear hno
    go_wp2_with fail
    refine (HI.out _).mono ?_
    rintro e w2 ⟨rfl, hb2⟩
    have HB := Lib.hid (HB.out.trans (hb2.mono HB.out.size))
    clear hb2
    go_wp2_with fail
    refine (HS.out _).mono ?_
    rintro e w3 ⟨rfl, rfl⟩
    go_wp2
    go_ret
    exact ⟨rfl, HB.out⟩
  obtain ⟨n', s', hn', hs', h3, h12, hs, hp⟩ := not_noPlay hno
  obtain rfl : n = n' := by omega
  obtain rfl : s = s' := by omega
  clear hn' hs' hno hs13
  obtain ⟨q1, q2, q3, q4, q5, q6, q7⟩ := play_says n s h12 hs hp
  obtain ⟨p1, p2, p3, p4, p5⟩ := (play_iff n s).1 hp
  have hI := fun W => hY n s W h12 hs hp
  have hS := fun W => specPlayTwice_yes n s W h12 hs hp
  have hF := fun W => implFarMost_yes n s W (by omega) h12 hs p3 q5
  rw [q6] at hF
  rw [q4] at hI hS
  obtain ⟨e1, e2, e3, e4⟩ := pow2_less n (by omega) h12
  have HI := Lib.hid hI
  have HS := Lib.hid hS
  have HF := Lib.hid hF
  generalize 2 ^ n - 2 = Q at *
  generalize 2 ^ n = P at *
  clear hN hY hs hp q1 q2 q3 q4 q5 q6 q7 p2 p3 p4 p5 hI hS hF
  go_wp2_with fail
  refine (HI.out _).mono ?_
  rintro e w2 ⟨rfl, hb2⟩
  have HB := Lib.hid (HB.out.trans (hb2.mono HB.out.size))
  clear hb2
  go_wp2_with fail
  refine (HS.out _).mono ?_
  rintro e w3 ⟨rfl, rfl⟩
  go_wp2_with fail
  refine (HF.out _).mono ?_
  rintro e w4 ⟨rfl, hb4⟩
  have HB := Lib.hid (HB.out.trans (hb4.mono HB.out.size))
  clear hb4
  go_wp2
  go_ret
  exact ⟨rfl, HB.out⟩
set_option maxHeartbeats 1000000 in
set_option maxRecDepth 4000 in
theorem lawP_FnEqual (W : World) (B len cap : Nat) (A : Option Addr) (f : Nat → Nat) (hC : Code W B A len f) (hB : B ≤ W.heap.size) (hlc : len ≤ cap) (hcap : cap ≤ 9223372036854775807)
    (hN : NoPlayEqual) (hY : YesPlayEqual) (hD : AnyDiffEven) :
    Calls Try.prog 7 #[.slice A len cap] W fun e w' => e = .returned (.bool true) ∧ Below W.heap.size W w' := by
  have HC := Lib.hid (drawPlayEqual_any W B len cap A f hC hB hlc hcap)
  clear hC
  by_cases hlen : (1048576 : Int) < (len : Int)
  · go_enter Try.func7, Try.ntmps7
    go_wp2
    go_ret
    exact ⟨rfl, Below.refl _ _⟩
  go_enter Try.func7, Try.ntmps7
  go_wp2_with fail
  refine HC.out.mono ?_
  rintro e w1 ⟨n, s, rfl, hn1, hn13, hs13, hbl⟩
  have HB := Lib.hid hbl
  clear hbl hB hlc hcap
  by_cases hno : NoPlay (n : Int) (s : Int)
  · have HI := Lib.hid (fun W => hN n s W hno)
    have HS := Lib.hid (fun W => specPlayEqual_no n s W hno)
    clear hno
    go_wp2_with fail
    refine (HI.out _).mono ?_
    rintro e w2 ⟨rfl, hb2⟩
    have HB := Lib.hid (HB.out.trans (hb2.mono HB.out.size))
    clear hb2
    go_wp2_with fail
    refine (HS.out _).mono ?_
    rintro e w3 ⟨rfl, rfl⟩
    go_wp2
    go_ret
    exact ⟨rfl, HB.out⟩
  obtain ⟨n', s', hn', hs', h3, h12, hs, hp⟩ := not_noPlay hno
  obtain rfl : n = n' := by omega
  obtain rfl : s = s' := by omega
  clear hn' hs' hno hs13
  obtain ⟨q1, q2, q3, q4, q5, q6, q7⟩ := play_says n s h12 hs hp
  obtain ⟨p1, p2, p3, p4, p5⟩ := (play_iff n s).1 hp
  have hI := fun W => hY n s W h12 hs hp
  have hD := fun W => hD n s W (by omega) h12 hs
  have hS := fun W => specPlayEqual_yes n s W h12 hs hp
  cases he : evenB n s
  · have hz := evZ_no n s he
    rw [hz, he] at hI hD hS
    have HI := Lib.hid hI
    have HD := Lib.hid hD
    have HS := Lib.hid hS
    clear hN hY hs hp he hz q1 q2 q3 q4 q5 q6 q7 p2 p3 p4 p5 hI hD hS
    go_wp2_with fail
    refine (HI.out _).mono ?_
    rintro e w2 ⟨rfl, hb2⟩
    have HB := Lib.hid (HB.out.trans (hb2.mono HB.out.size))
    clear hb2
    go_wp2_with fail
    refine (HS.out _).mono ?_
    rintro e w3 ⟨rfl, rfl⟩
    go_wp2
    go_ret
    exact ⟨rfl, HB.out⟩
  · have hz := evZ_yes n s he
    rw [hz, he] at hI hD hS
    obtain ⟨T, ⟨e1, e2⟩, ⟨e3, e4⟩⟩ := four_nums n (difN n s 1) h12 (q7 he)
    generalize difN n s 1 = dd at *
    have HI := Lib.hid hI
    have HD := Lib.hid hD
    have HS := Lib.hid hS
    clear hN hY hs hp he hz q1 q2 q3 q4 q5 q6 q7 p2 p3 p4 p5 hI hD hS
    go_wp2_with fail
    refine (HI.out _).mono ?_
    rintro e w2 ⟨rfl, hb2⟩
    have HB := Lib.hid (HB.out.trans (hb2.mono HB.out.size))
    clear hb2
    go_wp2_with fail
    refine (HS.out _).mono ?_
    rintro e w3 ⟨rfl, rfl⟩
    go_wp2_with fail
    refine (HD.out _).mono ?_
    rintro e w4 ⟨rfl, hb4⟩
    have HB := Lib.hid (HB.out.trans (hb4.mono HB.out.size))
    clear hb4
    go_wp2
    go_ret
    exact ⟨rfl, HB.out⟩
set_option maxHeartbeats 1000000 in
set_option maxRecDepth 4000 in
theorem lawP_FnEqualEven (W : World) (B len cap : Nat) (A : Option Addr) (f : Nat → Nat) (hC : Code W B A len f) (hB : B ≤ W.heap.size) (hlc : len ≤ cap) (hcap : cap ≤ 9223372036854775807)
    (hN : NoPlayThree) (hT : YesPlayThree) (hY : YesPlayEqual) (hD : AnyDiffEven) :
    Calls Try.prog 8 #[.slice A len cap] W fun e w' => e = .returned (.bool true) ∧ Below W.heap.size W w' := by
  have HC := Lib.hid (drawPlayThree_any W B len cap A f hC hB hlc hcap)
  clear hC
  by_cases hlen : (1048576 : Int) < (len : Int)
  · go_enter Try.func8, Try.ntmps8
    go_wp2
    go_ret
    exact ⟨rfl, Below.refl _ _⟩
  go_enter Try.func8, Try.ntmps8
  go_wp2_with fail
  refine HC.out.mono ?_
  rintro e w1 ⟨n, s, rfl, hn1, hn13, hs13, hbl⟩
  have HB := Lib.hid hbl
  clear hbl hB hlc hcap
  by_cases hno : NoPlay (n : Int) (s : Int)
  · have HI := Lib.hid (fun W => hN n s W hno)
    have HS := Lib.hid (fun W => specPlayThree_no n s W hno)
    clear hno
    go_wp2_with fail
    refine (HI.out _).mono ?_
    rintro e w2 ⟨rfl, hb2⟩
    have HB := Lib.hid (HB.out.trans (hb2.mono HB.out.size))
    clear hb2
    go_wp2_with fail
    refine (HS.out _).mono ?_
    rintro e w3 ⟨rfl, rfl⟩
    go_wp2
    go_ret
    exact ⟨rfl, HB.out⟩
  obtain ⟨n', s', hn', hs', h3, h12, hs, hp⟩ := not_noPlay hno
  obtain rfl : n = n' := by omega
  obtain rfl : s = s' := by omega
  clear hn' hs' hno hs13
  obtain ⟨q1, q2, q3, q4, q5, q6, q7⟩ := play_says n s h12 hs hp
  obtain ⟨p1, p2, p3, p4, p5⟩ := (play_iff n s).1 hp
  have hI := fun W => hY n s W h12 hs hp
  have hD := fun W => hD n s W (by omega) h12 hs
  have HT := Lib.hid (fun W => hT n s W h12 hs hp)
  have HS := Lib.hid (fun W => specPlayThree_yes n s W h12 hs hp)
  cases he : evenB n s
  · have hz := evZ_no n s he
    rw [hz, he] at hI hD
    have HI := Lib.hid hI
    have HD := Lib.hid hD
    generalize threeN n s = K at *
    clear hN hY hs hp he hz q1 q2 q3 q4 q5 q6 q7 p2 p3 p4 p5 hI hD hT
    go_wp2_with fail
    refine (HT.out _).mono ?_
    rintro e w2 ⟨rfl, hb2⟩
    have HB := Lib.hid (HB.out.trans (hb2.mono HB.out.size))
    clear hb2
    go_wp2_with fail
    refine (HS.out _).mono ?_
    rintro e w3 ⟨rfl, rfl⟩
    go_wp2_with fail
    refine (HD.out _).mono ?_
    rintro e w4 ⟨rfl, hb4⟩
    have HB := Lib.hid (HB.out.trans (hb4.mono HB.out.size))
    clear hb4
    go_wp2_with fail
    refine (HI.out _).mono ?_
    rintro e w5 ⟨rfl, hb5⟩
    have HB := Lib.hid (HB.out.trans (hb5.mono HB.out.size))
    clear hb5
    go_wp2
    go_ret
    exact ⟨rfl, HB.out⟩
  · have hz := evZ_yes n s he
    rw [hz, he] at hI hD
    obtain ⟨T, ⟨e1, e2⟩, ⟨e3, e4⟩⟩ := four_nums n (difN n s 1) h12 (q7 he)
    generalize difN n s 1 = dd at *
    have HI := Lib.hid hI
    have HD := Lib.hid hD
    generalize threeN n s = K at *
    clear hN hY hs hp he hz q1 q2 q3 q4 q5 q6 q7 p2 p3 p4 p5 hI hD hT
    go_wp2_with fail
    refine (HT.out _).mono ?_
    rintro e w2 ⟨rfl, hb2⟩
    have HB := Lib.hid (HB.out.trans (hb2.mono HB.out.size))
    clear hb2
    go_wp2_with fail
    refine (HS.out _).mono ?_
    rintro e w3 ⟨rfl, rfl⟩
    go_wp2_with fail
    refine (HD.out _).mono ?_
    rintro e w4 ⟨rfl, hb4⟩
    have HB := Lib.hid (HB.out.trans (hb4.mono HB.out.size))
    clear hb4
    go_wp2_with fail
    refine (HI.out _).mono ?_
    rintro e w5 ⟨rfl, hb5⟩
    have HB := Lib.hid (HB.out.trans (hb5.mono HB.out.size))
    clear hb5
    go_wp2
    go_ret
    exact ⟨rfl, HB.out⟩
end Go.Proofs.Ytaklmepioeoohaa
