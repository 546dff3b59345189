/- Promises of chapter 7 over given contracts: even sets, sets that are found, thin sets. Written by gen59.py. -/
import Derived.Test.YtaomjhkodohkcaaPDifA
namespace Go.Proofs.Ytaomjhkodohkcaa
open Go.RowKit Go.Shelf
set_option linter.unusedVariables false
theorem even_nums (l n k Q : Nat) (h1 : 2 ≤ n) (hQ : k * k = Q) (h : l * (n - 1) + k = k * k) : (l : Int) * ((n : Int) - 1) = (Q : Int) - (k : Int) := by
  have e : (n : Int) - 1 = ((n - 1 : Nat) : Int) := by omega
  rw [e, ← Int.natCast_mul]
  rw [hQ] at h
  generalize l * (n - 1) = y at *
  omega
theorem oth_nums (o k n l : Nat) (h : o + 2 * k = n + l) (hn : n ≤ 12) (hk : k ≤ 12) (hl : l ≤ 12) :
    (IntKind.i64.wrap (2 * (k : Int)) = 2 * (k : Int) ∧ wrap64 (2 * (k : Int)) = 2 * (k : Int)) ∧ (IntKind.i64.wrap ((n : Int) - 2 * (k : Int)) = (n : Int) - 2 * (k : Int) ∧ wrap64 ((n : Int) - 2 * (k : Int)) = (n : Int) - 2 * (k : Int)) ∧ (IntKind.i64.wrap ((n : Int) - 2 * (k : Int) + (l : Int)) = (o : Int) ∧ wrap64 ((n : Int) - 2 * (k : Int) + (l : Int)) = (o : Int)) := by
  refine ⟨fits _ ⟨by omega, by omega⟩, fits _ ⟨by omega, by omega⟩, ?_⟩
  have e : (n : Int) - 2 * (k : Int) + (l : Int) = (o : Int) := by omega
  rw [e]
  exact fits _ ⟨by omega, by omega⟩
theorem fun_nums (n k m Q : Nat) (P : Int) (h1 : 1 ≤ n) (hP : P = (Q : Int) - (k : Int)) (p1 : Q ≤ n - 1 + k) (p2 : k ≤ m) : P ≤ (n : Int) - 1 ∧ (k : Int) ≤ (m : Int) := by omega
theorem pow_fits (n N : Nat) (h2 : n ≤ 12) (hN : 2 ^ n = N) : (IntKind.i64.wrap (2 ^ n) = (N : Int) ∧ wrap64 (2 ^ n) = (N : Int)) ∧ (IntKind.i64.wrap ((N : Int) - 1) = ((N - 1 : Nat) : Int) ∧ wrap64 ((N : Int) - 1) = ((N - 1 : Nat) : Int)) := by
  have hp := pow_le n h2
  have hp1 := Nat.two_pow_pos n
  have e := wrap_pow n (by omega)
  rw [hN] at hp hp1 e
  refine ⟨⟨by rw [IntWalk.i64_left]; exact e, e⟩, ?_⟩
  have e2 : (N : Int) - 1 = ((N - 1 : Nat) : Int) := by omega
  rw [e2]
  exact fits _ ⟨by omega, by omega⟩
theorem sub_fits (M s c : Nat) (hc : M - s = c) (hs : s ≤ M) (hM : M ≤ 4096) : IntKind.i64.wrap ((M : Int) - (s : Int)) = (c : Int) ∧ wrap64 ((M : Int) - (s : Int)) = (c : Int) := by
  have e : (M : Int) - (s : Int) = (c : Int) := by omega
  rw [e]
  exact fits _ ⟨by omega, by omega⟩
set_option maxHeartbeats 1000000 in
set_option maxRecDepth 4000 in
theorem lawP_FnDiffEven (W : World) (B len cap : Nat) (A : Option Addr) (f : Nat → Nat) (hC : Code W B A len f) (hB : B ≤ W.heap.size) (hlc : len ≤ cap) (hcap : cap ≤ 9223372036854775807)
    (hN : NoDiffEven) (hY : AnyDiffEven) :
    Calls Try.prog 4 #[.slice A len cap] W fun e w' => e = .returned (.bool true) ∧ Below W.heap.size W w' := by
  have HC := Lib.hid (drawDiffEven_any W B len cap A f hC hB hlc hcap)
  clear hC
  by_cases hlen : (1048576 : Int) < (len : Int)
  · go_enter Try.func4, Try.ntmps4
    go_wp2
    go_ret
    exact ⟨rfl, Below.refl _ _⟩
  go_enter Try.func4, Try.ntmps4
  go_wp2_with fail
  refine HC.out.mono ?_
  rintro e w1 ⟨n, s, rfl, hn1, hn13, hs13, hbl⟩
  have HB := Lib.hid hbl
  clear hbl hB hlc hcap
  by_cases hno : NotIn (n : Int) (s : Int) ∨ (n : Int) < 2
  · have HI := Lib.hid (fun W => hN n s W hno)
    have HS := Lib.hid (fun W => specDiffEven_no n s W hno)
    clear hno
    go_wp2_with fail
    refine (HI.out _).mono ?_
    rintro e w2 ⟨rfl, hb2⟩
    have HB := Lib.hid (HB.out.trans (hb2.mono HB.out.size))
    clear hb2
    go_wp2_with fail
    refine (HS.out _).mono ?_
    rintro e w3 ⟨rfl, rfl⟩
    go_wp2
    go_ret
    exact ⟨rfl, HB.out⟩
  obtain ⟨n', s', hn', hs', _, h12', hs3'⟩ := not_notIn (fun c => hno (.inl c))
  have h2n : 2 ≤ n := by have : ¬ (n : Int) < 2 := fun c => hno (.inr c); omega
  obtain rfl : n = n' := by omega
  obtain rfl : s = s' := by omega
  have hI := fun W => hY n s W h2n h12' hs3'
  have hS := fun W => specDiffEven_any n s W h2n h12' hs3'
  have hz := sizeN_le n s h12' hs3'
  clear hn' hs' hno hs13 hn13 hn1
  cases he : evenB n s
  · unfold evZ at hI hS
    rw [he] at hI hS
    have HI := Lib.hid hI
    have HS := Lib.hid hS
    clear hI hS he hN hY
    go_wp2_with fail
    refine (HI.out _).mono ?_
    rintro e w2 ⟨rfl, hb2⟩
    have HB := Lib.hid (HB.out.trans (hb2.mono HB.out.size))
    clear hb2
    go_wp2_with fail
    refine (HS.out _).mono ?_
    rintro e w3 ⟨rfl, hb3⟩
    have HB := Lib.hid (HB.out.trans (hb3.mono HB.out.size))
    clear hb3
    go_wp2
    go_ret
    exact ⟨rfl, HB.out⟩
  · have pe := p_even n s h2n h12' hs3' he
    have hC := fun W => hY n (2 ^ n - 1 - s) W h2n h12' (comp_lt n s)
    have hl := dif_le n s 1 h12' hs3'
    unfold evZ at hI hS hC
    rw [he, if_pos rfl] at hI hS
    rw [pe.2.1, if_pos rfl] at hC
    have HI := Lib.hid hI
    have HS := Lib.hid hS
    have HC2 := Lib.hid hC
    have HSz := Lib.hid (fun W => size_any s W (Nat.lt_of_lt_of_le hs3' (Nat.pow_le_pow_right (by omega) (by omega))))
    have hpe1 := pe.1
    have hpe2 := pe.2.2
    have hp := pow_le n h12'
    clear pe hI hS hC he hN hY
    generalize difN n s 1 = l at *
    generalize difN n (2 ^ n - 1 - s) 1 = o at *
    generalize sizeN s = k at *
    have HPw := Lib.hid (pow_fits n (2 ^ n) h12' rfl)
    obtain ⟨N, hNN⟩ : ∃ N, 2 ^ n = N := ⟨_, rfl⟩
    rw [hNN] at HC2 hp hs3'
    have HPw2 : Hid ((IntKind.i64.wrap (2 ^ n) = (N : Int) ∧ wrap64 (2 ^ n) = (N : Int)) ∧ (IntKind.i64.wrap ((N : Int) - 1) = ((N - 1 : Nat) : Int) ∧ wrap64 ((N : Int) - 1) = ((N - 1 : Nat) : Int))) := Lib.hid (pow_fits n N h12' hNN)
    clear HPw hNN
    have HSub := Lib.hid (sub_fits (N - 1) s (N - 1 - s) rfl (by omega) (by omega))
    generalize N - 1 - s = c at *
    generalize N - 1 = M at *
    have hk12 : k ≤ 12 := Nat.le_trans hz h12'
    have HO := Lib.hid (oth_nums o k n l hpe2 h12' hk12 hl)
    obtain ⟨Q, P, hQ, hP, b1, b2, HE⟩ := sq_fits k hk12
    have hpr := even_nums l n k Q h2n hQ hpe1
    rw [← hP] at hpr
    have HPr : Hid (IntKind.i64.wrap ((l : Int) * ((n : Int) - 1)) = P ∧ wrap64 ((l : Int) * ((n : Int) - 1)) = P) := Lib.hid (by rw [hpr]; exact fits P ⟨by omega, by omega⟩)
    have HN1 := Lib.hid (fits ((n : Int) - 1) ⟨by omega, by omega⟩)
    clear hpr hP hQ b1 b2 hpe1 hpe2 hp hs3' hz hk12 hl
    go_wp2_with fail
    refine (HI.out _).mono ?_
    rintro e w2 ⟨rfl, hb2⟩
    have HB := Lib.hid (HB.out.trans (hb2.mono HB.out.size))
    clear hb2
    go_wp2_with fail
    refine (HS.out _).mono ?_
    rintro e w3 ⟨rfl, hb3⟩
    have HB := Lib.hid (HB.out.trans (hb3.mono HB.out.size))
    clear hb3
    go_wp2_with fail
    refine (HSz.out _).mono ?_
    rintro e w4 ⟨rfl, rfl⟩
    obtain ⟨⟨q1, q2⟩, q3, q4⟩ := HPw2.out
    obtain ⟨q5, q6⟩ := HSub.out
    go_wp2_with fail
    refine (HC2.out _).mono ?_
    rintro e w5 ⟨rfl, hb5⟩
    have HB := Lib.hid (HB.out.trans (hb5.mono HB.out.size))
    clear hb5
    clear q1 q2 q3 q4 q5 q6
    obtain ⟨e1, e2, e3, e4⟩ := HE.out
    obtain ⟨e5, e6⟩ := HPr.out
    obtain ⟨e7, e8⟩ := HN1.out
    obtain ⟨⟨o1, o2⟩, ⟨o3, o4⟩, o5, o6⟩ := HO.out
    go_wp2
    go_ret
    exact ⟨rfl, HB.out⟩
set_option maxHeartbeats 1000000 in
set_option maxRecDepth 4000 in
theorem lawP_FnFind (W : World) (B len cap : Nat) (A : Option Addr) (f : Nat → Nat) (hC : Code W B A len f) (hB : B ≤ W.heap.size) (hlc : len ≤ cap) (hcap : cap ≤ 9223372036854775807)
    (hN : NoDiffFind) (hY : AnyDiffFind) (hE : AnyDiffEven) :
    Calls Try.prog 5 #[.slice A len cap] W fun e w' => e = .returned (.bool true) ∧ Below W.heap.size W w' := by
  have HC := Lib.hid (drawDiffFind_any W B len cap A f hC hB hlc hcap)
  clear hC
  by_cases hlen : (1048576 : Int) < (len : Int)
  · go_enter Try.func5, Try.ntmps5
    go_wp2
    go_ret
    exact ⟨rfl, Below.refl _ _⟩
  go_enter Try.func5, Try.ntmps5
  go_wp2_with fail
  refine HC.out.mono ?_
  rintro e w1 ⟨n, k, rfl, hn2, hn13, hkn, hbl⟩
  have HB := Lib.hid hbl
  clear hbl hB hlc hcap
  by_cases hno : ¬ (1 ≤ (n : Int) ∧ (n : Int) ≤ 12 ∧ 1 ≤ (k : Int) ∧ (k : Int) ≤ (n : Int) - 1)
  · have HI := Lib.hid (fun W => hN n k W hno)
    have HS := Lib.hid (fun W => specDiffFind_no n k W hno)
    clear hno
    go_wp2_with fail
    refine (HI.out _).mono ?_
    rintro e w2 ⟨rfl, hb2⟩
    have HB := Lib.hid (HB.out.trans (hb2.mono HB.out.size))
    clear hb2
    go_wp2_with fail
    refine (HS.out _).mono ?_
    rintro e w3 ⟨rfl, rfl⟩
    go_wp2
    go_ret
    exact ⟨rfl, HB.out⟩
  have hok := Decidable.byContradiction hno
  have h12 : n ≤ 12 := by omega
  have hk1 : 1 ≤ k := by omega
  have hk2 : k ≤ n - 1 := by omega
  have hI := fun W => hY n k W hn2 h12 hk1 hk2
  have hS := fun W => specDiffFind_any n k W hn2 h12 hk1 hk2
  clear hno hok hn13
  by_cases hz : findN n k = 0
  · rw [hz] at hI hS
    have HI : Hid (∀ W, Calls Try.prog 22 #[.int .i64 (n:Int), .int .i64 (k:Int)] W fun e w' => e = .returned (.tuple #[.int .i64 0, .bool false]) ∧ Below W.heap.size W w') := Lib.hid hI
    have HS : Hid (∀ W, Calls Try.prog 23 #[.int .i64 (n:Int), .int .i64 (k:Int)] W fun e w' => e = .returned (.tuple #[.int .i64 0, .bool false]) ∧ Below W.heap.size W w') := Lib.hid hS
    clear hI hS hz hN hY hE
    go_wp2_with fail
    refine (HI.out _).mono ?_
    rintro e w2 ⟨rfl, hb2⟩
    have HB := Lib.hid (HB.out.trans (hb2.mono HB.out.size))
    clear hb2
    go_wp2_with fail
    refine (HS.out _).mono ?_
    rintro e w3 ⟨rfl, hb3⟩
    have HB := Lib.hid (HB.out.trans (hb3.mono HB.out.size))
    clear hb3
    go_wp2
    go_ret
    exact ⟨rfl, HB.out⟩
  · obtain ⟨p1, p2, p3, p4⟩ := p_find n k hn2 h12 hk1 hk2 hz
    have hE1 := fun W => hE n (findN n k) W hn2 h12 p1
    have hF1 := fun W => hY n (n - k) W hn2 h12 (by omega) (by omega)
    have hSz := fun W => size_any (findN n k) W (Nat.lt_of_lt_of_le p1 (Nat.pow_le_pow_right (by omega) (by omega)))
    rw [p2] at hSz
    rw [p3] at hE1
    rw [decide_eq_true p4] at hF1
    rw [decide_eq_true hz] at hI hS
    generalize evZ n (findN n k) = z1 at *
    generalize findN n (n - k) = z2 at *
    generalize findN n k = F at *
    have HSub := Lib.hid (sub_fits n k (n - k) rfl (by omega) (by omega))
    generalize n - k = nk at *
    have HI := Lib.hid hI
    have HS := Lib.hid hS
    have HE1 := Lib.hid hE1
    have HF1 := Lib.hid hF1
    have HSz := Lib.hid hSz
    clear hI hS hE1 hF1 hSz p1 p2 p3 p4 hz hN hY hE
    go_wp2_with fail
    refine (HI.out _).mono ?_
    rintro e w2 ⟨rfl, hb2⟩
    have HB := Lib.hid (HB.out.trans (hb2.mono HB.out.size))
    clear hb2
    go_wp2_with fail
    refine (HS.out _).mono ?_
    rintro e w3 ⟨rfl, hb3⟩
    have HB := Lib.hid (HB.out.trans (hb3.mono HB.out.size))
    clear hb3
    go_wp2_with fail
    refine (HE1.out _).mono ?_
    rintro e w4 ⟨rfl, hb4⟩
    have HB := Lib.hid (HB.out.trans (hb4.mono HB.out.size))
    clear hb4
    obtain ⟨q5, q6⟩ := HSub.out
    go_wp2_with fail
    refine (HF1.out _).mono ?_
    rintro e w5 ⟨rfl, hb5⟩
    have HB := Lib.hid (HB.out.trans (hb5.mono HB.out.size))
    clear hb5
    clear q5 q6
    go_wp2_with fail
    refine (HSz.out _).mono ?_
    rintro e w6 ⟨rfl, rfl⟩
    go_wp2
    go_ret
    exact ⟨rfl, HB.out⟩
set_option maxHeartbeats 1000000 in
set_option maxRecDepth 4000 in
theorem lawP_FnThin (W : World) (B len cap : Nat) (A : Option Addr) (f : Nat → Nat) (hC : Code W B A len f) (hB : B ≤ W.heap.size) (hlc : len ≤ cap) (hcap : cap ≤ 9223372036854775807)
    (hN : NoDiffThin) (hY : YesDiffThin) (hM : YesDiffThinMost) :
    Calls Try.prog 6 #[.slice A len cap] W fun e w' => e = .returned (.bool true) ∧ Below W.heap.size W w' := by
  have HC := Lib.hid (drawDiffThin_any W B len cap A f hC hB hlc hcap)
  clear hC
  by_cases hlen : (1048576 : Int) < (len : Int)
  · go_enter Try.func6, Try.ntmps6
    go_wp2
    go_ret
    exact ⟨rfl, Below.refl _ _⟩
  go_enter Try.func6, Try.ntmps6
  go_wp2_with fail
  refine HC.out.mono ?_
  rintro e w1 ⟨n, s, rfl, hn1, hn13, hs13, hbl⟩
  have HB := Lib.hid hbl
  clear hbl hB hlc hcap
  by_cases hno : NotIn (n : Int) (s : Int)
  · have HI := Lib.hid (fun W => hN n s W hno)
    have HS := Lib.hid (fun W => specDiffThin_no n s W hno)
    clear hno
    go_wp2_with fail
    refine (HI.out _).mono ?_
    rintro e w2 ⟨rfl, hb2⟩
    have HB := Lib.hid (HB.out.trans (hb2.mono HB.out.size))
    clear hb2
    go_wp2_with fail
    refine (HS.out _).mono ?_
    rintro e w3 ⟨rfl, rfl⟩
    go_wp2
    go_ret
    exact ⟨rfl, HB.out⟩
  obtain ⟨n', s', hn', hs', _, h12', hs3'⟩ := not_notIn hno
  obtain rfl : n = n' := by omega
  obtain rfl : s = s' := by omega
  have hI := fun W => hY n s W hn1 h12' hs3'
  have hS := fun W => specDiffThin_yes n s W hn1 h12' hs3'
  clear hn' hs' hno hs13 hn13
  cases he : thinB n s
  · rw [he] at hI hS
    have HI := Lib.hid hI
    have HS := Lib.hid hS
    clear hI hS he hN hY hM
    go_wp2_with fail
    refine (HI.out _).mono ?_
    rintro e w2 ⟨rfl, hb2⟩
    have HB := Lib.hid (HB.out.trans (hb2.mono HB.out.size))
    clear hb2
    go_wp2_with fail
    refine (HS.out _).mono ?_
    rintro e w3 ⟨rfl, hb3⟩
    have HB := Lib.hid (HB.out.trans (hb3.mono HB.out.size))
    clear hb3
    go_wp2
    go_ret
    exact ⟨rfl, HB.out⟩
  · rw [he] at hI hS
    have ht := turnN_lt n s (-1) hn1
    have hu := shiftN_lt n (turnN n s (-1)) 1
    have HTu := Lib.hid (fun W => implTurn_yes n s (-1) W hn1 h12' hs3' (by omega) (by omega))
    have HSh := Lib.hid (fun W => implShift_yes n (turnN n s (-1)) 1 W hn1 h12' ht (by omega) (by omega))
    have hTh := fun W => hY n (shiftN n (turnN n s (-1)) 1) W hn1 h12' hu
    rw [thin_shift n _ 1 hn1 h12' ht (thin_turn n s hn1 h12' hs3' he)] at hTh
    have HTh := Lib.hid hTh
    have HM := Lib.hid (fun W => hM n W hn1 h12')
    have hfew := thin_few n s hn1 h12' hs3' he
    have hmost := thin_most n s hn1 h12' hs3' he
    have HSz := Lib.hid (fun W => size_any s W (Nat.lt_of_lt_of_le hs3' (Nat.pow_le_pow_right (by omega) (by omega))))
    have hz := sizeN_le n s h12' hs3'
    have HI := Lib.hid hI
    have HS := Lib.hid hS
    clear hI hS hTh he hN hY hM ht hu hs3'
    generalize shiftN n (turnN n s (-1)) 1 = u at *
    generalize turnN n s (-1) = t at *
    generalize thinM n = m at *
    generalize sizeN s = k at *
    obtain ⟨Q, P, hQ, hP, b1, b2, HE⟩ := sq_fits k (Nat.le_trans hz h12')
    rw [hQ] at hfew
    have HK := Lib.hid (fun_nums n k m Q P hn1 hP hfew hmost)
    have HN1 := Lib.hid (fits ((n : Int) - 1) ⟨by omega, by omega⟩)
    clear hQ hP b1 b2 hfew hmost hz
    go_wp2_with fail
    refine (HI.out _).mono ?_
    rintro e w2 ⟨rfl, hb2⟩
    have HB := Lib.hid (HB.out.trans (hb2.mono HB.out.size))
    clear hb2
    go_wp2_with fail
    refine (HS.out _).mono ?_
    rintro e w3 ⟨rfl, hb3⟩
    have HB := Lib.hid (HB.out.trans (hb3.mono HB.out.size))
    clear hb3
    go_wp2_with fail
    refine (HSz.out _).mono ?_
    rintro e w4 ⟨rfl, rfl⟩
    go_wp2_with fail
    refine (HTu.out _).mono ?_
    rintro e w5 ⟨rfl, hb5⟩
    have HB := Lib.hid (HB.out.trans (hb5.mono HB.out.size))
    clear hb5
    go_wp2_with fail
    refine (HSh.out _).mono ?_
    rintro e w6 ⟨rfl, hb6⟩
    have HB := Lib.hid (HB.out.trans (hb6.mono HB.out.size))
    clear hb6
    go_wp2_with fail
    refine (HM.out _).mono ?_
    rintro e w7 ⟨rfl, hb7⟩
    have HB := Lib.hid (HB.out.trans (hb7.mono HB.out.size))
    clear hb7
    obtain ⟨k1, k2⟩ := HK.out
    have k3 := dec_t k1
    have k4 := dec_t k2
    obtain ⟨e1, e2, e3, e4⟩ := HE.out
    obtain ⟨e7, e8⟩ := HN1.out
    go_wp2_with fail
    refine (HTh.out _).mono ?_
    rintro e w8 ⟨rfl, hb8⟩
    have HB := Lib.hid (HB.out.trans (hb8.mono HB.out.size))
    clear hb8
    go_wp2
    go_ret
    exact ⟨rfl, HB.out⟩
end Go.Proofs.Ytaomjhkodohkcaa
