/- Promises of chapter 7 over given contracts: whole, thin and even sets, and sets that are found. Written by gen58.py. -/
import Derived.Test.YtaomjhkodohkcaaDifX
import Derived.Test.YtaomjhkodohkcaaDrawG
import Derived.Test.YtaomjhkodohkcaaDrawH
import Derived.Test.YtaomjhkodohkcaaGB
import Derived.Test.YtaomjhkodohkcaaGM
namespace Go.Proofs.Ytaomjhkodohkcaa
open Go.RowKit Go.Shelf
set_option linter.unusedVariables false
theorem fits (x : Int) (h : -100000 ≤ x ∧ x ≤ 100000) : IntKind.i64.wrap x = x ∧ wrap64 x = x := ⟨IntWalk.i64_in _ ⟨by omega, by omega⟩, IntWalk.wrap64_in _ ⟨by omega, by omega⟩⟩
/-- A number of at most 12 times one less. -/
theorem sq_fits (m : Nat) (h : m ≤ 12) : ∃ (Q : Nat) (P : Int), m * m = Q ∧ P = (Q : Int) - (m : Int) ∧ -12 ≤ P ∧ P ≤ 144 ∧ Hid (IntKind.i64.wrap ((m : Int) * ((m : Int) - 1)) = P ∧ wrap64 ((m : Int) * ((m : Int) - 1)) = P ∧ IntKind.i64.wrap ((m : Int) - 1) = (m : Int) - 1 ∧ wrap64 ((m : Int) - 1) = (m : Int) - 1) := by
  have hq : m * m ≤ 144 := Nat.mul_le_mul h h
  have e : (m : Int) * ((m : Int) - 1) = ((m * m : Nat) : Int) - (m : Int) := by rw [Int.mul_sub, Int.mul_one, Int.natCast_mul]
  have F := Lib.hid (fits ((m : Int) - 1) ⟨by omega, by omega⟩)
  obtain ⟨Q, hQ⟩ : ∃ Q, m * m = Q := ⟨_, rfl⟩
  rw [hQ] at e hq
  refine ⟨Q, (Q : Int) - (m : Int), hQ, rfl, by omega, by omega, ?_, ?_, F.out.1, F.out.2⟩
  · rw [e]; exact (fits _ ⟨by omega, by omega⟩).1
  · rw [e]; exact (fits _ ⟨by omega, by omega⟩).2
theorem comp_fits (n s : Nat) (h2 : n ≤ 12) (hs : s < 2 ^ n) : wrap64 ((2 ^ n - 1 : Nat) : Int) = ((2 ^ n - 1 : Nat) : Int) ∧ wrap64 (((2 ^ n - 1 : Nat) : Int) - (s : Int)) = ((2 ^ n - 1 - s : Nat) : Int) ∧ IntKind.i64.wrap (((2 ^ n - 1 : Nat) : Int) - (s : Int)) = ((2 ^ n - 1 - s : Nat) : Int) := by
  have hp := pow_le n h2
  have hp1 := Nat.two_pow_pos n
  have e : ((2 ^ n - 1 : Nat) : Int) - (s : Int) = ((2 ^ n - 1 - s : Nat) : Int) := by omega
  rw [e]
  have hM : 2 ^ n - 1 ≤ 4096 := by omega
  clear e hp hp1
  generalize 2 ^ n - 1 = M at *
  exact ⟨(fits _ ⟨by omega, by omega⟩).2, (fits _ ⟨by omega, by omega⟩).2, (fits _ ⟨by omega, by omega⟩).1⟩
theorem whole_nums (n m Q : Nat) (P : Int) (h1 : 1 ≤ n) (hP : P = (Q : Int) - (m : Int)) (p1 : n - 1 + m ≤ Q) (p2 : 2 * m ≤ n + 2) : (n : Int) - 1 ≤ P ∧ 2 * (m : Int) ≤ (n : Int) + 2 := by omega
theorem thin_nums (n m Q : Nat) (P : Int) (h1 : 1 ≤ n) (hP : P = (Q : Int) - (m : Int)) (p1 : 1 ≤ m) (p2 : Q ≤ n - 1 + m) : P ≤ (n : Int) - 1 ∧ (1 : Int) ≤ (m : Int) ∧ (P = (n : Int) - 1 → Q = n - 1 + m) := by omega
theorem dec_t {p : Prop} [Decidable p] (h : p) : decide p = true := decide_eq_true h
set_option maxHeartbeats 1000000 in
set_option maxRecDepth 4000 in
theorem lawP_FnWhole (W : World) (B len cap : Nat) (A : Option Addr) (f : Nat → Nat) (hC : Code W B A len f) (hB : B ≤ W.heap.size) (hlc : len ≤ cap) (hcap : cap ≤ 9223372036854775807)
    (hN : NoDiffWhole) (hY : YesDiffWhole) :
    Calls Try.prog 8 #[.slice A len cap] W fun e w' => e = .returned (.bool true) ∧ Below W.heap.size W w' := by
  have HC := Lib.hid (drawDiffWhole_any W B len cap A f hC hB hlc hcap)
  clear hC
  by_cases hlen : (1048576 : Int) < (len : Int)
  · go_enter Try.func8, Try.ntmps8
    go_wp2
    go_ret
    exact ⟨rfl, Below.refl _ _⟩
  go_enter Try.func8, Try.ntmps8
  go_wp2_with fail
  refine HC.out.mono ?_
  rintro e w1 ⟨n, rfl, hn13, hbl⟩
  have HB := Lib.hid hbl
  clear hbl hB hlc hcap
  by_cases hno : ¬ (1 ≤ (n : Int) ∧ (n : Int) ≤ 12)
  · have HI := Lib.hid (fun W => hN n W hno)
    have HS := Lib.hid (fun W => specDiffWhole_no n W hno)
    clear hno
    go_wp2_with fail
    refine (HI.out _).mono ?_
    rintro e w2 ⟨rfl, hb2⟩
    have HB := Lib.hid (HB.out.trans (hb2.mono HB.out.size))
    clear hb2
    go_wp2_with fail
    refine (HS.out _).mono ?_
    rintro e w3 ⟨rfl, rfl⟩
    go_wp2
    go_ret
    exact ⟨rfl, HB.out⟩
  have hn : 1 ≤ (n : Int) ∧ (n : Int) ≤ 12 := Decidable.byContradiction hno
  have h1 : 1 ≤ n := by omega
  have h12 : n ≤ 12 := by omega
  obtain ⟨p1, p2⟩ := p_whole n h1 h12
  have HI := Lib.hid (fun W => hY n W h1 h12)
  have HS := Lib.hid (fun W => specDiffWhole_yes n W h1 h12)
  have hml : wholeM n ≤ 12 := Nat.le_trans (low_le _ _ _) h12
  generalize wholeM n = m at *
  obtain ⟨Q, P, hQ, hP, b1, b2, HE⟩ := sq_fits m hml
  rw [hQ] at p1
  have H5 := Lib.hid (fits ((n : Int) - 1) ⟨by omega, by omega⟩)
  have H7 := Lib.hid (fits (2 * (m : Int)) ⟨by omega, by omega⟩)
  have H9 := Lib.hid (fits ((n : Int) + 2) ⟨by omega, by omega⟩)
  have HK := Lib.hid (whole_nums n m Q P h1 hP p1 p2)
  clear hno hn hN hY p1 p2 hQ hP b1 b2
  go_wp2_with fail
  refine (HI.out _).mono ?_
  rintro e w2 ⟨rfl, hb2⟩
  have HB := Lib.hid (HB.out.trans (hb2.mono HB.out.size))
  clear hb2
  go_wp2_with fail
  refine (HS.out _).mono ?_
  rintro e w3 ⟨rfl, hb3⟩
  have HB := Lib.hid (HB.out.trans (hb3.mono HB.out.size))
  clear hb3
  obtain ⟨k1, k2⟩ := HK.out
  have k3 := dec_t k1
  have k4 := dec_t k2
  obtain ⟨e1, e2, e3, e4⟩ := HE.out
  obtain ⟨e5, e6⟩ := H5.out
  obtain ⟨e7, e8⟩ := H7.out
  obtain ⟨e9, e10⟩ := H9.out
  go_wp2
  go_ret
  exact ⟨rfl, HB.out⟩
set_option maxHeartbeats 1000000 in
set_option maxRecDepth 4000 in
theorem lawP_FnThinMost (W : World) (B len cap : Nat) (A : Option Addr) (f : Nat → Nat) (hC : Code W B A len f) (hB : B ≤ W.heap.size) (hlc : len ≤ cap) (hcap : cap ≤ 9223372036854775807)
    (hN : NoDiffThinMost) (hY : YesDiffThinMost) (hW : YesDiffWhole) :
    Calls Try.prog 7 #[.slice A len cap] W fun e w' => e = .returned (.bool true) ∧ Below W.heap.size W w' := by
  have HC := Lib.hid (drawDiffThinMost_any W B len cap A f hC hB hlc hcap)
  clear hC
  by_cases hlen : (1048576 : Int) < (len : Int)
  · go_enter Try.func7, Try.ntmps7
    go_wp2
    go_ret
    exact ⟨rfl, Below.refl _ _⟩
  go_enter Try.func7, Try.ntmps7
  go_wp2_with fail
  refine HC.out.mono ?_
  rintro e w1 ⟨n, rfl, hn13, hbl⟩
  have HB := Lib.hid hbl
  clear hbl hB hlc hcap
  by_cases hno : ¬ (1 ≤ (n : Int) ∧ (n : Int) ≤ 12)
  · have HI := Lib.hid (fun W => hN n W hno)
    have HS := Lib.hid (fun W => specDiffThinMost_no n W hno)
    clear hno
    go_wp2_with fail
    refine (HI.out _).mono ?_
    rintro e w2 ⟨rfl, hb2⟩
    have HB := Lib.hid (HB.out.trans (hb2.mono HB.out.size))
    clear hb2
    go_wp2_with fail
    refine (HS.out _).mono ?_
    rintro e w3 ⟨rfl, rfl⟩
    go_wp2
    go_ret
    exact ⟨rfl, HB.out⟩
  have hn : 1 ≤ (n : Int) ∧ (n : Int) ≤ 12 := Decidable.byContradiction hno
  have h1 : 1 ≤ n := by omega
  have h12 : n ≤ 12 := by omega
  obtain ⟨p1, p2, p3⟩ := p_thinMost n h1 h12
  have HI := Lib.hid (fun W => hY n W h1 h12)
  have HS := Lib.hid (fun W => specDiffThinMost_yes n W h1 h12)
  have HWh := Lib.hid (fun W => hW n W h1 h12)
  have hml : thinM n ≤ 12 := Nat.le_trans (top_le (oddThin n) (2 ^ n) n h12 (Nat.le_refl _)) h12
  generalize thinM n = m at *
  generalize wholeM n = y at *
  obtain ⟨Q, P, hQ, hP, b1, b2, HE⟩ := sq_fits m hml
  rw [hQ] at p2 p3
  have H5 := Lib.hid (fits ((n : Int) - 1) ⟨by omega, by omega⟩)
  have hk := thin_nums n m Q P h1 hP p1 p2
  have HP3 : Hid (P = (n : Int) - 1 → m = y) := Lib.hid (fun h => p3 (hk.2.2 h))
  have HK := Lib.hid (And.intro hk.1 hk.2.1)
  clear hno hn hN hY hW p1 p2 p3 hQ hP hk b1 b2
  go_wp2_with fail
  refine (HI.out _).mono ?_
  rintro e w2 ⟨rfl, hb2⟩
  have HB := Lib.hid (HB.out.trans (hb2.mono HB.out.size))
  clear hb2
  go_wp2_with fail
  refine (HS.out _).mono ?_
  rintro e w3 ⟨rfl, hb3⟩
  have HB := Lib.hid (HB.out.trans (hb3.mono HB.out.size))
  clear hb3
  go_wp2_with fail
  refine (HWh.out _).mono ?_
  rintro e w4 ⟨rfl, hb4⟩
  have HB := Lib.hid (HB.out.trans (hb4.mono HB.out.size))
  clear hb4
  by_cases hpn : P = (n : Int) - 1
  · have hmy := HP3.out hpn
    subst hmy
    have q1 : (P == (n : Int) - 1) = true := by simp [hpn]
    have q2 : (P != (n : Int) - 1) = false := by simp [hpn]
    clear hpn HP3
    obtain ⟨k1, k2⟩ := HK.out
    have k3 := dec_t k1
    have k4 := dec_t k2
    obtain ⟨e1, e2, e3, e4⟩ := HE.out
    obtain ⟨e5, e6⟩ := H5.out
    go_wp2
    go_ret
    exact ⟨rfl, HB.out⟩
  · have q1 : (P == (n : Int) - 1) = false := by simp [hpn]
    have q2 : (P != (n : Int) - 1) = true := by simp [hpn]
    clear hpn HP3
    obtain ⟨k1, k2⟩ := HK.out
    have k3 := dec_t k1
    have k4 := dec_t k2
    obtain ⟨e1, e2, e3, e4⟩ := HE.out
    obtain ⟨e5, e6⟩ := H5.out
    go_wp2
    go_ret
    exact ⟨rfl, HB.out⟩
end Go.Proofs.Ytaomjhkodohkcaa
