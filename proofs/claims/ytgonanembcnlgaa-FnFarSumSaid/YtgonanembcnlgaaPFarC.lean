/- The laws FnFarMost, FnFarSum, FnLayers. -/
import Derived.Test.YtgonanembcnlgaaDrawF
import Derived.Test.YtgonanembcnlgaaFarMath
import Derived.Test.YtgonanembcnlgaaFarH
import Derived.Test.YtgonanembcnlgaaStepWA
import Derived.Test.YtgonanembcnlgaaStepWB
namespace Go.Proofs.Ytgonanembcnlgaa
open Go.RowKit Go.Shelf
set_option linter.unusedVariables false
theorem mul_low (k y : Nat) (hk : k ≤ 13) (hy : y ≤ 12) : ∃ p : Nat, (k * y = p ∧ p ≤ 200) ∧ IntKind.i64.wrap ((k : Int) * (y : Int)) = (p : Int) ∧ wrap64 ((k : Int) * (y : Int)) = (p : Int) ∧ wrap64 (p : Int) = (p : Int) := by
  have h : k * y ≤ 13 * 12 := Nat.mul_le_mul hk hy
  refine ⟨k * y, ⟨rfl, by omega⟩, ?_, ?_, ?_⟩
  · rw [← Int.natCast_mul]
    generalize k * y = p at *
    exact IntWalk.i64_in _ ⟨by omega, by omega⟩
  · rw [← Int.natCast_mul]
    generalize k * y = p at *
    exact IntWalk.wrap64_in _ ⟨by omega, by omega⟩
  · generalize k * y = p at *
    exact IntWalk.wrap64_in _ ⟨by omega, by omega⟩
theorem add_low (t p : Nat) (ht : t ≤ 5000) (hp : p ≤ 200) : wrap64 ((t : Int) + (p : Int)) = (t : Int) + (p : Int) := IntWalk.wrap64_in _ ⟨by omega, by omega⟩
set_option maxHeartbeats 2000000 in
theorem law_PFarSum (W : World) (B len cap : Nat) (A : Option Addr) (f : Nat → Nat) (hC : Code W B A len f) (hB : B ≤ W.heap.size) (hlc : len ≤ cap) (hcap : cap ≤ 9223372036854775807) :
    Calls Try.prog 5 #[.slice A len cap] W fun e w' => e = .returned (.bool true) ∧ Below W.heap.size W w' := by
  have HC := Lib.hid (drawFarSum_any W B len cap A f hC hB hlc hcap)
  clear hC
  by_cases hlen : (1048576 : Int) < (len : Int)
  · go_enter Try.func5, Try.ntmps5
    go_wp2
    go_ret
    exact ⟨rfl, Below.refl _ _⟩
  go_enter Try.func5, Try.ntmps5
  go_wp2_with fail
  refine HC.out.mono ?_
  rintro e w1 ⟨n, s, rfl, h1, h2, h3, hb1⟩
  have HB := Lib.hid hb1
  clear hb1 hB hlc hcap
  have key : (partsN n s ≠ 1 ∨ NoStep (n : Int) (s : Int)) → (∀ W, Calls Try.prog 21 #[.int .i64 (n:Int), .int .i64 (s:Int)] W fun e w' => e = .returned (.tuple #[.int .i64 0, .bool false]) ∧ Below W.heap.size W w') ∧ (∀ W, Calls Try.prog 22 #[.int .i64 (n:Int), .int .i64 (s:Int)] W fun e w' => e = .returned (.tuple #[.int .i64 0, .bool false]) ∧ W = w') := fun hor => by
    by_cases hno : NoStep (n : Int) (s : Int)
    · exact ⟨fun W => implFarSum_no n s W hno, fun W => specFarSum_no n s W hno⟩
    · have h4 : s.testBit 0 = false := by
        obtain ⟨n', s', hn', hs', _, _, _, h4⟩ := not_noStep hno
        obtain rfl : s = s' := by omega
        exact h4
      have hp : partsN n s ≠ 1 := hor.resolve_right hno
      exact ⟨fun W => implFarSum_part n s W h1 h2 h3 h4 hp, fun W => specFarSum_part n s W h1 h2 h3 h4 hp⟩
  by_cases hbad : partsN n s ≠ 1 ∨ NoStep (n : Int) (s : Int)
  · have HI := Lib.hid (key hbad).1
    have HS := Lib.hid (key hbad).2
    clear key hbad
    go_wp2_with fail
    refine (HI.out _).mono ?_
    rintro e w2 ⟨rfl, hb2⟩
    have HB := Lib.hid (HB.out.trans (hb2.mono HB.out.size))
    clear hb2
    go_wp2_with fail
    refine (HS.out _).mono ?_
    rintro e w3 ⟨rfl, rfl⟩
    go_wp2
    go_ret
    exact ⟨rfl, HB.out⟩
  clear key
  have hp : partsN n s = 1 := by
    rcases Nat.decEq (partsN n s) 1 with h | h
    · exact absurd (.inl h) hbad
    · exact h
  have hno : ¬ NoStep (n : Int) (s : Int) := fun h => hbad (.inr h)
  have h4 : s.testBit 0 = false := by
    obtain ⟨n', s', hn', hs', _, _, _, h4⟩ := not_noStep hno
    obtain rfl : s = s' := by omega
    exact h4
  clear hbad hno
  have hi := fun W => implFarSum_yes n s W h1 h2 h3 h4 hp
  have hs := fun W => specFarSum_yes n s W h1 h2 h3 h4 hp
  rw [sum_all n s h1 hp] at hi hs
  have HI := Lib.hid hi
  have HS := Lib.hid hs
  have HL := Lib.hid (fun W => implFarLayers_yes n s W h1 h2 h3 h4)
  have hw := lay_weighed n s h1 hp
  have hll := lay_le n s n
  have hml := most_le n s n
  obtain ⟨f1, f2, f3, f4⟩ := all_facts n s h1 h2 h3 h4
  have hpw := pow_le n h2
  have HSz := Lib.hid (fun W => size_any s W (by omega))
  obtain ⟨N, hN⟩ : ∃ N, mostN n s n + 1 = N := ⟨_, rfl⟩
  rw [hN] at HL hw
  have hN13 : N ≤ 13 := by omega
  clear hi hs hp h4 hN hml
  generalize allN n s = a at *
  generalize sizeN s = z at *
  have HP : Hid (∀ k, sumTo (fun d => d * layN n s n d) (k + 1) = sumTo (fun d => d * layN n s n d) k + k * layN n s n k) := Lib.hid (fun k => rfl)
  have HLe : Hid (∀ k, k ≤ 13 → sumTo (fun d => d * layN n s n d) k ≤ 200 * k) := Lib.hid (fun k hk => by
    induction k with
    | zero => exact Nat.zero_le _
    | succ k ih =>
      have h := ih (by omega)
      show sumTo _ k + k * layN n s n k ≤ 200 * (k + 1)
      have h5 : k * layN n s n k ≤ 12 * 12 := Nat.mul_le_mul (by omega) (by have := hll k; omega)
      omega)
  go_wp2_with fail
  refine (HI.out _).mono ?_
  rintro e w2 ⟨rfl, hb2⟩
  have HB := Lib.hid (HB.out.trans (hb2.mono HB.out.size))
  clear hb2
  go_wp2_with fail
  refine (HS.out _).mono ?_
  rintro e w3 ⟨rfl, hb3⟩
  have HB := Lib.hid (HB.out.trans (hb3.mono HB.out.size))
  clear hb3
  go_wp2_with fail
  refine (HL.out _).mono ?_
  rintro e w4 ⟨g, cp, rfl, hb4, hI4⟩
  have HB := Lib.hid (HB.out.trans (hb4.mono HB.out.size))
  clear hb4
  have HL4 := Lib.hid hI4
  clear hI4
  have hlen := tabI_len N (fun d => ((layN n s n d : Nat) : Int))
  have HF := Lib.hid (And.intro f1 (And.intro f2 (And.intro f3 f4)))
  have HLl := Lib.hid hll
  have HW := Lib.hid hw
  clear f1 f2 f3 f4 hll hw h3
  go_wp2
  go_loopw [11, 12] (fun u v wr => ∃ k : Nat, k ≤ N ∧ u = .int .i64 ((sumTo (fun d => d * layN n s n d) k : Nat) : Int) ∧ v = .int .i64 (k : Int) ∧ Below w4.heap.size w4 wr) (fun _ v _ => N - (intOf v).toNat)
  case atStart => exact ⟨0, Nat.zero_le _, rfl, rfl, Below.refl _ _⟩
  case round =>
    obtain ⟨k, hk, rfl, rfl, hBk⟩ := hrel
    have HBk := Lib.hid hBk
    have HLk := Lib.hid (HL4.out.belowAll hBk)
    clear hBk
    by_cases hlt : k < N
    · have c1 := HLk.out.cell (i := k) (by rw [hlen]; exact hlt)
      rw [tabI_get N _ k hlt] at c1
      have hle := HLe.out k (by omega)
      have hl := HLl.out k
      have HU := Lib.hid (HP.out k)
      generalize layN n s n k = y at *
      generalize sumTo (fun d => d * layN n s n d) k = t at *
      obtain ⟨p, hp, hmW, hmV, hx⟩ := mul_low k y (by omega) (by omega)
      have hy := add_low t p (by omega) hp.2
      rw [hp.1] at HU
      have i1 : (0 : Int) ≤ (k : Int) := by omega
      have i2 : (k : Int) < (N : Int) := by omega
      have HX := Lib.hid hx
      have HY := Lib.hid hy
      clear hp hx hy hle
      go_wp2
      go_roundw
      case rel => exact ⟨k + 1, by omega, by rw [HU.out]; first | go_num | (rw [HY.out, Int.natCast_add]), by go_num, HBk.out⟩
      case measure => simp [intOf]; omega
    · have e : k = N := by omega
      subst e
      rw [HW.out]
      obtain ⟨f1, f2, f3, f4⟩ := HF.out
      have e1 : wrap64 ((n : Int) - 1) = (n : Int) - 1 := IntWalk.wrap64_in _ (by omega)
      have g1 : (n : Int) - 1 ≤ (a : Int) := by omega
      have HB9 := Lib.hid (HB.out.trans (HBk.out.mono HB.out.size))
      clear HL4 HLk HP HLe hlen HLl HF HW
      by_cases c : a + 1 = n
      · have z1 : z + 1 = n := by omega
        have c1 : ((a : Int) == (n : Int) - 1) = true := by simp; omega
        have c2 : ((z : Int) == (n : Int) - 1) = true := by simp; omega
        clear f1 f2 f3 f4 c z1
        go_wp2_with (go_at_call 23; refine (HSz.out _).mono ?_; rintro e w' ⟨rfl, rfl⟩)
        go_ret
        exact ⟨rfl, HB9.out⟩
      · have z1 : z + 1 ≠ n := fun h => c (by have := f3 h; omega)
        have c1 : ((a : Int) == (n : Int) - 1) = false := by simp; omega
        have c2 : ((z : Int) == (n : Int) - 1) = false := by simp; omega
        clear f1 f2 f3 f4 c z1
        go_wp2_with (go_at_call 23; refine (HSz.out _).mono ?_; rintro e w' ⟨rfl, rfl⟩)
        go_ret
        exact ⟨rfl, HB9.out⟩
end Go.Proofs.Ytgonanembcnlgaa
