/- The promise law FnPlayClasses over given contracts. Written by gen71.py. -/
import Derived.Test.YtaklmepioeoohaaPlyG
import Derived.Test.YtaklmepioeoohaaPlyH
import Derived.Test.YtaklmepioeoohaaDrawJ
import Derived.Test.YtaklmepioeoohaaGB
import Derived.Test.YtaklmepioeoohaaGM
import Derived.Test.YtaklmepioeoohaaPDifA
namespace Go.Proofs.Ytaklmepioeoohaa
open Go.RowKit Go.Shelf
set_option linter.unusedVariables false
theorem class_nums (c z l : Nat) (h1 : l ≤ c * z) (h2 : c ≤ l) (h3 : 1 ≤ c) (hz : z ≤ 12) (hl : l ≤ 4096) : ∃ P : Nat, (IntKind.i64.wrap ((c : Int) * (z : Int)) = (P : Int) ∧ wrap64 ((c : Int) * (z : Int)) = (P : Int)) ∧ (l : Int) ≤ (P : Int) ∧ (c : Int) ≤ (l : Int) ∧ (1 : Int) ≤ (c : Int) ∧ l ≤ P := by
  have hb : c * z ≤ 4096 * 12 := Nat.mul_le_mul (Nat.le_trans h2 hl) hz
  exact ⟨c * z, two_wraps _ _ (Int.natCast_mul c z).symm (Nat.le_trans hb (by decide)), Int.ofNat_le.2 h1, Int.ofNat_le.2 h2, by omega, h1⟩
set_option maxHeartbeats 1000000 in
set_option maxRecDepth 4000 in
theorem lawP_FnPlayClasses (W : World) (B len cap : Nat) (A : Option Addr) (f : Nat → Nat) (hC : Code W B A len f) (hB : B ≤ W.heap.size) (hlc : len ≤ cap) (hcap : cap ≤ 9223372036854775807)
    (hN : NoPlayClasses) (hY : YesPlayClasses) (hA : YesPlayAll) :
    Calls Try.prog 9 #[.slice A len cap] W fun e w' => e = .returned (.bool true) ∧ Below W.heap.size W w' := by
  have HC := Lib.hid (drawPlayClasses_any W B len cap A f hC hB hlc hcap)
  clear hC
  by_cases hlen : (1048576 : Int) < (len : Int)
  · go_enter Try.func9, Try.ntmps9
    go_wp2
    go_ret
    exact ⟨rfl, Below.refl _ _⟩
  go_enter Try.func9, Try.ntmps9
  go_wp2_with fail
  refine HC.out.mono ?_
  rintro e w1 ⟨n, rfl, hn13, hbl⟩
  have HB := Lib.hid hbl
  clear hbl hB hlc hcap
  by_cases hno : AllIn (n : Int)
  rotate_left
  · have HI := Lib.hid (fun W => hN n W hno)
    have HS := Lib.hid (fun W => specPlayClasses_no n W hno)
    clear hno hN hY hA
    go_wp2_with fail
    refine (HI.out _).mono ?_
    rintro e w2 ⟨rfl, hb2⟩
    have HB := Lib.hid (HB.out.trans (hb2.mono HB.out.size))
    clear hb2
    go_wp2_with fail
    refine (HS.out _).mono ?_
    rintro e w3 ⟨rfl, rfl⟩
    go_wp2
    go_ret
    exact ⟨rfl, HB.out⟩
  obtain ⟨n', hn', h1, h2, h3⟩ := hno
  obtain rfl : n = n' := by omega
  clear hn' hn13
  have HI := Lib.hid (fun W => hY n W h1 h2 h3)
  have HS := Lib.hid (fun W => specPlayClasses_yes n W h1 h2 h3)
  have HA := Lib.hid (fun W => hA n W h1 h2 h3)
  have HS : Hid (∀ W, Calls Try.prog 34 #[.int .i64 (n:Int)] W fun e w' => e = .returned (.tuple #[.int .i64 ((clsAll n : Nat) : Int), .bool true]) ∧ Below W.heap.size W w') := HS
  have HU := Lib.hid (fun W => implUnits_yes n W (by omega) (by omega))
  have HSz := Lib.hid (fun W => size_any (unitsN n) W (Nat.lt_of_lt_of_le (unitsN_lt n) (Nat.pow_le_pow_right (by omega) (by omega))))
  have hz := sizeN_le n (unitsN n) (by omega) (unitsN_lt n)
  obtain ⟨p1, p2, p3⟩ := p_classes n h1 h2 h3
  have hxl : (playL n (2 ^ (n - 1))).length ≤ 4096 := Nat.le_trans (playL_len n (2 ^ (n - 1))) (Nat.le_trans (pow_le (n - 1) (by omega)) (by omega))
  generalize playL n (2 ^ (n - 1)) = xs at *
  generalize clsAll n = c at *
  generalize sizeN (unitsN n) = z at *
  generalize unitsN n = U at *
  have HK := Lib.hid (class_nums c z xs.length p1 p2 p3 (Nat.le_trans hz (by omega)) hxl)
  clear hN hY hA p1 p2 p3 hz hxl h3
  go_wp2_with fail
  refine (HI.out _).mono ?_
  rintro e w2 ⟨rfl, hb2⟩
  have HB := Lib.hid (HB.out.trans (hb2.mono HB.out.size))
  clear hb2
  go_wp2_with fail
  refine (HS.out _).mono ?_
  rintro e w3 ⟨rfl, hb3⟩
  have HB := Lib.hid (HB.out.trans (hb3.mono HB.out.size))
  clear hb3
  go_wp2_with fail
  refine (HA.out _).mono ?_
  rintro e w6 ⟨sa, rfl, hb6, hI6⟩
  have HI6 := Lib.hid hI6
  have HB := Lib.hid (HB.out.trans (hb6.mono HB.out.size))
  clear hb6 hI6
  obtain ⟨A', cap', rfl⟩ : ∃ A' cap', sa = .slice A' xs.length cap' := by
    rcases HI6.out.shape with ⟨e1, e2⟩ | ⟨g, c, e1, _, _, _⟩
    · exact ⟨none, 0, by rw [e1, e2]; rfl⟩
    · exact ⟨_, c, e1⟩
  go_wp2_with fail
  refine (HU.out _).mono ?_
  rintro e w8 ⟨rfl, hb8⟩
  have HB := Lib.hid (HB.out.trans (hb8.mono HB.out.size))
  clear hb8
  go_wp2_with fail
  refine (HSz.out _).mono ?_
  rintro e w9 ⟨rfl, rfl⟩
  obtain ⟨P, ⟨m1, m2⟩, l1, l2, l3, l4⟩ := HK.out
  have l5 := dec_t l1
  have l6 := dec_t l2
  have l7 := dec_t l3
  go_wp2
  go_ret
  exact ⟨rfl, HB.out⟩
end Go.Proofs.Ytaklmepioeoohaa
