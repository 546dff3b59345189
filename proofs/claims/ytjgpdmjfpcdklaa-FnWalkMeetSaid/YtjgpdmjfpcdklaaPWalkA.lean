/- The law FnWalkMeet: walks meet halfway. -/
import Derived.Test.YtjgpdmjfpcdklaaDrawV
import Derived.Test.YtjgpdmjfpcdklaaSame
import Derived.Test.YtjgpdmjfpcdklaaWalkH
import Derived.Test.YtjgpdmjfpcdklaaArrG
import Derived.Test.YtjgpdmjfpcdklaaWalkC
namespace Go.Proofs.Ytjgpdmjfpcdklaa
open Go.RowKit Go.Shelf
set_option linter.unusedVariables false
theorem mul_two (a b : Nat) (ha : a ≤ 161051) (hb : b ≤ 161051) : ∃ p : Nat, (a * b = p ∧ p ≤ 25937424601) ∧ IntKind.i64.wrap ((a : Int) * (b : Int)) = (p : Int) ∧ wrap64 ((a : Int) * (b : Int)) = (p : Int) := by
  have h := Nat.mul_le_mul ha hb
  refine ⟨a * b, ⟨rfl, h⟩, ?_, ?_⟩
  · rw [← Int.natCast_mul]
    generalize a * b = p at *
    exact IntWalk.i64_in _ ⟨by omega, by omega⟩
  · rw [← Int.natCast_mul]
    generalize a * b = p at *
    exact IntWalk.wrap64_in _ ⟨by omega, by omega⟩
theorem add_both (t p : Nat) (ht : t ≤ 25937424601) (hp : p ≤ 25937424601) : wrap64 ((t : Int) + (p : Int)) = (t : Int) + (p : Int) := IntWalk.wrap64_in _ ⟨by omega, by omega⟩
/-- The sum of the products of what lies opposite, of the first places. -/
def meetN (n s k j : Nat) : Nat := sumTo (fun v => wlkN n s k v * wlkN n s k ((n - v) % n)) j
theorem meet_le (n s k j : Nat) (h1 : 1 ≤ n) (h2 : n ≤ 12) (h0 : s.testBit 0 = false) (hk : k ≤ 5) (hj : j ≤ n) : meetN n s k j ≤ 25937424601 := by
  have a : meetN n s k j ≤ meetN n s k n := sumTo_mono _ j n hj
  have b : meetN n s k n = wlkN n s (2 * k) 0 := (wlk_meet n s k h1 h2).symm
  have c := wlk_le n s (2 * k) 0 h1 h2 h0 (by omega)
  have d := eleven (2 * k) (by omega)
  omega
theorem five (n s k x : Nat) (h1 : 1 ≤ n) (h2 : n ≤ 12) (h0 : s.testBit 0 = false) (hx : x < n) (hk : k ≤ 5) : wlkN n s k x ≤ 161051 :=
  Nat.le_trans (wlk_le n s k x h1 h2 h0 hx) (Nat.pow_le_pow_right (n := 11) (by omega) hk)
set_option maxRecDepth 20000 in
set_option maxHeartbeats 2000000 in
theorem law_PWalkMeet (W : World) (B len cap : Nat) (A : Option Addr) (f : Nat → Nat) (hC : Code W B A len f) (hB : B ≤ W.heap.size) (hlc : len ≤ cap) (hcap : cap ≤ 9223372036854775807) :
    Calls Try.prog 8 #[.slice A len cap] W fun e w' => e = .returned (.bool true) ∧ Below W.heap.size W w' := by
  have HC := Lib.hid (drawWalkCounts_any W B len cap A f hC hB hlc hcap)
  clear hC
  by_cases hlen : (1048576 : Int) < (len : Int)
  · go_enter Try.func8, Try.ntmps8
    go_wp2
    go_ret
    exact ⟨rfl, Below.refl _ _⟩
  go_enter Try.func8, Try.ntmps8
  go_wp2_with fail
  refine HC.out.mono ?_
  rintro e w1 ⟨n, s, k, rfl, h1, h2, h3, hk1, hk2, hb1⟩
  have HB := Lib.hid hb1
  clear hb1 hB hlc hcap
  by_cases hbad : NoStep (n : Int) (s : Int) ∨ ¬ (0 ≤ k ∧ k ≤ 10)
  · have HI := Lib.hid (fun W => implWalkCounts_bad n s k W hbad)
    have key : ∀ W, Calls Try.prog 21 #[.int .i64 (n:Int), .int .i64 (s:Int), .int .i64 k] W (ListRes W [] false) := fun W => by
      by_cases hno : NoStep (n : Int) (s : Int)
      · exact (specWalkCounts_no n s k W hno).mono fun e w' h => none_res h
      · have h4 : s.testBit 0 = false := by
          obtain ⟨n', s', hn', hs', _, _, _, h4⟩ := not_noStep hno
          obtain rfl : s = s' := by omega
          exact h4
        exact (specWalkCounts_out n s k W h1 h2 h3 h4 (hbad.resolve_left hno)).mono fun e w' h => none_res h
    have HS := Lib.hid key
    clear key hbad
    go_wp2_with fail
    refine (HI.out _).mono ?_
    rintro e w2 ⟨sa, rfl, hb2, hI2⟩
    have HI2 := Lib.hid hI2
    clear hI2
    have HB := Lib.hid (HB.out.trans (hb2.mono HB.out.size))
    clear hb2
    go_wp2_with fail
    refine (HS.out _).mono ?_
    rintro e w3 ⟨sb, rfl, hb3, hI3⟩
    have HI3 := Lib.hid hI3
    have HI2' := Lib.hid (HI2.out.belowAll hb3)
    clear hI3
    have HB := Lib.hid (HB.out.trans (hb3.mono HB.out.size))
    clear hb3
    go_wp2_with fail
    refine (sameInts_any _ _ [] _ _ _ HI2'.out HI3.out).mono ?_
    rintro e w4 ⟨rfl, hb4⟩
    have HI4 := Lib.hid (HI2'.out.belowAll hb4)
    have HI5 := Lib.hid (HI3.out.belowAll hb4)
    have HB := Lib.hid (HB.out.trans (hb4.mono HB.out.size))
    clear hb4
    go_wp2_with fail
    refine (sameInts_any _ _ [] _ _ _ HI4.out HI5.out).mono ?_
    rintro e w5 ⟨rfl, hb5⟩
    have HB := Lib.hid (HB.out.trans (hb5.mono HB.out.size))
    clear hb5
    go_wp2
    go_ret
    exact ⟨rfl, HB.out⟩
  have hno : ¬ NoStep (n : Int) (s : Int) := fun h => hbad (.inl h)
  have hk3 : 0 ≤ k ∧ k ≤ 10 := Decidable.byContradiction fun h => hbad (.inr h)
  have h4 : s.testBit 0 = false := by
    obtain ⟨n', s', hn', hs', _, _, _, h4⟩ := not_noStep hno
    obtain rfl : s = s' := by omega
    exact h4
  obtain ⟨k, rfl⟩ : ∃ m : Nat, k = (m : Int) := ⟨k.toNat, by omega⟩
  have hk10 : k ≤ 10 := by omega
  have HI := Lib.hid (fun W => implWalkCounts_yes n s k W h1 h2 h3 h4 hk10)
  have HS := Lib.hid (fun W => (specWalkCounts_yes n s k W h1 h2 h3 h4 hk10).mono (R' := fun e w' => ListRes W (tabW n (wlkN n s k)) true e w') fun e w' h => lists_res h)
  clear hbad hno hk1 hk2 hk3
  go_wp2_with fail
  refine (HI.out _).mono ?_
  rintro e w2 ⟨g, cp, rfl, hb2, hI2⟩
  have HI2 := Lib.hid hI2
  clear hI2
  have HB := Lib.hid (HB.out.trans (hb2.mono HB.out.size))
  clear hb2
  go_wp2_with fail
  refine (HS.out _).mono ?_
  rintro e w3 ⟨sb, rfl, hb3, hI3⟩
  have HI3 := Lib.hid hI3
  have HI2' := Lib.hid (HI2.out.belowAll hb3)
  clear hI3
  have HB := Lib.hid (HB.out.trans (hb3.mono HB.out.size))
  clear hb3
  go_wp2_with fail
  refine (sameInts_any _ _ (tabW n (wlkN n s k)) _ _ _ HI2'.out HI3.out).mono ?_
  rintro e w4 ⟨rfl, hb4⟩
  have HI4 := Lib.hid (HI2'.out.belowAll hb4)
  have HB := Lib.hid (HB.out.trans (hb4.mono HB.out.size))
  clear hb4
  by_cases hk5 : (5 : Int) < (k : Int)
  · go_wp2
    go_ret
    exact ⟨rfl, HB.out⟩
  have hk55 : k ≤ 5 := by omega
  have HCl := Lib.hid (fun W => implWalkClosed_yes n s (2 * k) W h1 h2 h3 h4 (by omega))
  rw [wlk_meet n s k h1 h2] at HCl
  have HCl' : Hid (∀ W, Calls Try.prog 13 #[.int .i64 (n:Int), .int .i64 (s:Int), .int .i64 ((2 * k : Nat) : Int)] W fun e w' => e = .returned (.tuple #[.int .i64 ((meetN n s k n : Nat) : Int), .bool true]) ∧ Below W.heap.size W w') := HCl
  have HLe := Lib.hid (fun j hj => meet_le n s k j h1 h2 h4 hk55 hj)
  have HFi := Lib.hid (fun x hx => five n s k x h1 h2 h4 hx hk55)
  have HUp : Hid (∀ j, meetN n s k (j + 1) = meetN n s k j + wlkN n s k j * wlkN n s k ((n - j) % n)) := Lib.hid (fun j => rfl)
  have hlw := tabW_len n (wlkN n s k)
  obtain ⟨K, hK⟩ : ∃ K, 2 * k = K := ⟨_, rfl⟩
  rw [hK] at HCl'
  have hKI : IntKind.i64.wrap (2 * (k : Int)) = (K : Int) := by
    rw [show 2 * (k : Int) = (K : Int) by omega]
    exact IntWalk.i64_in _ ⟨by omega, by omega⟩
  have hKJ : wrap64 (2 * (k : Int)) = (K : Int) := by
    rw [show 2 * (k : Int) = (K : Int) by omega]
    exact IntWalk.wrap64_in _ ⟨by omega, by omega⟩
  have hK2 : 2 * (k : Int) = (K : Int) := by omega
  clear hK HCl h4 h3
  go_wp2_with fail
  refine (HCl'.out _).mono ?_
  rintro e w5 ⟨rfl, hb5⟩
  have HI5 := Lib.hid (HI4.out.belowAll hb5)
  have HB := Lib.hid (HB.out.trans (hb5.mono HB.out.size))
  clear hb5
  go_wp2
  go_loopw [12, 13] (fun a u wr => ∃ j : Nat, j ≤ n ∧ a = .int .i64 ((meetN n s k j : Nat) : Int) ∧ u = .int .i64 (j : Int) ∧ Below w5.heap.size w5 wr) (fun _ u _ => n - (intOf u).toNat)
  case atStart => exact ⟨0, Nat.zero_le _, rfl, rfl, Below.refl _ _⟩
  case round =>
    obtain ⟨j, hj, rfl, rfl, hB⟩ := hrel
    have HBj := Lib.hid hB
    have HIj := Lib.hid (HI5.out.belowAll hB)
    clear hB
    by_cases hlt : j < n
    · have c1 := HIj.out.cell (i := j) (by rw [hlw]; exact hlt)
      rw [tabW_get n _ j hlt] at c1
      have hql := Nat.mod_lt (n - j) (show 0 < n by omega)
      have c2 := HIj.out.cell (i := (n - j) % n) (by rw [hlw]; exact hql)
      rw [tabW_get n _ _ hql] at c2
      have hm2 : ((n : Int) - (j : Int)) % (n : Int) = (((n - j) % n : Nat) : Int) := by
        rw [show (n : Int) - (j : Int) = ((n - j : Nat) : Int) by omega]; simp
      have hm1 : Int.tmod ((n : Int) - (j : Int)) (n : Int) = (((n - j) % n : Nat) : Int) := by rw [Int.tmod_eq_emod_of_nonneg (by omega)]; exact hm2
      have l1 := HLe.out j hj
      have la := HFi.out j hlt
      have lb := HFi.out _ hql
      have HU := Lib.hid (HUp.out j)
      generalize (n - j) % n = q at *
      generalize wlkN n s k j = a at *
      generalize wlkN n s k q = b at *
      generalize meetN n s k j = t at *
      obtain ⟨p, hp, m1, m2⟩ := mul_two a b la lb
      have HU2 : Hid (meetN n s k (j + 1) = t + p) := Lib.hid (by rw [HU.out, hp.1])
      have hp2 := hp.2
      clear hp HU
      have HY := Lib.hid (add_both t p l1 hp2)
      have i1 : (0 : Int) ≤ (j : Int) := by omega
      have i2 : (j : Int) < (n : Int) := by omega
      have i3 : (0 : Int) ≤ (q : Int) := by omega
      have i4 : (q : Int) < (n : Int) := by omega
      have n0 : ¬ (n : Int) = 0 := by omega
      go_wp2
      go_quiet (fail)
      go_wp2
      go_roundw
      case rel => exact ⟨j + 1, by omega, by rw [HU2.out]; first | (rw [HY.out, Int.natCast_add]) | go_num, by go_num, below_drewN HBj.out _⟩
      case measure => simp [intOf]; omega
    · obtain rfl : j = n := by omega
      have i2 : ¬ (j : Int) < (j : Int) := by omega
      have HB9 := Lib.hid (HB.out.trans (HBj.out.mono HB.out.size))
      go_wp2
      go_ret
      exact ⟨rfl, HB9.out⟩
end Go.Proofs.Ytjgpdmjfpcdklaa
