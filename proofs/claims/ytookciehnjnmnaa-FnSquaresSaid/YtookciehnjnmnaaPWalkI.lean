/- The law FnSquares: squares are walks there and back. -/
import Derived.Test.YtookciehnjnmnaaDrawV
import Derived.Test.YtookciehnjnmnaaSame
import Derived.Test.YtookciehnjnmnaaArrG
import Derived.Test.YtookciehnjnmnaaWalkC
import Derived.Test.YtookciehnjnmnaaWalkK
import Derived.Test.YtookciehnjnmnaaTreeH
import Derived.Test.YtookciehnjnmnaaStepWA
namespace Go.Proofs.Ytookciehnjnmnaa
open Go.RowKit Go.Shelf
set_option linter.unusedVariables false
theorem tabW_sum' (n : Nat) (F : Nat → Nat) : sumL (tabW n F) (tabW n F).length = sumTo F n := by
  rw [tabW_len]
  unfold sumL
  exact sumTo_congr _ _ n fun v hv => by rw [tabW_get n F v hv]; exact Int.toNat_natCast _
theorem small_wrap (x : Int) (q : Nat) (h : x = (q : Int)) (hq : q ≤ 1000000000000) : IntKind.i64.wrap x = (q : Int) ∧ wrap64 x = (q : Int) := by
  subst h
  exact ⟨IntWalk.i64_in _ ⟨by omega, by omega⟩, IntWalk.wrap64_in _ ⟨by omega, by omega⟩⟩
theorem deg_eleven' (n s : Nat) (h1 : 1 ≤ n) (h2 : n ≤ 12) (h0 : s.testBit 0 = false) : degN n s ≤ 11 := by
  obtain ⟨m, rfl⟩ : ∃ m, n = m + 1 := ⟨n - 1, by omega⟩
  have := deg_le m s h0
  omega
set_option maxHeartbeats 2000000 in
theorem law_PSquares (W : World) (B len cap : Nat) (A : Option Addr) (f : Nat → Nat) (hC : Code W B A len f) (hB : B ≤ W.heap.size) (hlc : len ≤ cap) (hcap : cap ≤ 9223372036854775807) :
    Calls Try.prog 7 #[.slice A len cap] W fun e w' => e = .returned (.bool true) ∧ Below W.heap.size W w' := by
  have HC := Lib.hid (drawWalkSquares_any W B len cap A f hC hB hlc hcap)
  clear hC
  by_cases hlen : (1048576 : Int) < (len : Int)
  · go_enter Try.func7, Try.ntmps7
    go_wp2
    go_ret
    exact ⟨rfl, Below.refl _ _⟩
  go_enter Try.func7, Try.ntmps7
  go_wp2_with fail
  refine HC.out.mono ?_
  rintro e w1 ⟨n, s, k, rfl, h1, h2, h3, hk1, hk2, hb1⟩
  have HB := Lib.hid hb1
  clear hb1 hB hlc hcap
  by_cases hbad : NoStep (n : Int) (s : Int) ∨ ¬ (0 ≤ k ∧ k ≤ 5)
  · have HI := Lib.hid (fun W => implWalkSquares_bad' n s k W hbad)
    have key : ∀ W, Calls Try.prog 22 #[.int .i64 (n:Int), .int .i64 (s:Int), .int .i64 k] W fun e w' => e = .returned (.tuple #[.int .i64 0, .bool false]) ∧ W = w' := fun W => by
      by_cases hno : NoStep (n : Int) (s : Int)
      · exact specWalkSquares_no n s k W hno
      · have h4 : s.testBit 0 = false := by
          obtain ⟨n', s', hn', hs', _, _, _, h4⟩ := not_noStep hno
          obtain rfl : s = s' := by omega
          exact h4
        exact specWalkSquares_out n s k W h1 h2 h3 h4 (hbad.resolve_left hno)
    have HS := Lib.hid key
    clear key hbad
    go_wp2_with fail
    refine (HI.out _).mono ?_
    rintro e w2 ⟨rfl, hb2⟩
    have HB := Lib.hid (HB.out.trans (hb2.mono HB.out.size))
    clear hb2
    go_wp2_with fail
    refine (HS.out _).mono ?_
    rintro e w3 ⟨rfl, rfl⟩
    go_wp2
    go_ret
    exact ⟨rfl, HB.out⟩
  have hno : ¬ NoStep (n : Int) (s : Int) := fun h => hbad (.inl h)
  have hk3 : 0 ≤ k ∧ k ≤ 5 := Decidable.byContradiction fun h => hbad (.inr h)
  have h4 : s.testBit 0 = false := by
    obtain ⟨n', s', hn', hs', _, _, _, h4⟩ := not_noStep hno
    obtain rfl : s = s' := by omega
    exact h4
  obtain ⟨k, rfl⟩ : ∃ m : Nat, k = (m : Int) := ⟨k.toNat, by omega⟩
  have hk5 : k ≤ 5 := by omega
  have HI := Lib.hid (fun W => implWalkSquares_yes n s k W h1 h2 h3 h4 hk5)
  have HS := Lib.hid (fun W => specWalkSquares_yes n s k W h1 h2 h3 h4 hk5)
  have HW := Lib.hid (fun W => implWalkClosed_yes n s (2 * k) W h1 h2 h3 h4 (by omega))
  have HL := Lib.hid (fun W => implWalkCounts_yes n s k W h1 h2 h3 h4 (by omega))
  have HE := Lib.hid (fun W => implStepEven_yes n s W h1 h2 h3 h4)
  have HTot := Lib.hid (fun sv W b hI => totalB_any sv (tabW n (wlkN n s k)) W b hI (by rw [tabW_len]; omega) (fun i hi => by
    rw [tabW_len] at hi
    rw [tabW_get n _ i hi]
    have a := wlk_le n s k i h1 h2 h4 hi
    have b := eleven k (by omega)
    omega))
  rw [tabW_sum'] at HTot
  have htl : sumTo (wlkN n s k) n ≤ 161051 := by
    rw [wlk_total n s k h1]
    exact Nat.le_trans (Nat.pow_le_pow_left (deg_eleven' n s h1 h2 h4) k) (Nat.pow_le_pow_right (by omega) hk5)
  have hql := sqN_le n s k n h1 h2 h4 hk5 (Nat.le_refl _)
  have hsq := walk_sq n s k
  have hev : bothN n s = s → wlkN n s (2 * k) 0 = sqN n s k n := fun h => wlk_square n s k h1 h2 (even_sb n s h1 h2 h3 h)
  have hlw := tabW_len n (wlkN n s k)
  generalize sumTo (wlkN n s k) n = T at *
  generalize sqN n s k n = Q at *
  generalize wlkN n s (2 * k) 0 = X at *
  have hm1 : T * T ≤ 161051 * 161051 := Nat.mul_le_mul htl htl
  have hm2 : Q * n ≤ 25937424601 * 12 := Nat.mul_le_mul hql h2
  have hc1 : (T : Int) * (T : Int) = ((T * T : Nat) : Int) := (Int.natCast_mul T T).symm
  have hc2 : (Q : Int) * (n : Int) = ((Q * n : Nat) : Int) := (Int.natCast_mul Q n).symm
  generalize T * T = TT at *
  generalize Q * n = QN at *
  obtain ⟨w1, w2⟩ := small_wrap _ TT hc1 (Nat.le_trans hm1 (by decide))
  obtain ⟨w3, w4⟩ := small_wrap _ QN hc2 (Nat.le_trans hm2 (by decide))
  have c1 : (TT : Int) ≤ (QN : Int) := Int.ofNat_le.2 hsq
  have c2 : decide ((TT : Int) ≤ (QN : Int)) = true := decide_eq_true c1
  clear hc1 hc2 hm1 hm2 hsq htl hql
  obtain ⟨K, hK⟩ : ∃ K, 2 * k = K := ⟨_, rfl⟩
  rw [hK] at HW
  have m1 : 2 * (k : Int) = (K : Int) := by rw [← hK]; rfl
  obtain ⟨m2, m3⟩ := small_wrap _ K m1 (by omega)
  clear hK m1 hbad hno hk1 hk2 hk3 h3 h4
  go_wp2_with fail
  refine (HI.out _).mono ?_
  rintro e w2 ⟨rfl, hb2⟩
  have HB := Lib.hid (HB.out.trans (hb2.mono HB.out.size))
  clear hb2
  go_wp2_with fail
  refine (HS.out _).mono ?_
  rintro e w3 ⟨rfl, hb3⟩
  have HB := Lib.hid (HB.out.trans (hb3.mono HB.out.size))
  clear hb3
  go_wp2_with fail
  refine (HW.out _).mono ?_
  rintro e w4 ⟨rfl, hb4⟩
  have HB := Lib.hid (HB.out.trans (hb4.mono HB.out.size))
  clear hb4
  go_wp2_with fail
  refine (HL.out _).mono ?_
  rintro e w5 ⟨g, cp, rfl, hb5, hI5⟩
  have HI5 := Lib.hid hI5
  clear hI5
  have HB := Lib.hid (HB.out.trans (hb5.mono HB.out.size))
  clear hb5
  by_cases hd : bothN n s = s
  · obtain rfl := hev hd
    rw [decide_eq_true hd] at HE
    clear hev hd
    go_wp2_with fail
    refine (HE.out _).mono ?_
    rintro e w6 ⟨rfl, hb6⟩
    have HI6 := Lib.hid (HI5.out.belowAll hb6)
    have HB := Lib.hid (HB.out.trans (hb6.mono HB.out.size))
    clear hb6
    go_wp2_with fail
    refine (HTot.out _ _ _ HI6.out).mono ?_
    rintro e w7 ⟨rfl, rfl⟩
    go_wp2_with fail
    refine (HTot.out _ _ _ HI6.out).mono ?_
    rintro e w8 ⟨rfl, rfl⟩
    go_wp2
    go_ret
    exact ⟨rfl, HB.out⟩
  · rw [decide_eq_false hd] at HE
    clear hev hd
    go_wp2_with fail
    refine (HE.out _).mono ?_
    rintro e w6 ⟨rfl, hb6⟩
    have HI6 := Lib.hid (HI5.out.belowAll hb6)
    have HB := Lib.hid (HB.out.trans (hb6.mono HB.out.size))
    clear hb6
    go_wp2_with fail
    refine (HTot.out _ _ _ HI6.out).mono ?_
    rintro e w7 ⟨rfl, rfl⟩
    go_wp2_with fail
    refine (HTot.out _ _ _ HI6.out).mono ?_
    rintro e w8 ⟨rfl, rfl⟩
    go_wp2
    go_ret
    exact ⟨rfl, HB.out⟩
end Go.Proofs.Ytookciehnjnmnaa
