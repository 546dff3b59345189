/- The draws of chapter 4: a ring, steps and a number. -/
import Derived.Test.YtookciehnjnmnaaStepD
namespace Go.Proofs.Ytookciehnjnmnaa
open Go.RowKit Go.Shelf
set_option linter.unusedVariables false
def CountPost (M : Nat) (W : World) (e : Ending) (w' : World) : Prop :=
  ∃ (n s : Nat) (k : Int), e = .returned (.tuple #[.int .i64 (n:Int), .int .i64 (s:Int), .int .i64 k]) ∧ 1 ≤ n ∧ n ≤ 12 ∧ s < 2 ^ n ∧ -1 ≤ k ∧ k ≤ 2 * (M : Int) ∧ Below W.heap.size W w'
set_option maxHeartbeats 1000000 in
theorem drawCount_any (M : Nat) (hM1 : 1 ≤ M) (hM2 : M ≤ 100) (W : World) (B len cap : Nat) (A : Option Addr) (f : Nat → Nat) (hC : Code W B A len f) (hB : B ≤ W.heap.size) (hlc : len ≤ cap) (hcap : cap ≤ 9223372036854775807) :
    Calls Try.prog 47 #[.slice A len cap, .int .i64 (M:Int)] W (CountPost M W) := by
  have HC := Lib.hid (open_any W B len cap A f hC hB hlc hcap)
  clear hC
  go_enter Try.func47, Try.ntmps47
  go_wp2_with fail
  refine HC.out.mono ?_
  rintro e w1 ⟨R, A', len', cap', rfl, hR, hl, hRd, hCd, hb1⟩
  have z1 := hb1.size
  have HRd : Hid (Reader w1 B R 0) := Lib.hid ⟨⟨A', len', cap', f, hRd, hCd, hl⟩, by omega⟩
  clear hRd hCd
  go_wp2_with fail
  refine (step_any w1 B R 0 HRd.out (by omega)).mono ?_
  rintro e w2 ⟨n, s, q, rfl, hn1, hn2, hs, hq, hR2, hA2⟩
  have HR2 := Lib.hid hR2
  have HB2 := Lib.hid (hb1.trans (hA2.below (m := W.heap.size) hR z1))
  have z2 := HB2.out.size
  clear hR2 hA2
  go_wp2_with fail
  refine (draw_any w2 B R q _ HR2.out (by omega) (by omega) (by omega)).mono ?_
  rintro e w3 ⟨v, rfl, hv, hR3, hA3⟩
  have hv3 := hv (by omega)
  have HR3 := Lib.hid hR3
  have HB3 := Lib.hid (HB2.out.trans (hA3.below (m := W.heap.size) hR z2))
  have z3 := HB3.out.size
  clear hR3 hA3 hv
  go_wp2_with fail
  refine (draw_any w3 B R (q + 1) 24 HR3.out (by omega) (by omega) (by omega)).mono ?_
  rintro e w4 ⟨d, rfl, hd, hR4, hA4⟩
  have hd4 := hd (by omega)
  have HR4 := Lib.hid hR4
  have HB4 := Lib.hid (HB3.out.trans (hA4.below (m := W.heap.size) hR z3))
  have z4 := HB4.out.size
  clear hR4 hA4 hd
  by_cases hd23 : d = 23
  all_goals
    first
      | subst hd23
      | (have hq1 : (d : Int) / 23 = 0 := by omega
         have hq2 : Int.tdiv (d : Int) 23 = 0 := by rw [Int.tdiv_eq_ediv_of_nonneg (by omega)]; exact hq1)
    go_wp2_with fail
    refine (draw_any w4 B R (q + 1 + 1) 24 HR4.out (by omega) (by omega) (by omega)).mono ?_
    rintro e w5 ⟨c, rfl, hc, hR5, hA5⟩
    have hc5 := hc (by omega)
    have HB5 := Lib.hid (HB4.out.trans (hA5.below (m := W.heap.size) hR z4))
    clear hR5 hA5 hc
    by_cases hc23 : c = 23
    all_goals
      first
        | subst hc23
        | (have hq3 : (c : Int) / 23 = 0 := by omega
           have hq4 : Int.tdiv (c : Int) 23 = 0 := by rw [Int.tdiv_eq_ediv_of_nonneg (by omega)]; exact hq3)
      go_wp2
      go_ret3
      exact ⟨n, s, _, rfl, hn1, hn2, hs, by omega, by omega, HB5.out⟩
end Go.Proofs.Ytookciehnjnmnaa
