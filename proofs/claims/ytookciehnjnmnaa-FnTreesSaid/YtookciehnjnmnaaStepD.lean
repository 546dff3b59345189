/- Drawing a ring and steps, from a code. -/
import Derived.Test.YtookciehnjnmnaaDrawS
import Derived.Test.YtookciehnjnmnaaGC
namespace Go.Proofs.Ytookciehnjnmnaa
open Go.RowKit Go.Shelf
set_option linter.unusedVariables false
def StepsPost (W : World) (e : Ending) (w' : World) : Prop :=
  ∃ n s : Nat, e = .returned (.tuple #[.int .i64 (n : Int), .int .i64 (s : Int)]) ∧ 1 ≤ n ∧ n ≤ 12 ∧ s < 2 ^ n ∧ Below W.heap.size W w'
def PlacePost (W : World) (e : Ending) (w' : World) : Prop :=
  ∃ (n s : Nat) (v : Int), e = .returned (.tuple #[.int .i64 (n : Int), .int .i64 (s : Int), .int .i64 v]) ∧ 1 ≤ n ∧ n ≤ 12 ∧ s < 2 ^ n ∧ -2 ≤ v ∧ v ≤ 100 ∧ Below W.heap.size W w'
theorem steps_any (W : World) (B len cap : Nat) (A : Option Addr) (f : Nat → Nat) (hC : Code W B A len f) (hB : B ≤ W.heap.size) (hlc : len ≤ cap) (hcap : cap ≤ 9223372036854775807) :
    Calls Try.prog 31 #[.slice A len cap] W (StepsPost W) := by
  have HC := Lib.hid (open_any W B len cap A f hC hB hlc hcap)
  clear hC
  go_enter Try.func31, Try.ntmps31
  go_wp2_with fail
  refine HC.out.mono ?_
  rintro e w1 ⟨R, A', len', cap', rfl, hR, hl, hRd, hCd, hb1⟩
  have z1 := hb1.size
  have HRd : Hid (Reader w1 B R 0) := Lib.hid ⟨⟨A', len', cap', f, hRd, hCd, hl⟩, by omega⟩
  clear hRd hCd
  go_wp2_with fail
  refine (step_any w1 B R 0 HRd.out (by omega)).mono ?_
  rintro e w2 ⟨n, s, q, rfl, hn1, hn2, hs, hq, hR2, hA2⟩
  have HB2 := Lib.hid (hb1.trans (hA2.below (m := W.heap.size) hR z1))
  clear hR2 hA2
  go_wp2
  go_ret2
  exact ⟨n, s, rfl, hn1, hn2, hs, HB2.out⟩
end Go.Proofs.Ytookciehnjnmnaa
