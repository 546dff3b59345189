/- The draws of chapter 4. -/
import Derived.Test.YtookciehnjnmnaaDrawW
namespace Go.Proofs.Ytookciehnjnmnaa
open Go.RowKit Go.Shelf
set_option linter.unusedVariables false
theorem drawWalkFull_any (W : World) (B len cap : Nat) (A : Option Addr) (f : Nat → Nat) (hC : Code W B A len f) (hB : B ≤ W.heap.size) (hlc : len ≤ cap) (hcap : cap ≤ 9223372036854775807) :
    Calls Try.prog 27 #[.slice A len cap] W (StepsPost W) := by
  have HC := Lib.hid (steps_any W B len cap A f hC hB hlc hcap)
  clear hC
  go_enter Try.func27, Try.ntmps27
  go_wp2_with fail
  refine HC.out.mono ?_
  rintro e w1 ⟨n, s, rfl, hn1, hn2, hs, hb⟩
  go_wp2
  go_ret2
  exact ⟨n, s, rfl, hn1, hn2, hs, hb⟩
theorem drawWalkTurns_any (W : World) (B len cap : Nat) (A : Option Addr) (f : Nat → Nat) (hC : Code W B A len f) (hB : B ≤ W.heap.size) (hlc : len ≤ cap) (hcap : cap ≤ 9223372036854775807) :
    Calls Try.prog 9 #[.slice A len cap] W (StepsPost W) := by
  have HC := Lib.hid (steps_any W B len cap A f hC hB hlc hcap)
  clear hC
  go_enter Try.func9, Try.ntmps9
  go_wp2_with fail
  refine HC.out.mono ?_
  rintro e w1 ⟨n, s, rfl, hn1, hn2, hs, hb⟩
  go_wp2
  go_ret2
  exact ⟨n, s, rfl, hn1, hn2, hs, hb⟩
theorem drawWalkTrees_any (W : World) (B len cap : Nat) (A : Option Addr) (f : Nat → Nat) (hC : Code W B A len f) (hB : B ≤ W.heap.size) (hlc : len ≤ cap) (hcap : cap ≤ 9223372036854775807) :
    Calls Try.prog 15 #[.slice A len cap] W (StepsPost W) := by
  have HC := Lib.hid (steps_any W B len cap A f hC hB hlc hcap)
  clear hC
  go_enter Try.func15, Try.ntmps15
  go_wp2_with fail
  refine HC.out.mono ?_
  rintro e w1 ⟨n, s, rfl, hn1, hn2, hs, hb⟩
  go_wp2
  go_ret2
  exact ⟨n, s, rfl, hn1, hn2, hs, hb⟩
theorem drawWalkSquares_any (W : World) (B len cap : Nat) (A : Option Addr) (f : Nat → Nat) (hC : Code W B A len f) (hB : B ≤ W.heap.size) (hlc : len ≤ cap) (hcap : cap ≤ 9223372036854775807) :
    Calls Try.prog 20 #[.slice A len cap] W (CountPost 4 W) := by
  have HC := Lib.hid (drawCount_any 4 (by omega) (by omega) W B len cap A f hC hB hlc hcap)
  clear hC
  go_enter Try.func20, Try.ntmps20
  go_wp2_with fail
  refine HC.out.mono ?_
  rintro e w1 ⟨n, s, k, rfl, hn1, hn2, hs, hk1, hk2, hb⟩
  go_wp2
  go_ret3
  exact ⟨n, s, k, rfl, hn1, hn2, hs, hk1, hk2, hb⟩
end Go.Proofs.Ytookciehnjnmnaa
