/- The draws of chapter 4. -/
import Derived.Test.YtjgpdmjfpcdklaaDrawW
namespace Go.Proofs.Ytjgpdmjfpcdklaa
open Go.RowKit Go.Shelf
set_option linter.unusedVariables false
theorem drawFarWays_any (W : World) (B len cap : Nat) (A : Option Addr) (f : Nat → Nat) (hC : Code W B A len f) (hB : B ≤ W.heap.size) (hlc : len ≤ cap) (hcap : cap ≤ 9223372036854775807) :
    Calls Try.prog 14 #[.slice A len cap] W (StepsPost W) := by
  have HC := Lib.hid (steps_any W B len cap A f hC hB hlc hcap)
  clear hC
  go_enter Try.func14, Try.ntmps14
  go_wp2_with fail
  refine HC.out.mono ?_
  rintro e w1 ⟨n, s, rfl, hn1, hn2, hs, hb⟩
  go_wp2
  go_ret2
  exact ⟨n, s, rfl, hn1, hn2, hs, hb⟩
theorem drawStepHalves_any (W : World) (B len cap : Nat) (A : Option Addr) (f : Nat → Nat) (hC : Code W B A len f) (hB : B ≤ W.heap.size) (hlc : len ≤ cap) (hcap : cap ≤ 9223372036854775807) :
    Calls Try.prog 9 #[.slice A len cap] W (StepsPost W) := by
  have HC := Lib.hid (steps_any W B len cap A f hC hB hlc hcap)
  clear hC
  go_enter Try.func9, Try.ntmps9
  go_wp2_with fail
  refine HC.out.mono ?_
  rintro e w1 ⟨n, s, rfl, hn1, hn2, hs, hb⟩
  go_wp2
  go_ret2
  exact ⟨n, s, rfl, hn1, hn2, hs, hb⟩
theorem drawWalkCounts_any (W : World) (B len cap : Nat) (A : Option Addr) (f : Nat → Nat) (hC : Code W B A len f) (hB : B ≤ W.heap.size) (hlc : len ≤ cap) (hcap : cap ≤ 9223372036854775807) :
    Calls Try.prog 20 #[.slice A len cap] W (CountPost 7 W) := by
  have HC := Lib.hid (drawCount_any 7 (by omega) (by omega) W B len cap A f hC hB hlc hcap)
  clear hC
  go_enter Try.func20, Try.ntmps20
  go_wp2_with fail
  refine HC.out.mono ?_
  rintro e w1 ⟨n, s, k, rfl, hn1, hn2, hs, hk1, hk2, hb⟩
  go_wp2
  go_ret3
  exact ⟨n, s, k, rfl, hn1, hn2, hs, hk1, hk2, hb⟩
theorem drawWalkClosed_any (W : World) (B len cap : Nat) (A : Option Addr) (f : Nat → Nat) (hC : Code W B A len f) (hB : B ≤ W.heap.size) (hlc : len ≤ cap) (hcap : cap ≤ 9223372036854775807) :
    Calls Try.prog 24 #[.slice A len cap] W (CountPost 7 W) := by
  have HC := Lib.hid (drawCount_any 7 (by omega) (by omega) W B len cap A f hC hB hlc hcap)
  clear hC
  go_enter Try.func24, Try.ntmps24
  go_wp2_with fail
  refine HC.out.mono ?_
  rintro e w1 ⟨n, s, k, rfl, hn1, hn2, hs, hk1, hk2, hb⟩
  go_wp2
  go_ret3
  exact ⟨n, s, k, rfl, hn1, hn2, hs, hk1, hk2, hb⟩
theorem drawWalkSet_any (W : World) (B len cap : Nat) (A : Option Addr) (f : Nat → Nat) (hC : Code W B A len f) (hB : B ≤ W.heap.size) (hlc : len ≤ cap) (hcap : cap ≤ 9223372036854775807) :
    Calls Try.prog 28 #[.slice A len cap] W (CountPost 60 W) := by
  have HC := Lib.hid (drawCount_any 60 (by omega) (by omega) W B len cap A f hC hB hlc hcap)
  clear hC
  go_enter Try.func28, Try.ntmps28
  go_wp2_with fail
  refine HC.out.mono ?_
  rintro e w1 ⟨n, s, k, rfl, hn1, hn2, hs, hk1, hk2, hb⟩
  go_wp2
  go_ret3
  exact ⟨n, s, k, rfl, hn1, hn2, hs, hk1, hk2, hb⟩
end Go.Proofs.Ytjgpdmjfpcdklaa
