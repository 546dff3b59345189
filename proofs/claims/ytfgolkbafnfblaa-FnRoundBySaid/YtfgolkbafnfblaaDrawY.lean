/- Drawing for chapter 5: lists alone. -/
import Derived.Test.YtfgolkbafnfblaaDrawX
namespace Go.Proofs.Ytfgolkbafnfblaa
open Go.RowKit Go.Shelf
set_option linter.unusedVariables false
def ListDrawn (W : World) (e : Ending) (w' : World) : Prop :=
  ∃ (n : Nat) (sv : Value) (xs : List Int), e = .returned (.tuple #[.int .i64 (n : Int), sv]) ∧ 1 ≤ n ∧ n ≤ 8 ∧ InRing n xs ∧ Below W.heap.size W w' ∧ IsInts w' W.heap.size sv xs
theorem drawRoundWord_any (W : World) (B len cap : Nat) (A : Option Addr) (f : Nat → Nat) (hC : Code W B A len f) (hB : B ≤ W.heap.size) (hlc : len ≤ cap) (hcap : cap ≤ 9223372036854775807) :
    Calls Try.prog 22 #[.slice A len cap] W (ListDrawn W) := by
  have HC := Lib.hid (drawRoundIs_any W B len cap A f hC hB hlc hcap)
  clear hC
  go_enter Try.func22, Try.ntmps22
  go_wp2_with fail
  refine HC.out.mono ?_
  rintro e w1 ⟨n, s, sv, xs, rfl, hn1, hn2, hs, hin, hb, hI⟩
  go_wp2
  go_ret2
  exact ⟨n, sv, xs, rfl, hn1, hn2, hin, hb, hI⟩
end Go.Proofs.Ytfgolkbafnfblaa
