/- Rounds: the model's test of a list. -/
import Derived.Test.YtcmobeeneleidaaRndB
import Derived.Test.YtcmobeeneleidaaGC
namespace Go.Proofs.Ytcmobeeneleidaa
open Go.RowKit
set_option linter.unusedVariables false
theorem l1Rest_all (n : Nat) (v : Int) (w : World) (h1 : 1 ≤ n) (h2 : n ≤ 12) (hv : -9223372036854775808 ≤ v ∧ v ≤ 9223372036854775807) :
    Calls Try.prog 65 #[.int .i64 v, .int .i64 (n:Int)] w fun e w' => e = .returned (.int .i64 ((rest n v : Nat) : Int)) ∧ w = w' := by
  have hr := rest_eq n v h1
  have hb := rest_in n v h1 h2
  have H := Lib.hid hr
  clear hr
  obtain ⟨hb1, hb2⟩ := hb
  obtain ⟨hv1, hv2⟩ := hv
  go_enter Try.func65, Try.ntmps65
  go_wp2
  go_ret
  exact ⟨ret_int H.out, rfl⟩
theorem wrap64_range (x : Int) : -9223372036854775808 ≤ wrap64 x ∧ wrap64 x ≤ 9223372036854775807 := by unfold wrap64; omega
end Go.Proofs.Ytcmobeeneleidaa
