/- Terms: the exact laws of TermIn and TermSet. -/
import Derived.Test.YtecjhkpldcmlaaaDoorTrmH
import Derived.Test.YtecjhkpldcmlaaaDoorTrmE
import Derived.Test.YtecjhkpldcmlaaaDoorTrpD
import Derived.Test.YtecjhkpldcmlaaaDoorTrpF
import Derived.Test.YtecjhkpldcmlaaaDoorErrL
namespace Go.Proofs.YtecjhkpldcmlaaaDoor
open Go.RowKit Go.Shelf
set_option linter.unusedVariables false
attribute [local go_sem] Oper.semAt_some
/-- The set of a text. -/
def setO (n : Int) (s : ByteArray) : Option Nat := (termO n s.toList).map fun t => setT n.toNat t
theorem specTermIn_any (n : Int) (s : ByteArray) (w : World) (hsz : s.size ≤ 1048576) : Calls Tryd.prog 14 #[.int .i64 n, .string s] w fun e w' => e = .returned (.bool (termO n s.toList).isSome) ∧ Below w.heap.size w w' := by
  have HO := Lib.hid (l11Of_any n s w hsz)
  go_enter Tryd.func14, Tryd.ntmps14
  go_wp2_with fail
  refine HO.out.mono ?_
  rintro e w1 ⟨hb, ⟨hno, z, A, l, c, rfl⟩ | ⟨t, v, hyes, rfl, hI⟩⟩
  · have HV := Lib.hid hno
    clear hno
    go_wp2
    go_ret
    exact ⟨by rw [HV.out]; rfl, hb.alloc hb.size _⟩
  · have HV := Lib.hid hyes
    obtain ⟨A, l, c, rfl⟩ := hI.agg
    clear hyes hI
    go_wp2
    go_ret
    exact ⟨by rw [HV.out]; rfl, hb.alloc hb.size _⟩
theorem implTermIn_any (n : Int) (s : ByteArray) (w : World) (hE : ErrVar w) (hsz : s.size ≤ 1048576) : Calls Tryd.prog 13 #[.int .i64 n, .string s] w fun e w' => e = .returned (.bool (termO n s.toList).isSome) ∧ Below w.heap.size w w' := by
  have HO := Lib.hid (termOf_any n s w hE hsz)
  clear hE
  go_enter Tryd.func13, Tryd.ntmps13
  go_wp2_with fail
  refine HO.out.mono ?_
  rintro e w1 ⟨hb, ⟨hno, r, rfl⟩ | ⟨t, hyes, rfl⟩⟩
  · have HV := Lib.hid hno
    clear hno
    go_wp2
    go_ret
    exact ⟨by rw [HV.out]; rfl, hb.alloc hb.size _⟩
  · have HV := Lib.hid hyes
    clear hyes
    generalize tyT t = T at *
    generalize payT t = p at *
    go_wp2
    go_ret
    exact ⟨by rw [HV.out]; rfl, hb.alloc hb.size _⟩
theorem size_facts (s : ByteArray) (N : Nat) (h : s.size = N) (hs : N ≤ 1048576) : decide ((1048576 : Int) < (N : Int)) = false ∧ ¬ ((1048576 : Int) < (N : Int)) ∧ ¬ (1048576 < N) := ⟨decide_eq_false (by omega), by omega, by omega⟩
theorem size_facts' (s : ByteArray) (N : Nat) (h : s.size = N) (hs : ¬ N ≤ 1048576) : decide ((1048576 : Int) < (N : Int)) = true ∧ ((1048576 : Int) < (N : Int)) ∧ (1048576 < N) := ⟨decide_eq_true (by omega), by omega, by omega⟩
end Go.Proofs.YtecjhkpldcmlaaaDoor
