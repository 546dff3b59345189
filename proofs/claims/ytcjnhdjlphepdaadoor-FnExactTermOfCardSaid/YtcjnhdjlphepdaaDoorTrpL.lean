/- Terms: the exact laws of TermIn and TermSet. -/
import Derived.Test.YtcjnhdjlphepdaaDoorTrmH
import Derived.Test.YtcjnhdjlphepdaaDoorTrmE
import Derived.Test.YtcjnhdjlphepdaaDoorTrpD
import Derived.Test.YtcjnhdjlphepdaaDoorTrpF
import Derived.Test.YtcjnhdjlphepdaaDoorErrL
namespace Go.Proofs.YtcjnhdjlphepdaaDoor
open Go.RowKit Go.Shelf
set_option linter.unusedVariables false
attribute [local go_sem] Oper.semAt_some
/-- The set of a text. -/
def setO (n : Int) (s : ByteArray) : Option Nat := (termO n s.toList).map fun t => setT n.toNat t
theorem specTermIn_any (n : Int) (s : ByteArray) (w : World) (hsz : s.size ≤ 1048576) : Calls Tryd.prog 10 #[.int .i64 n, .string s] w fun e w' => e = .returned (.bool (termO n s.toList).isSome) ∧ Below w.heap.size w w' := by
  have HO := Lib.hid (l11Of_any n s w hsz)
  go_enter Tryd.func10, Tryd.ntmps10
  go_wp2_with fail
  refine HO.out.mono ?_
  rintro e w1 ⟨hb, ⟨hno, z, A, l, c, rfl⟩ | ⟨t, v, hyes, rfl, hI⟩⟩
  · have HV := Lib.hid hno
    clear hno
    go_wp2
    go_ret
    exact ⟨by rw [HV.out]; rfl, hb.alloc hb.size _⟩
  · have HV := Lib.hid hyes
    obtain ⟨A, l, c, rfl⟩ := hI.agg
    clear hyes hI
    go_wp2
    go_ret
    exact ⟨by rw [HV.out]; rfl, hb.alloc hb.size _⟩
theorem implTermIn_any (n : Int) (s : ByteArray) (w : World) (hE : ErrVar w) (hsz : s.size ≤ 1048576) : Calls Tryd.prog 11 #[.int .i64 n, .string s] w fun e w' => e = .returned (.bool (termO n s.toList).isSome) ∧ Below w.heap.size w w' := by
  have HO := Lib.hid (termOf_any n s w hE hsz)
  clear hE
  go_enter Tryd.func11, Tryd.ntmps11
  go_wp2_with fail
  refine HO.out.mono ?_
  rintro e w1 ⟨hb, ⟨hno, r, rfl⟩ | ⟨t, hyes, rfl⟩⟩
  · have HV := Lib.hid hno
    clear hno
    go_wp2
    go_ret
    exact ⟨by rw [HV.out]; rfl, hb.alloc hb.size _⟩
  · have HV := Lib.hid hyes
    clear hyes
    generalize tyT t = T at *
    generalize payT t = p at *
    go_wp2
    go_ret
    exact ⟨by rw [HV.out]; rfl, hb.alloc hb.size _⟩
theorem size_facts (s : ByteArray) (N : Nat) (h : s.size = N) (hs : N ≤ 1048576) : decide ((1048576 : Int) < (N : Int)) = false ∧ ¬ ((1048576 : Int) < (N : Int)) ∧ ¬ (1048576 < N) := ⟨decide_eq_false (by omega), by omega, by omega⟩
theorem size_facts' (s : ByteArray) (N : Nat) (h : s.size = N) (hs : ¬ N ≤ 1048576) : decide ((1048576 : Int) < (N : Int)) = true ∧ ((1048576 : Int) < (N : Int)) ∧ (1048576 < N) := ⟨decide_eq_true (by omega), by omega, by omega⟩
theorem law_TermIn (n : Int) (s : ByteArray) (W : World) (hE : ErrVar W) : Calls Tryd.prog 3 #[.int .i64 n, .string s] W fun e w' => e = .returned (.bool true) ∧ Below W.heap.size W w' := by
  obtain ⟨N, hN⟩ : ∃ N, s.size = N := ⟨_, rfl⟩
  by_cases hs : N ≤ 1048576
  · obtain ⟨g1, g2, g3⟩ := size_facts s N hN hs
    have HA := Lib.hid (specTermIn_any n s W (by omega))
    have HB := Lib.hid (fun W (h : ErrVar W) => implTermIn_any n s W h (by omega))
    have HE := Lib.hid hE
    generalize (termO n s.toList).isSome = r at *
    clear hs hE
    go_enter Tryd.func3, Tryd.ntmps3
    go_wp2_with fail
    refine HA.out.mono ?_
    rintro e w1 ⟨rfl, hb1⟩
    go_wp2_with fail
    refine (HB.out _ (HE.out.below (Nat.le_refl _) hb1)).mono ?_
    rintro e w2 ⟨rfl, hb2⟩
    have hE2 := hb1.trans (hb2.mono hb1.size)
    cases r
    all_goals
      go_wp2
      go_ret
      exact ⟨rfl, hE2⟩
  · obtain ⟨g1, g2, g3⟩ := size_facts' s N hN hs
    clear hs hE
    go_enter Tryd.func3, Tryd.ntmps3
    go_wp2
    go_ret
    exact ⟨rfl, Below.refl _ _⟩
end Go.Proofs.YtcjnhdjlphepdaaDoor
