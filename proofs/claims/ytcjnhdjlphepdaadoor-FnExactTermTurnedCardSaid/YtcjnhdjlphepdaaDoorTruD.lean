/- Terms: the exact law of TermTurned. -/
import Derived.Test.YtcjnhdjlphepdaaDoorTruC
namespace Go.Proofs.YtcjnhdjlphepdaaDoor
open Go.RowKit Go.Shelf
set_option linter.unusedVariables false
attribute [local go_sem] Oper.semAt_some
theorem law_TermTurned (n : Int) (s : ByteArray) (W : World) (hE : ErrVar W) : Calls Tryd.prog 9 #[.int .i64 n, .string s] W fun e w' => e = .returned (.bool true) ∧ Below W.heap.size W w' := by
  obtain ⟨N, hN⟩ : ∃ N, s.size = N := ⟨_, rfl⟩
  by_cases hs : N ≤ 1048576
  · obtain ⟨g1, g2, g3⟩ := size_facts s N hN hs
    have HA := Lib.hid (specTermTurned_any n s W (by omega))
    have HB := Lib.hid (fun W (h : ErrVar W) => implTermTurned_any n s W h (by omega))
    have HE := Lib.hid hE
    generalize (turnX n s).isSome = r at *
    generalize (turnX n s).getD ⟨#[]⟩ = S at *
    clear hs hE
    go_enter Tryd.func9, Tryd.ntmps9
    go_wp2_with fail
    refine HA.out.mono ?_
    rintro e w1 ⟨rfl, hb1⟩
    go_wp2_with fail
    refine (HB.out _ (HE.out.below (Nat.le_refl _) hb1)).mono ?_
    rintro e w2 ⟨rfl, hb2⟩
    have hE2 := hb1.trans (hb2.mono hb1.size)
    cases r
    all_goals
      go_wp2
      go_ret
      exact ⟨rfl, hE2⟩
  · obtain ⟨g1, g2, g3⟩ := size_facts' s N hN hs
    clear hs hE
    go_enter Tryd.func9, Tryd.ntmps9
    go_wp2
    go_ret
    exact ⟨rfl, Below.refl _ _⟩
end Go.Proofs.YtcjnhdjlphepdaaDoor
