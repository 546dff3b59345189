/- Promises of chapter 11: sets as terms. Written by gen146.py. -/
import Derived.Test.YtecjhkpldcmlaaaDoorTrwD
import Derived.Test.YtecjhkpldcmlaaaDoorTrpK
import Derived.Test.YtecjhkpldcmlaaaDoorPLeast
namespace Go.Proofs.YtecjhkpldcmlaaaDoor
open Go.RowKit Go.Shelf
set_option linter.unusedVariables false
attribute [local go_sem] Oper.semAt_some
theorem of_text (n s : Nat) (h1 : 1 ≤ n) (h2 : n ≤ 12) (hs : s < 2 ^ n) : setO (n : Int) (toB (showT (setS s))) = some s ∧ tidyX (n : Int) (toB (showT (setS s))) = some (toB (showT (setS s))) ∧ (toB (showT (setS s))).size ≤ 49 := by
  obtain ⟨a, b, c⟩ := p_termOf n s h1 h2 hs
  rw [writeT_is n s h2 hs] at a b c
  have hT : termO (n : Int) (toB (showT (setS s))).toList = some (setS s) := by rw [toB_list]; exact a
  exact ⟨by rw [setO_yes hT, Int.toNat_natCast, b], by rw [tidyX_yes hT, Int.toNat_natCast, c], by rw [toB_size]; exact setS_len s⟩
theorem drawTermOf_any (W : World) (B len cap : Nat) (A : Option Addr) (f : Nat → Nat) (hC : Code W B A len f) (hB : B ≤ W.heap.size) (hlc : len ≤ cap) (hcap : cap ≤ 9223372036854775807) :
    Calls Tryd.prog 30 #[.slice A len cap] W (OnePost W) := by
  have HO := Lib.hid (one_any W B len cap A f hC hB hlc hcap)
  clear hC
  go_enter Tryd.func30, Tryd.ntmps30
  go_wp2_with fail
  refine HO.out.mono ?_
  rintro e w1 ⟨n, s, rfl, hn1, hn2, hs, hb⟩
  go_wp2
  go_ret2
  exact ⟨n, s, rfl, hn1, hn2, hs, hb⟩
set_option maxHeartbeats 2000000 in
theorem law_PTermOf (W : World) (B len cap : Nat) (A : Option Addr) (f : Nat → Nat) (hC : Code W B A len f) (hB : B ≤ W.heap.size) (hlc : len ≤ cap) (hcap : cap ≤ 9223372036854775807) (hT : TabVar W) (hE : ErrVar W) :
    Calls Tryd.prog 9 #[.slice A len cap] W fun e w' => e = .returned (.bool true) ∧ Below W.heap.size W w' := by
  have HC := Lib.hid (drawTermOf_any W B len cap A f hC hB hlc hcap)
  have HE := Lib.hid hE
  have HT0 := Lib.hid hT
  clear hC hE hT hB hlc hcap
  by_cases hlen : (1048576 : Int) < (len : Int)
  · go_enter Tryd.func9, Tryd.ntmps9
    go_wp2
    go_ret
    exact ⟨rfl, Below.refl _ _⟩
  go_enter Tryd.func9, Tryd.ntmps9
  go_wp2_with fail
  refine HC.out.mono ?_
  rintro e w1 ⟨n, s, rfl, hn1, hn2, hs, hb1⟩
  have HB := Lib.hid hb1
  clear hb1 HC
  by_cases h : NotIn (n : Int) (s : Int)
  · have HI := Lib.hid (fun W1 (_ : ErrVar W1) => implTermOf_no (n : Int) (s : Int) W1 h)
    have HS := Lib.hid (fun W1 => specTermOf_no (n : Int) (s : Int) W1 h)
    clear h
    go_wp2_with fail
    refine (HI.out _ (HE.out.below (Nat.le_refl _) HB.out)).mono ?_
    rintro e w9 ⟨rfl, hbw⟩
    have HB := Lib.hid (HB.out.trans (hbw.mono HB.out.size))
    clear hbw
    go_wp2_with fail
    refine (HS.out _).mono ?_
    rintro e w9 ⟨rfl, hbw⟩
    have HB := Lib.hid (HB.out.trans (hbw.mono HB.out.size))
    clear hbw
    go_wp2
    go_ret
    exact ⟨rfl, HB.out⟩
  · obtain ⟨m, t, e1, e2, h1, h2, h3⟩ := not_notIn h
    obtain rfl : n = m := by omega
    obtain rfl : s = t := by omega
    obtain ⟨x1, x2, x3⟩ := of_text n s h1 h2 h3
    have HI := Lib.hid (fun W1 (hT : TabVar W1) => implTermOf_yes n s W1 hT h1 h2 h3)
    have HS := Lib.hid (fun W1 => specTermOf_yes n s W1 h1 h2 h3)
    have HI1 := Lib.hid (fun W1 h => implTermSet_any (n : Int) (toB (showT (setS s))) W1 h (by omega))
    have HI2 := Lib.hid (fun W1 h => implTermTidy_any (n : Int) (toB (showT (setS s))) W1 h (by omega))
    rw [x1] at HI1
    rw [x2] at HI2
    clear h e1 e2 h3 x1 x2 x3 hs
    generalize toB (showT (setS s)) = X at *
    have e5 : (X.toList == X.toList) = true := by simp
    simp only [Option.isSome_some, Option.getD_some] at HI1 HI2
    go_wp2_with fail
    refine (HI.out _ (HT0.out.below HB.out (Nat.le_refl _))).mono ?_
    rintro e w9 ⟨rfl, hbw⟩
    have HB := Lib.hid (HB.out.trans (hbw.mono HB.out.size))
    clear hbw
    go_wp2_with fail
    refine (HS.out _).mono ?_
    rintro e w9 ⟨rfl, hbw⟩
    have HB := Lib.hid (HB.out.trans (hbw.mono HB.out.size))
    clear hbw
    go_wp2_with fail
    refine (HI1.out _ (HE.out.below (Nat.le_refl _) HB.out)).mono ?_
    rintro e w9 ⟨rfl, hbw⟩
    have HB := Lib.hid (HB.out.trans (hbw.mono HB.out.size))
    clear hbw
    go_wp2_with fail
    refine (HI2.out _ (HE.out.below (Nat.le_refl _) HB.out)).mono ?_
    rintro e w9 ⟨rfl, hbw⟩
    have HB := Lib.hid (HB.out.trans (hbw.mono HB.out.size))
    clear hbw
    go_wp2
    go_ret
    exact ⟨rfl, HB.out⟩
end Go.Proofs.YtecjhkpldcmlaaaDoor
