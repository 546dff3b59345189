/- Promises of chapter 11: turned terms. Written by gen145.py. -/
import Derived.Test.YtecjhkpldcmlaaaDoorDrwD
import Derived.Test.YtecjhkpldcmlaaaDoorTrpM
import Derived.Test.YtecjhkpldcmlaaaDoorTrmS
import Derived.Test.YtecjhkpldcmlaaaDoorPTrA
import Derived.Test.YtecjhkpldcmlaaaDoorTruC
import Derived.Test.YtecjhkpldcmlaaaDoorGB
namespace Go.Proofs.YtecjhkpldcmlaaaDoor
open Go.RowKit Go.Shelf
set_option linter.unusedVariables false
attribute [local go_sem] Oper.semAt_some
theorem turned_text (n : Int) (s : ByteArray) (t : Tm) (h : termO n s.toList = some t) :
    ∃ (m : Nat) (X : ByteArray), n = (m : Int) ∧ 1 ≤ m ∧ m ≤ 12 ∧ setT m t < 2 ^ m ∧ setO n s = some (setT m t) ∧ turnX n s = some X ∧ turnX n X = some s ∧ setO n X = some (turnN m (setT m t) (-1)) ∧ X.size = s.size := by
  obtain ⟨m, rfl, h1, h2, ho, hl, e⟩ := termO_ok h
  have hX : (toB (s.toList.map (turnB m))).toList = showT (turnT m t) := by rw [toB_list, e, show_turn m t ho]
  have ho2 := ok_turnT m t h1 h2 ho
  have hlen : (showT (turnT m t)).length = (showT t).length := by rw [show_turn m t ho, List.length_map]
  have hT : termO (m : Int) (toB (s.toList.map (turnB m))).toList = some (turnT m t) :=
    (term_iff _ _ _).2 ⟨⟨by omega, by omega⟩, by rw [hX]; omega, hX, by rw [Int.toNat_natCast]; exact ho2⟩
  refine ⟨m, toB (s.toList.map (turnB m)), rfl, h1, h2, set_lt m t h1 ho, ?_, ?_, ?_, ?_, ?_⟩
  · rw [setO_yes h, Int.toNat_natCast]
  · rw [turnX_yes h, Int.toNat_natCast]
  · rw [turnX_yes hT, Int.toNat_natCast, hX, ← show_turn m _ ho2, turn_turnT m t h1 h2 ho, ← e, toB_of]
  · rw [setO_yes hT, Int.toNat_natCast, set_turnT m t h1 h2 ho]
  · rw [toB_size, List.length_map, bytes_len]
set_option maxHeartbeats 2000000 in
theorem law_PTermTurned (W : World) (B len cap : Nat) (A : Option Addr) (f : Nat → Nat) (hC : Code W B A len f) (hB : B ≤ W.heap.size) (hlc : len ≤ cap) (hcap : cap ≤ 9223372036854775807) (hE : ErrVar W) :
    Calls Tryd.prog 11 #[.slice A len cap] W fun e w' => e = .returned (.bool true) ∧ Below W.heap.size W w' := by
  have HC := Lib.hid (DrawTermTurned_any W B len cap A f hC hB hlc hcap)
  have HE := Lib.hid hE
  clear hC hE hB hlc hcap
  by_cases hlen : (1048576 : Int) < (len : Int)
  · go_enter Tryd.func11, Tryd.ntmps11
    go_wp2
    go_ret
    exact ⟨rfl, Below.refl _ _⟩
  go_enter Tryd.func11, Tryd.ntmps11
  go_wp2_with fail
  refine HC.out.mono ?_
  rintro e w1 ⟨n, s, rfl, hn1, hn2, hs, hb1⟩
  have HB := Lib.hid hb1
  have HI := Lib.hid (fun W1 h => implTermTurned_any (n : Int) s W1 h (by omega))
  have HS := Lib.hid (fun W1 => specTermTurned_any (n : Int) s W1 (by omega))
  have HI2 := Lib.hid (fun W1 h => implTermSet_any (n : Int) s W1 h (by omega))
  clear hb1 HC hn1 hn2
  cases ht : termO (n : Int) s.toList with
  | none =>
    rw [turnX_no ht] at HI HS
    clear ht HI2
    simp only [Option.isSome_none, Option.getD_none] at HI HS
    go_wp2_with fail
    refine (HI.out _ (HE.out.below (Nat.le_refl _) HB.out)).mono ?_
    rintro e w9 ⟨rfl, hbw⟩
    have HB := Lib.hid (HB.out.trans (hbw.mono HB.out.size))
    clear hbw
    go_wp2_with fail
    refine (HS.out _).mono ?_
    rintro e w9 ⟨rfl, hbw⟩
    have HB := Lib.hid (HB.out.trans (hbw.mono HB.out.size))
    clear hbw
    go_wp2
    go_ret
    exact ⟨rfl, HB.out⟩
  | some t =>
    obtain ⟨m, X, e9, h1, h2, hlt, hx1, hx2, hx3, hx4, hx5⟩ := turned_text _ s t ht
    obtain rfl : n = m := by omega
    have HI1 := Lib.hid (fun W1 h => implTermTurned_any (n : Int) X W1 h (by omega))
    have HI3 := Lib.hid (fun W1 h => implTermSet_any (n : Int) X W1 h (by omega))
    have HT := Lib.hid (fun W1 => implTurn_yes n (setT n t) (-1) W1 h1 h2 hlt (by decide) (by decide))
    rw [hx2] at HI HS
    rw [hx3] at HI1
    rw [hx1] at HI2
    rw [hx4] at HI3
    clear ht hx1 hx2 hx3 hx4 hx5 e9 hlt hs
    generalize turnN n (setT n t) (-1) = T at *
    generalize setT n t = S at *
    have e5 : (X.toList == X.toList) = true := by simp
    have e6 : (s.toList == s.toList) = true := by simp
    simp only [Option.isSome_some, Option.getD_some] at HI HS HI1 HI2 HI3
    go_wp2_with fail
    refine (HI.out _ (HE.out.below (Nat.le_refl _) HB.out)).mono ?_
    rintro e w9 ⟨rfl, hbw⟩
    have HB := Lib.hid (HB.out.trans (hbw.mono HB.out.size))
    clear hbw
    go_wp2_with fail
    refine (HS.out _).mono ?_
    rintro e w9 ⟨rfl, hbw⟩
    have HB := Lib.hid (HB.out.trans (hbw.mono HB.out.size))
    clear hbw
    go_wp2_with fail
    refine (HI1.out _ (HE.out.below (Nat.le_refl _) HB.out)).mono ?_
    rintro e w9 ⟨rfl, hbw⟩
    have HB := Lib.hid (HB.out.trans (hbw.mono HB.out.size))
    clear hbw
    go_wp2_with fail
    refine (HI2.out _ (HE.out.below (Nat.le_refl _) HB.out)).mono ?_
    rintro e w9 ⟨rfl, hbw⟩
    have HB := Lib.hid (HB.out.trans (hbw.mono HB.out.size))
    clear hbw
    go_wp2_with fail
    refine (HI3.out _ (HE.out.below (Nat.le_refl _) HB.out)).mono ?_
    rintro e w9 ⟨rfl, hbw⟩
    have HB := Lib.hid (HB.out.trans (hbw.mono HB.out.size))
    clear hbw
    go_wp2_with fail
    refine (HT.out _).mono ?_
    rintro e w9 ⟨rfl, hbw⟩
    have HB := Lib.hid (HB.out.trans (hbw.mono HB.out.size))
    clear hbw
    go_wp2
    go_ret
    exact ⟨rfl, HB.out⟩
end Go.Proofs.YtecjhkpldcmlaaaDoor
