/- Promises of chapter 11: tidy terms. Written by gen145.py. -/
import Derived.Test.YtecjhkpldcmlaaaDoorDrwD
import Derived.Test.YtecjhkpldcmlaaaDoorTrpM
import Derived.Test.YtecjhkpldcmlaaaDoorTrpK
import Derived.Test.YtecjhkpldcmlaaaDoorPTrA
namespace Go.Proofs.YtecjhkpldcmlaaaDoor
open Go.RowKit Go.Shelf
set_option linter.unusedVariables false
attribute [local go_sem] Oper.semAt_some
/-- What a tidy text is a text of. -/
theorem tidy_text (n : Int) (s : ByteArray) (t : Tm) (h : termO n s.toList = some t) :
    ∃ m : Nat, n = (m : Int) ∧ tidyX n s = some (toB (showT (tidyT m t))) ∧ tidyX n (toB (showT (tidyT m t))) = some (toB (showT (tidyT m t))) ∧ (toB (showT (tidyT m t))).size ≤ s.size ∧ sameT n s (toB (showT (tidyT m t))) = true := by
  obtain ⟨m, rfl, h1, h2, ho, hl, e⟩ := termO_ok h
  have ho2 := ok_tidy m t h1 h2 ho
  have hle := len_tidy m t
  have hsz : s.size = (showT t).length := by rw [← e, bytes_len]
  have hT : termO (m : Int) (toB (showT (tidyT m t))).toList = some (tidyT m t) := by
    rw [toB_list]
    exact (term_iff _ _ _).2 ⟨⟨by omega, by omega⟩, by omega, rfl, by rw [Int.toNat_natCast]; exact ho2⟩
  refine ⟨m, rfl, ?_, ?_, ?_, ?_⟩
  · rw [tidyX_yes h, Int.toNat_natCast]
  · rw [tidyX_yes hT, Int.toNat_natCast, tidy_tidy]
  · rw [toB_size]; omega
  · unfold sameT
    rw [setO_yes h, setO_yes hT, Int.toNat_natCast, set_tidy m t h1 h2 ho]
    simp
set_option maxHeartbeats 2000000 in
theorem law_PTidy (W : World) (B len cap : Nat) (A : Option Addr) (f : Nat → Nat) (hC : Code W B A len f) (hB : B ≤ W.heap.size) (hlc : len ≤ cap) (hcap : cap ≤ 9223372036854775807) (hE : ErrVar W) :
    Calls Tryd.prog 8 #[.slice A len cap] W fun e w' => e = .returned (.bool true) ∧ Below W.heap.size W w' := by
  have HC := Lib.hid (DrawTermTidy_any W B len cap A f hC hB hlc hcap)
  have HE := Lib.hid hE
  clear hC hE hB hlc hcap
  by_cases hlen : (1048576 : Int) < (len : Int)
  · go_enter Tryd.func8, Tryd.ntmps8
    go_wp2
    go_ret
    exact ⟨rfl, Below.refl _ _⟩
  go_enter Tryd.func8, Tryd.ntmps8
  go_wp2_with fail
  refine HC.out.mono ?_
  rintro e w1 ⟨n, s, rfl, hn1, hn2, hs, hb1⟩
  have HB := Lib.hid hb1
  have HI := Lib.hid (fun W1 h => implTermTidy_any (n : Int) s W1 h (by omega))
  have HS := Lib.hid (fun W1 => specTermTidy_any (n : Int) s W1 (by omega))
  clear hb1 HC hn1 hn2
  cases ht : termO (n : Int) s.toList with
  | none =>
    rw [tidyX_no ht] at HI HS
    clear ht
    simp only [Option.isSome_none, Option.getD_none] at HI HS
    go_wp2_with fail
    refine (HI.out _ (HE.out.below (Nat.le_refl _) HB.out)).mono ?_
    rintro e w9 ⟨rfl, hbw⟩
    have HB := Lib.hid (HB.out.trans (hbw.mono HB.out.size))
    clear hbw
    go_wp2_with fail
    refine (HS.out _).mono ?_
    rintro e w9 ⟨rfl, hbw⟩
    have HB := Lib.hid (HB.out.trans (hbw.mono HB.out.size))
    clear hbw
    go_wp2
    go_ret
    exact ⟨rfl, HB.out⟩
  | some t =>
    obtain ⟨m, e9, hx1, hx2, hx3, hx4⟩ := tidy_text _ s t ht
    obtain rfl : n = m := by omega
    have HI1 := Lib.hid (fun W1 h => implTermTidy_any (n : Int) (toB (showT (tidyT n t))) W1 h (by omega))
    have HI2 := Lib.hid (fun W1 h => implTermSame_any (n : Int) s (toB (showT (tidyT n t))) W1 h (by omega) (by omega))
    rw [hx1] at HI HS
    rw [hx2] at HI1
    rw [hx4] at HI2
    clear ht hx1 hx2 hx4 e9
    generalize toB (showT (tidyT n t)) = X at *
    have e3 : ((X.size : Int) ≤ (s.size : Int)) := by omega
    have e4 : ¬ ((s.size : Int) < (X.size : Int)) := by omega
    have e5 : (X.toList == X.toList) = true := by simp
    clear hx3 hs
    simp only [Option.isSome_some, Option.getD_some] at HI HS HI1
    go_wp2_with fail
    refine (HI.out _ (HE.out.below (Nat.le_refl _) HB.out)).mono ?_
    rintro e w9 ⟨rfl, hbw⟩
    have HB := Lib.hid (HB.out.trans (hbw.mono HB.out.size))
    clear hbw
    go_wp2_with fail
    refine (HS.out _).mono ?_
    rintro e w9 ⟨rfl, hbw⟩
    have HB := Lib.hid (HB.out.trans (hbw.mono HB.out.size))
    clear hbw
    go_wp2_with fail
    refine (HI1.out _ (HE.out.below (Nat.le_refl _) HB.out)).mono ?_
    rintro e w9 ⟨rfl, hbw⟩
    have HB := Lib.hid (HB.out.trans (hbw.mono HB.out.size))
    clear hbw
    go_wp2_with fail
    refine (HI2.out _ (HE.out.below (Nat.le_refl _) HB.out)).mono ?_
    rintro e w9 ⟨rfl, hbw⟩
    have HB := Lib.hid (HB.out.trans (hbw.mono HB.out.size))
    clear hbw
    go_wp2
    go_ret
    exact ⟨rfl, HB.out⟩
end Go.Proofs.YtecjhkpldcmlaaaDoor
