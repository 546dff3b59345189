/- Promises of chapter 11: places that are asked. Written by gen145.py. -/
import Derived.Test.YtecjhkpldcmlaaaDoorDrwE
import Derived.Test.YtecjhkpldcmlaaaDoorTrpM
import Derived.Test.YtecjhkpldcmlaaaDoorTrmS
import Derived.Test.YtecjhkpldcmlaaaDoorPTrA
import Derived.Test.YtecjhkpldcmlaaaDoorTrpN
namespace Go.Proofs.YtecjhkpldcmlaaaDoor
open Go.RowKit Go.Shelf
set_option linter.unusedVariables false
attribute [local go_sem] Oper.semAt_some
theorem has_facts (n v : Int) (s : ByteArray) (h : hasO n s v = true) (hs : s.size ≤ 59) :
    ∃ m k S : Nat, n = (m : Int) ∧ v = (k : Int) ∧ k < 12 ∧ setO n s = some S ∧ S < 4096 ∧ S.testBit k = true ∧ hasO n ((⟨#[33]⟩ : ByteArray) ++ s) v = false := by
  cases ht : termO n s.toList with
  | none => rw [hasO_no ht] at h; cases h
  | some t =>
    obtain ⟨m, rfl, h1, h2, ho, hl, e⟩ := termO_ok ht
    rw [hasO_yes ht, Bool.and_eq_true, Bool.and_eq_true, decide_eq_true_eq, decide_eq_true_eq, Int.toNat_natCast] at h
    obtain ⟨hv, hp, hh⟩ := h
    have hlt := set_lt m t h1 ho
    have hpw := pow_le m h2
    refine ⟨m, v.toNat, setT m t, rfl, by omega, by omega, by rw [setO_yes ht, Int.toNat_natCast], by omega, ?_, ?_⟩
    · rw [← has_set m t h1 ho v.toNat (by omega)]; exact hh
    · rw [hasO_yes (front_some 33 rfl _ s t ht hs), Int.toNat_natCast]
      have e2 : hasT m (.one 33 t) v.toNat = !hasT m t v.toNat := rfl
      rw [e2, hh]
      simp
set_option maxHeartbeats 2000000 in
theorem law_PHas (W : World) (B len cap : Nat) (A : Option Addr) (f : Nat → Nat) (hC : Code W B A len f) (hB : B ≤ W.heap.size) (hlc : len ≤ cap) (hcap : cap ≤ 9223372036854775807) (hE : ErrVar W) :
    Calls Tryd.prog 6 #[.slice A len cap] W fun e w' => e = .returned (.bool true) ∧ Below W.heap.size W w' := by
  have HC := Lib.hid (drawTermHas_any W B len cap A f hC hB hlc hcap)
  have HE := Lib.hid hE
  clear hC hE hB hlc hcap
  by_cases hlen : (1048576 : Int) < (len : Int)
  · go_enter Tryd.func6, Tryd.ntmps6
    go_wp2
    go_ret
    exact ⟨rfl, Below.refl _ _⟩
  go_enter Tryd.func6, Tryd.ntmps6
  go_wp2_with fail
  refine HC.out.mono ?_
  rintro e w1 ⟨n, s, v, rfl, hn1, hn2, hs, hb1⟩
  have HB := Lib.hid hb1
  have HI := Lib.hid (fun W1 h => implTermHas_any (n : Int) v s W1 h (by omega))
  have HS := Lib.hid (fun W1 => specTermHas_any (n : Int) v s W1 (by omega))
  have HI2 := Lib.hid (fun W1 h => implTermSet_any (n : Int) s W1 h (by omega))
  have HI3 := Lib.hid (fun W1 h => implTermHas_any (n : Int) v ((⟨#[33]⟩ : ByteArray) ++ s) W1 h (by rw [sizeD]; show 1 + s.size ≤ _; omega))
  have e1 : ¬ 9223372036854775807 < 1 + s.size := by omega
  have e3 : ¬ (59 : Int) < (s.size : Int) := by omega
  clear hb1 HC hn1 hn2
  cases hh : hasO (n : Int) s v with
  | false =>
    rw [hh] at HI HS
    clear hh HI2 HI3
    go_wp2_with fail
    refine (HI.out _ (HE.out.below (Nat.le_refl _) HB.out)).mono ?_
    rintro e w9 ⟨rfl, hbw⟩
    have HB := Lib.hid (HB.out.trans (hbw.mono HB.out.size))
    clear hbw
    go_wp2_with fail
    refine (HS.out _).mono ?_
    rintro e w9 ⟨rfl, hbw⟩
    have HB := Lib.hid (HB.out.trans (hbw.mono HB.out.size))
    clear hbw
    go_wp2
    go_ret
    exact ⟨rfl, HB.out⟩
  | true =>
    obtain ⟨m, k, S, e9, rfl, hk, hx1, hS, hbit, hx2⟩ := has_facts _ v s hh (by omega)
    rw [hh] at HI HS
    rw [hx1] at HI2
    rw [hx2] at HI3
    have hbt := has_nat S k (by omega)
    rw [hbit] at hbt
    have q0 : (0 : Int) ≤ (k : Int) := by omega
    clear hh hx1 hx2 hbit e9 hs
    simp only [Option.isSome_some, Option.getD_some] at HI2
    go_wp2_with fail
    refine (HI.out _ (HE.out.below (Nat.le_refl _) HB.out)).mono ?_
    rintro e w9 ⟨rfl, hbw⟩
    have HB := Lib.hid (HB.out.trans (hbw.mono HB.out.size))
    clear hbw
    go_wp2_with fail
    refine (HS.out _).mono ?_
    rintro e w9 ⟨rfl, hbw⟩
    have HB := Lib.hid (HB.out.trans (hbw.mono HB.out.size))
    clear hbw
    go_wp2_with fail
    refine (HI2.out _ (HE.out.below (Nat.le_refl _) HB.out)).mono ?_
    rintro e w9 ⟨rfl, hbw⟩
    have HB := Lib.hid (HB.out.trans (hbw.mono HB.out.size))
    clear hbw
    go_wp2_with fail
    refine (HI3.out _ (HE.out.below (Nat.le_refl _) HB.out)).mono ?_
    rintro e w9 ⟨rfl, hbw⟩
    have HB := Lib.hid (HB.out.trans (hbw.mono HB.out.size))
    clear hbw
    go_wp2
    go_ret
    exact ⟨rfl, HB.out⟩
end Go.Proofs.YtecjhkpldcmlaaaDoor
