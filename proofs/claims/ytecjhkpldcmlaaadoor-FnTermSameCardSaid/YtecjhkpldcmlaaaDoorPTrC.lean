/- Promises of chapter 11: sets of terms with signs in front. Written by gen145.py. -/
import Derived.Test.YtecjhkpldcmlaaaDoorDrwD
import Derived.Test.YtecjhkpldcmlaaaDoorTrpM
import Derived.Test.YtecjhkpldcmlaaaDoorTrmS
import Derived.Test.YtecjhkpldcmlaaaDoorPTrA
import Derived.Test.YtecjhkpldcmlaaaDoorTrmE
import Derived.Test.YtecjhkpldcmlaaaDoorGB
namespace Go.Proofs.YtecjhkpldcmlaaaDoor
open Go.RowKit Go.Shelf
set_option linter.unusedVariables false
attribute [local go_sem] Oper.semAt_some
theorem full_lessF (n S : Nat) (hn : n ≤ 12) (h : S < 2 ^ n) : IntKind.i64.wrap (((2 ^ n - 1 : Nat) : Int) - (S : Int)) = ((2 ^ n - 1 - S : Nat) : Int) ∧ wrap64 (wrap64 (2 ^ n - 1) - (S : Int)) = ((2 ^ n - 1 - S : Nat) : Int) := by
  have h1 := pow_le n hn
  rw [← cast_pow]
  generalize 2 ^ n = m at *
  refine ⟨?_, ?_⟩
  · rw [IntWalk.i64_in _ ⟨by omega, by omega⟩]; omega
  · rw [IntWalk.wrap64_in ((m : Int) - 1) ⟨by omega, by omega⟩, IntWalk.wrap64_in _ ⟨by omega, by omega⟩]; omega
theorem set_front (n : Int) (s : ByteArray) (t : Tm) (h : termO n s.toList = some t) (hs : s.size ≤ 59) :
    ∃ m : Nat, n = (m : Int) ∧ 1 ≤ m ∧ m ≤ 12 ∧ setT m t < 2 ^ m ∧ setO n s = some (setT m t) ∧ setO n ((⟨#[33]⟩ : ByteArray) ++ s) = some (2 ^ m - 1 - setT m t) ∧ setO n ((⟨#[45]⟩ : ByteArray) ++ s) = some (turnN m (setT m t) (-1)) := by
  obtain ⟨m, rfl, h1, h2, ho, hl, e⟩ := termO_ok h
  have hlt := set_lt m t h1 ho
  refine ⟨m, rfl, h1, h2, hlt, ?_, ?_, ?_⟩
  · rw [setO_yes h, Int.toNat_natCast]
  · rw [setO_yes (front_some 33 rfl _ s t h hs), Int.toNat_natCast, ← less_is m _ hlt]; rfl
  · rw [setO_yes (front_some 45 rfl _ s t h hs), Int.toNat_natCast]; rfl
set_option maxHeartbeats 2000000 in
theorem law_PTermSet (W : World) (B len cap : Nat) (A : Option Addr) (f : Nat → Nat) (hC : Code W B A len f) (hB : B ≤ W.heap.size) (hlc : len ≤ cap) (hcap : cap ≤ 9223372036854775807) (hE : ErrVar W) :
    Calls Tryd.prog 4 #[.slice A len cap] W fun e w' => e = .returned (.bool true) ∧ Below W.heap.size W w' := by
  have HC := Lib.hid (DrawTermSet_any W B len cap A f hC hB hlc hcap)
  have HE := Lib.hid hE
  clear hC hE hB hlc hcap
  by_cases hlen : (1048576 : Int) < (len : Int)
  · go_enter Tryd.func4, Tryd.ntmps4
    go_wp2
    go_ret
    exact ⟨rfl, Below.refl _ _⟩
  go_enter Tryd.func4, Tryd.ntmps4
  go_wp2_with fail
  refine HC.out.mono ?_
  rintro e w1 ⟨n, s, rfl, hn1, hn2, hs, hb1⟩
  have HB := Lib.hid hb1
  have HI := Lib.hid (fun W1 h => implTermSet_any (n : Int) s W1 h (by omega))
  have HS := Lib.hid (fun W1 => specTermSet_any (n : Int) s W1 (by omega))
  have HI1 := Lib.hid (fun W1 h => implTermSet_any (n : Int) ((⟨#[33]⟩ : ByteArray) ++ s) W1 h (by rw [sizeD]; show 1 + s.size ≤ _; omega))
  have HI2 := Lib.hid (fun W1 h => implTermSet_any (n : Int) ((⟨#[45]⟩ : ByteArray) ++ s) W1 h (by rw [sizeD]; show 1 + s.size ≤ _; omega))
  have e1 : ¬ 9223372036854775807 < 1 + s.size := by omega
  have e3 : ¬ (59 : Int) < (s.size : Int) := by omega
  clear hb1 HC hn1
  cases ht : termO (n : Int) s.toList with
  | none =>
    rw [setO_no ht] at HI HS
    clear HI1 HI2 ht
    simp only [Option.isSome_none, Option.getD_none] at HI HS
    go_wp2_with fail
    refine (HI.out _ (HE.out.below (Nat.le_refl _) HB.out)).mono ?_
    rintro e w9 ⟨rfl, hbw⟩
    have HB := Lib.hid (HB.out.trans (hbw.mono HB.out.size))
    clear hbw
    go_wp2_with fail
    refine (HS.out _).mono ?_
    rintro e w9 ⟨rfl, hbw⟩
    have HB := Lib.hid (HB.out.trans (hbw.mono HB.out.size))
    clear hbw
    go_wp2
    go_ret
    exact ⟨rfl, HB.out⟩
  | some t =>
    obtain ⟨m, e9, h1, h2, hlt, hx1, hx2, hx3⟩ := set_front _ s t ht (by omega)
    obtain rfl : n = m := by omega
    have HT := Lib.hid (fun W1 => implTurn_yes n (setT n t) (-1) W1 h1 h2 hlt (by decide) (by decide))
    have hp := pow_le n h2
    have hp1 := Nat.two_pow_pos n
    obtain ⟨u1, u2⟩ := pow_wraps n (by omega)
    obtain ⟨u3, u4⟩ := full_wraps n h2
    have hall := all_nat n h2
    obtain ⟨u5, u6⟩ := full_lessF n (setT n t) h2 hlt
    have q0 : (0 : Int) ≤ (n : Int) := by omega
    have q1 : ¬ ((n : Int) < 0) := by omega
    have q2 : n < 64 := by omega
    rw [hx1] at HI HS
    rw [hx2] at HI1
    rw [hx3] at HI2
    clear ht hx1 hx2 hx3 e9 hs
    generalize turnN n (setT n t) (-1) = T at *
    generalize setT n t = S at *
    generalize 2 ^ n - 1 - S = C at *
    simp only [Option.isSome_some, Option.getD_some] at HI HS HI1 HI2
    clear hp hp1 hlt
    go_wp2_with fail
    refine (HI.out _ (HE.out.below (Nat.le_refl _) HB.out)).mono ?_
    rintro e w9 ⟨rfl, hbw⟩
    have HB := Lib.hid (HB.out.trans (hbw.mono HB.out.size))
    clear hbw
    go_wp2_with fail
    refine (HS.out _).mono ?_
    rintro e w9 ⟨rfl, hbw⟩
    have HB := Lib.hid (HB.out.trans (hbw.mono HB.out.size))
    clear hbw
    go_wp2_with fail
    refine (HI1.out _ (HE.out.below (Nat.le_refl _) HB.out)).mono ?_
    rintro e w9 ⟨rfl, hbw⟩
    have HB := Lib.hid (HB.out.trans (hbw.mono HB.out.size))
    clear hbw
    go_wp2_with fail
    refine (HI2.out _ (HE.out.below (Nat.le_refl _) HB.out)).mono ?_
    rintro e w9 ⟨rfl, hbw⟩
    have HB := Lib.hid (HB.out.trans (hbw.mono HB.out.size))
    clear hbw
    go_wp2_with fail
    refine (HT.out _).mono ?_
    rintro e w9 ⟨rfl, hbw⟩
    have HB := Lib.hid (HB.out.trans (hbw.mono HB.out.size))
    clear hbw
    go_wp2
    go_ret
    exact ⟨rfl, HB.out⟩
end Go.Proofs.YtecjhkpldcmlaaaDoor
