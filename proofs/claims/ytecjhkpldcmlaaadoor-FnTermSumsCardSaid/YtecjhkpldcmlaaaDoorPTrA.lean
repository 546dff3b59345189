/- Promises of chapter 11: a sign in front, a sign behind. Written by gen145.py. -/
import Derived.Test.YtecjhkpldcmlaaaDoorDrwD
import Derived.Test.YtecjhkpldcmlaaaDoorTrpM
import Derived.Test.YtecjhkpldcmlaaaDoorTrmS
namespace Go.Proofs.YtecjhkpldcmlaaaDoor
open Go.RowKit Go.Shelf
set_option linter.unusedVariables false
attribute [local go_sem] Oper.semAt_some
theorem listD (s t : ByteArray) : (s ++ t).toList = s.toList ++ t.toList := by
  rw [ByteArray.toList_eq, ByteArray.toList_eq, ByteArray.toList_eq]
  cases s; cases t
  simp
theorem front_list (c : UInt8) (s : ByteArray) : ((⟨#[c]⟩ : ByteArray) ++ s).toList = c :: s.toList := by
  rw [listD]
  have h : (⟨#[c]⟩ : ByteArray).toList = [c] := by rw [ByteArray.toList_eq]
  rw [h]; rfl
theorem behind_list (c : UInt8) (s : ByteArray) : (s ++ (⟨#[c]⟩ : ByteArray)).toList = s.toList ++ [c] := by
  rw [listD]
  have h : (⟨#[c]⟩ : ByteArray).toList = [c] := by rw [ByteArray.toList_eq]
  rw [h]
theorem front_some (c : UInt8) (hc : isFront c = true) (n : Int) (s : ByteArray) (t : Tm) (h : termO n s.toList = some t) (hs : s.size ≤ 59) : termO n ((⟨#[c]⟩ : ByteArray) ++ s).toList = some (.one c t) := by
  rw [front_list]
  exact term_front n s.toList t c hc h (by rw [bytes_len]; exact hs)
theorem behind_none (c : UInt8) (n : Int) (s : ByteArray) (t : Tm) (h : termO n s.toList = some t) : termO n (s ++ (⟨#[c]⟩ : ByteArray)).toList = none := by
  rw [behind_list]
  exact term_behind n s.toList t c h
set_option maxHeartbeats 2000000 in
theorem law_PTerm (W : World) (B len cap : Nat) (A : Option Addr) (f : Nat → Nat) (hC : Code W B A len f) (hB : B ≤ W.heap.size) (hlc : len ≤ cap) (hcap : cap ≤ 9223372036854775807) (hE : ErrVar W) :
    Calls Tryd.prog 3 #[.slice A len cap] W fun e w' => e = .returned (.bool true) ∧ Below W.heap.size W w' := by
  have HC := Lib.hid (DrawTermIn_any W B len cap A f hC hB hlc hcap)
  have HE := Lib.hid hE
  clear hC hE hB hlc hcap
  by_cases hlen : (1048576 : Int) < (len : Int)
  · go_enter Tryd.func3, Tryd.ntmps3
    go_wp2
    go_ret
    exact ⟨rfl, Below.refl _ _⟩
  go_enter Tryd.func3, Tryd.ntmps3
  go_wp2_with fail
  refine HC.out.mono ?_
  rintro e w1 ⟨n, s, rfl, hn1, hn2, hs, hb1⟩
  have HB := Lib.hid hb1
  have HI := Lib.hid (fun W1 h => implTermIn_any (n : Int) s W1 h (by omega))
  have HS := Lib.hid (fun W1 => specTermIn_any (n : Int) s W1 (by omega))
  have HI1 := Lib.hid (fun W1 h => implTermIn_any (n : Int) ((⟨#[33]⟩ : ByteArray) ++ s) W1 h (by rw [sizeD]; show 1 + s.size ≤ _; omega))
  have HI2 := Lib.hid (fun W1 h => implTermIn_any (n : Int) ((⟨#[45]⟩ : ByteArray) ++ s) W1 h (by rw [sizeD]; show 1 + s.size ≤ _; omega))
  have HI3 := Lib.hid (fun W1 h => implTermIn_any (n : Int) (s ++ (⟨#[41]⟩ : ByteArray)) W1 h (by rw [sizeD]; show s.size + 1 ≤ _; omega))
  have e1 : ¬ 9223372036854775807 < 1 + s.size := by omega
  have e2 : ¬ 9223372036854775807 < s.size + 1 := by omega
  have e3 : ¬ (59 : Int) < (s.size : Int) := by omega
  clear hb1 HC hn1 hn2
  cases ht : termO (n : Int) s.toList with
  | none =>
    rw [ht] at HI HS
    clear HI1 HI2 HI3 ht
    simp only [Option.isSome_none] at HI HS
    go_wp2_with fail
    refine (HI.out _ (HE.out.below (Nat.le_refl _) HB.out)).mono ?_
    rintro e w9 ⟨rfl, hbw⟩
    have HB := Lib.hid (HB.out.trans (hbw.mono HB.out.size))
    clear hbw
    go_wp2_with fail
    refine (HS.out _).mono ?_
    rintro e w9 ⟨rfl, hbw⟩
    have HB := Lib.hid (HB.out.trans (hbw.mono HB.out.size))
    clear hbw
    go_wp2
    go_ret
    exact ⟨rfl, HB.out⟩
  | some t =>
    rw [front_some 33 rfl _ s t ht (by omega)] at HI1
    rw [front_some 45 rfl _ s t ht (by omega)] at HI2
    rw [behind_none 41 _ s t ht] at HI3
    rw [ht] at HI HS
    clear ht hs
    simp only [Option.isSome_some, Option.isSome_none] at HI HS HI1 HI2 HI3
    go_wp2_with fail
    refine (HI.out _ (HE.out.below (Nat.le_refl _) HB.out)).mono ?_
    rintro e w9 ⟨rfl, hbw⟩
    have HB := Lib.hid (HB.out.trans (hbw.mono HB.out.size))
    clear hbw
    go_wp2_with fail
    refine (HS.out _).mono ?_
    rintro e w9 ⟨rfl, hbw⟩
    have HB := Lib.hid (HB.out.trans (hbw.mono HB.out.size))
    clear hbw
    go_wp2_with fail
    refine (HI1.out _ (HE.out.below (Nat.le_refl _) HB.out)).mono ?_
    rintro e w9 ⟨rfl, hbw⟩
    have HB := Lib.hid (HB.out.trans (hbw.mono HB.out.size))
    clear hbw
    go_wp2_with fail
    refine (HI2.out _ (HE.out.below (Nat.le_refl _) HB.out)).mono ?_
    rintro e w9 ⟨rfl, hbw⟩
    have HB := Lib.hid (HB.out.trans (hbw.mono HB.out.size))
    clear hbw
    go_wp2_with fail
    refine (HI3.out _ (HE.out.below (Nat.le_refl _) HB.out)).mono ?_
    rintro e w9 ⟨rfl, hbw⟩
    have HB := Lib.hid (HB.out.trans (hbw.mono HB.out.size))
    clear hbw
    go_wp2
    go_ret
    exact ⟨rfl, HB.out⟩
end Go.Proofs.YtecjhkpldcmlaaaDoor
