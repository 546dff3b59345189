/- Promises of chapter 11: two terms. Written by gen146.py. -/
import Derived.Test.YtecjhkpldcmlaaaDoorDrwF
import Derived.Test.YtecjhkpldcmlaaaDoorDrwE
import Derived.Test.YtecjhkpldcmlaaaDoorPTrC
namespace Go.Proofs.YtecjhkpldcmlaaaDoor
open Go.RowKit Go.Shelf
set_option linter.unusedVariables false
attribute [local go_sem] Oper.semAt_some
theorem same_facts (n : Int) (s t : ByteArray) (h : sameT n s t = true) (hs : s.size ≤ 59) (ht : t.size ≤ 59) : sameT n t s = true ∧ sameT n ((⟨#[33]⟩ : ByteArray) ++ s) ((⟨#[33]⟩ : ByteArray) ++ t) = true := by
  unfold sameT at h
  rw [Bool.and_eq_true, Bool.and_eq_true, decide_eq_true_eq] at h
  obtain ⟨h1, h2, h3⟩ := h
  obtain ⟨S, hS⟩ := Option.isSome_iff_exists.1 h1
  obtain ⟨T, hT⟩ := Option.isSome_iff_exists.1 h2
  obtain ⟨m, t1, e1, _, _, _, _, k1, _⟩ := setO_some hS
  obtain ⟨m', t2, e2, _, _, _, _, k2, _⟩ := setO_some hT
  obtain ⟨a, ea, _, _, _, a1, a2, _⟩ := set_front n s t1 k1 hs
  obtain ⟨b, eb, _, _, _, b1, b2, _⟩ := set_front n t t2 k2 ht
  obtain rfl : a = b := by omega
  rw [a1, b1] at h3
  simp only [Option.getD_some] at h3
  unfold sameT
  rw [a1, b1, a2, b2, h3]
  simp
theorem sum_text (n : Int) (s t : ByteArray) (a b : Tm) (hs : termO n s.toList = some a) (ht : termO n t.toList = some b) (h57 : s.size + t.size ≤ 57) :
    ∃ m : Nat, n = (m : Int) ∧ 1 ≤ m ∧ m ≤ 12 ∧ setT m a < 2 ^ m ∧ setT m b < 2 ^ m ∧ setO n s = some (setT m a) ∧ setO n t = some (setT m b) ∧ setO n ((((⟨#[40]⟩ : ByteArray) ++ s ++ ⟨#[46]⟩) ++ t) ++ ⟨#[41]⟩) = some (sumN m (setT m a) (setT m b)) := by
  obtain ⟨m, rfl, h1, h2, ho, hl, e⟩ := termO_ok hs
  obtain ⟨m', e', _, _, ho', hl', e2⟩ := termO_ok ht
  obtain rfl : m = m' := by omega
  have hx : ((((⟨#[40]⟩ : ByteArray) ++ s ++ ⟨#[46]⟩) ++ t) ++ ⟨#[41]⟩).toList = 40 :: (s.toList ++ 46 :: (t.toList ++ [41])) := by
    rw [behind_list, listD, behind_list, front_list]
    simp
  have hm := term_mid (m : Int) s.toList t.toList a b 46 rfl hs ht (by rw [bytes_len, bytes_len]; exact h57)
  rw [← hx] at hm
  refine ⟨m, rfl, h1, h2, set_lt m a h1 ho, set_lt m b h1 ho', by rw [setO_yes hs, Int.toNat_natCast], by rw [setO_yes ht, Int.toNat_natCast], ?_⟩
  rw [setO_yes hm, Int.toNat_natCast]
  rfl
set_option maxHeartbeats 2000000 in
theorem law_PTermSame (W : World) (B len cap : Nat) (A : Option Addr) (f : Nat → Nat) (hC : Code W B A len f) (hB : B ≤ W.heap.size) (hlc : len ≤ cap) (hcap : cap ≤ 9223372036854775807) (hE : ErrVar W) :
    Calls Tryd.prog 10 #[.slice A len cap] W fun e w' => e = .returned (.bool true) ∧ Below W.heap.size W w' := by
  have HC := Lib.hid (drawTermSame_any W B len cap A f hC hB hlc hcap)
  have HE := Lib.hid hE
  clear hC hE hB hlc hcap
  by_cases hlen : (1048576 : Int) < (len : Int)
  · go_enter Tryd.func10, Tryd.ntmps10
    go_wp2
    go_ret
    exact ⟨rfl, Below.refl _ _⟩
  go_enter Tryd.func10, Tryd.ntmps10
  go_wp2_with fail
  refine HC.out.mono ?_
  rintro e w1 ⟨n, s, t, rfl, hn1, hn2, hs, ht, hb1⟩
  have HB := Lib.hid hb1
  have HI := Lib.hid (fun W1 h => implTermSame_any (n : Int) s t W1 h (by omega) (by omega))
  have HS := Lib.hid (fun W1 => specTermSame_any (n : Int) s t W1 (by omega) (by omega))
  have HI1 := Lib.hid (fun W1 h => implTermSame_any (n : Int) t s W1 h (by omega) (by omega))
  have HI2 := Lib.hid (fun W1 h => implTermSame_any (n : Int) ((⟨#[33]⟩ : ByteArray) ++ s) ((⟨#[33]⟩ : ByteArray) ++ t) W1 h (by rw [sizeD]; show 1 + s.size ≤ _; omega) (by rw [sizeD]; show 1 + t.size ≤ _; omega))
  have e1 : ¬ 9223372036854775807 < 1 + s.size := by omega
  have e2 : ¬ 9223372036854775807 < 1 + t.size := by omega
  have e3 : ¬ (59 : Int) < (s.size : Int) := by omega
  have e4 : ¬ (59 : Int) < (t.size : Int) := by omega
  clear hb1 HC hn1 hn2
  cases hh : sameT (n : Int) s t with
  | false =>
    rw [hh] at HI HS
    clear hh HI1 HI2
    go_wp2_with fail
    refine (HI.out _ (HE.out.below (Nat.le_refl _) HB.out)).mono ?_
    rintro e w9 ⟨rfl, hbw⟩
    have HB := Lib.hid (HB.out.trans (hbw.mono HB.out.size))
    clear hbw
    go_wp2_with fail
    refine (HS.out _).mono ?_
    rintro e w9 ⟨rfl, hbw⟩
    have HB := Lib.hid (HB.out.trans (hbw.mono HB.out.size))
    clear hbw
    go_wp2
    go_ret
    exact ⟨rfl, HB.out⟩
  | true =>
    obtain ⟨f1, f2⟩ := same_facts _ s t hh (by omega) (by omega)
    rw [hh] at HI HS
    rw [f1] at HI1
    rw [f2] at HI2
    clear hh f1 f2 hs ht
    go_wp2_with fail
    refine (HI.out _ (HE.out.below (Nat.le_refl _) HB.out)).mono ?_
    rintro e w9 ⟨rfl, hbw⟩
    have HB := Lib.hid (HB.out.trans (hbw.mono HB.out.size))
    clear hbw
    go_wp2_with fail
    refine (HS.out _).mono ?_
    rintro e w9 ⟨rfl, hbw⟩
    have HB := Lib.hid (HB.out.trans (hbw.mono HB.out.size))
    clear hbw
    go_wp2_with fail
    refine (HI1.out _ (HE.out.below (Nat.le_refl _) HB.out)).mono ?_
    rintro e w9 ⟨rfl, hbw⟩
    have HB := Lib.hid (HB.out.trans (hbw.mono HB.out.size))
    clear hbw
    go_wp2_with fail
    refine (HI2.out _ (HE.out.below (Nat.le_refl _) HB.out)).mono ?_
    rintro e w9 ⟨rfl, hbw⟩
    have HB := Lib.hid (HB.out.trans (hbw.mono HB.out.size))
    clear hbw
    go_wp2
    go_ret
    exact ⟨rfl, HB.out⟩
set_option maxHeartbeats 2000000 in
theorem law_PTermSums (W : World) (B len cap : Nat) (A : Option Addr) (f : Nat → Nat) (hC : Code W B A len f) (hB : B ≤ W.heap.size) (hlc : len ≤ cap) (hcap : cap ≤ 9223372036854775807) (hE : ErrVar W) :
    Calls Tryd.prog 5 #[.slice A len cap] W fun e w' => e = .returned (.bool true) ∧ Below W.heap.size W w' := by
  have HC := Lib.hid (drawTermSame_any W B len cap A f hC hB hlc hcap)
  have HE := Lib.hid hE
  clear hC hE hB hlc hcap
  by_cases hlen : (1048576 : Int) < (len : Int)
  · go_enter Tryd.func5, Tryd.ntmps5
    go_wp2
    go_ret
    exact ⟨rfl, Below.refl _ _⟩
  go_enter Tryd.func5, Tryd.ntmps5
  go_wp2_with fail
  refine HC.out.mono ?_
  rintro e w1 ⟨n, s, t, rfl, hn1, hn2, hs, ht, hb1⟩
  have HB := Lib.hid hb1
  have HI := Lib.hid (fun W1 h => implTermSame_any (n : Int) s t W1 h (by omega) (by omega))
  have HS := Lib.hid (fun W1 => specTermSame_any (n : Int) s t W1 (by omega) (by omega))
  have HI1 := Lib.hid (fun W1 h => implTermIn_any (n : Int) s W1 h (by omega))
  have HI2 := Lib.hid (fun W1 h => implTermIn_any (n : Int) t W1 h (by omega))
  have HI3 := Lib.hid (fun W1 h => implTermSet_any (n : Int) s W1 h (by omega))
  have HI4 := Lib.hid (fun W1 h => implTermSet_any (n : Int) t W1 h (by omega))
  have HI5 := Lib.hid (fun W1 h => implTermSet_any (n : Int) ((((⟨#[40]⟩ : ByteArray) ++ s ++ ⟨#[46]⟩) ++ t) ++ ⟨#[41]⟩) W1 h (by rw [sizeD, sizeD, sizeD, sizeD]; show 1 + s.size + 1 + t.size + 1 ≤ _; omega))
  obtain ⟨z1, z2⟩ := addD s.size t.size (by omega) (by omega)
  have HZ := Lib.hid (And.intro z1 z2)
  clear hb1 HC hn1 hn2 z1 z2
  generalize sameT (n : Int) s t = r at *
  cases hts : termO (n : Int) s.toList with
  | none =>
    rw [hts] at HI1
    clear hts HI2 HI3 HI4 HI5
    simp only [Option.isSome_none] at HI1
    go_wp2_with fail
    refine (HI.out _ (HE.out.below (Nat.le_refl _) HB.out)).mono ?_
    rintro e w9 ⟨rfl, hbw⟩
    have HB := Lib.hid (HB.out.trans (hbw.mono HB.out.size))
    clear hbw
    go_wp2_with fail
    refine (HS.out _).mono ?_
    rintro e w9 ⟨rfl, hbw⟩
    have HB := Lib.hid (HB.out.trans (hbw.mono HB.out.size))
    clear hbw
    go_wp2_with fail
    refine (HI1.out _ (HE.out.below (Nat.le_refl _) HB.out)).mono ?_
    rintro e w9 ⟨rfl, hbw⟩
    have HB := Lib.hid (HB.out.trans (hbw.mono HB.out.size))
    clear hbw
    go_wp2
    go_ret
    exact ⟨rfl, HB.out⟩
  | some a =>
    rw [hts] at HI1
    simp only [Option.isSome_some] at HI1
    cases htt : termO (n : Int) t.toList with
    | none =>
      rw [htt] at HI2
      clear hts htt HI3 HI4 HI5
      simp only [Option.isSome_none] at HI2
      go_wp2_with fail
      refine (HI.out _ (HE.out.below (Nat.le_refl _) HB.out)).mono ?_
      rintro e w9 ⟨rfl, hbw⟩
      have HB := Lib.hid (HB.out.trans (hbw.mono HB.out.size))
      clear hbw
      go_wp2_with fail
      refine (HS.out _).mono ?_
      rintro e w9 ⟨rfl, hbw⟩
      have HB := Lib.hid (HB.out.trans (hbw.mono HB.out.size))
      clear hbw
      go_wp2_with fail
      refine (HI1.out _ (HE.out.below (Nat.le_refl _) HB.out)).mono ?_
      rintro e w9 ⟨rfl, hbw⟩
      have HB := Lib.hid (HB.out.trans (hbw.mono HB.out.size))
      clear hbw
      go_wp2_with fail
      refine (HI2.out _ (HE.out.below (Nat.le_refl _) HB.out)).mono ?_
      rintro e w9 ⟨rfl, hbw⟩
      have HB := Lib.hid (HB.out.trans (hbw.mono HB.out.size))
      clear hbw
      go_wp2
      go_ret
      exact ⟨rfl, HB.out⟩
    | some b =>
      rw [htt] at HI2
      simp only [Option.isSome_some] at HI2
      by_cases h57 : s.size + t.size ≤ 57
      · obtain ⟨m, e9, h1, h2, hla, hlb, hx1, hx2, hx3⟩ := sum_text _ s t a b hts htt h57
        obtain rfl : n = m := by omega
        have HT := Lib.hid (fun W1 => implSum_yes n (setT n a) (setT n b) W1 h1 h2 hla hlb)
        rw [hx1] at HI3
        rw [hx2] at HI4
        rw [hx3] at HI5
        have c1 : ¬ 9223372036854775807 < 1 + s.size := by omega
        have c2 : ¬ 9223372036854775807 < 1 + s.size + 1 := by omega
        have c3 : ¬ 9223372036854775807 < 1 + s.size + 1 + t.size := by omega
        have c4 : ¬ 9223372036854775807 < 1 + s.size + 1 + t.size + 1 := by omega
        have c5 : ¬ (57 : Int) < ((s.size + t.size : Nat) : Int) := by omega
        clear hts htt hx1 hx2 hx3 e9 hla hlb hs ht h57
        generalize sumN n (setT n a) (setT n b) = T at *
        generalize setT n a = S1 at *
        generalize setT n b = S2 at *
        obtain ⟨z1, z2⟩ := HZ.out
        generalize s.size + t.size = N at *
        simp only [Option.isSome_some, Option.getD_some] at HI3 HI4 HI5
        go_wp2_with fail
        refine (HI.out _ (HE.out.below (Nat.le_refl _) HB.out)).mono ?_
        rintro e w9 ⟨rfl, hbw⟩
        have HB := Lib.hid (HB.out.trans (hbw.mono HB.out.size))
        clear hbw
        go_wp2_with fail
        refine (HS.out _).mono ?_
        rintro e w9 ⟨rfl, hbw⟩
        have HB := Lib.hid (HB.out.trans (hbw.mono HB.out.size))
        clear hbw
        go_wp2_with fail
        refine (HI1.out _ (HE.out.below (Nat.le_refl _) HB.out)).mono ?_
        rintro e w9 ⟨rfl, hbw⟩
        have HB := Lib.hid (HB.out.trans (hbw.mono HB.out.size))
        clear hbw
        go_wp2_with fail
        refine (HI2.out _ (HE.out.below (Nat.le_refl _) HB.out)).mono ?_
        rintro e w9 ⟨rfl, hbw⟩
        have HB := Lib.hid (HB.out.trans (hbw.mono HB.out.size))
        clear hbw
        go_wp2_with fail
        refine (HI3.out _ (HE.out.below (Nat.le_refl _) HB.out)).mono ?_
        rintro e w9 ⟨rfl, hbw⟩
        have HB := Lib.hid (HB.out.trans (hbw.mono HB.out.size))
        clear hbw
        go_wp2_with fail
        refine (HI4.out _ (HE.out.below (Nat.le_refl _) HB.out)).mono ?_
        rintro e w9 ⟨rfl, hbw⟩
        have HB := Lib.hid (HB.out.trans (hbw.mono HB.out.size))
        clear hbw
        go_wp2_with fail
        refine (HI5.out _ (HE.out.below (Nat.le_refl _) HB.out)).mono ?_
        rintro e w9 ⟨rfl, hbw⟩
        have HB := Lib.hid (HB.out.trans (hbw.mono HB.out.size))
        clear hbw
        go_wp2_with fail
        refine (HT.out _).mono ?_
        rintro e w9 ⟨rfl, hbw⟩
        have HB := Lib.hid (HB.out.trans (hbw.mono HB.out.size))
        clear hbw
        go_wp2
        go_ret
        exact ⟨rfl, HB.out⟩
      · have c5 : (57 : Int) < ((s.size + t.size : Nat) : Int) := by omega
        clear hts htt HI3 HI4 HI5 hs ht h57
        obtain ⟨z1, z2⟩ := HZ.out
        generalize s.size + t.size = N at *
        go_wp2_with fail
        refine (HI.out _ (HE.out.below (Nat.le_refl _) HB.out)).mono ?_
        rintro e w9 ⟨rfl, hbw⟩
        have HB := Lib.hid (HB.out.trans (hbw.mono HB.out.size))
        clear hbw
        go_wp2_with fail
        refine (HS.out _).mono ?_
        rintro e w9 ⟨rfl, hbw⟩
        have HB := Lib.hid (HB.out.trans (hbw.mono HB.out.size))
        clear hbw
        go_wp2_with fail
        refine (HI1.out _ (HE.out.below (Nat.le_refl _) HB.out)).mono ?_
        rintro e w9 ⟨rfl, hbw⟩
        have HB := Lib.hid (HB.out.trans (hbw.mono HB.out.size))
        clear hbw
        go_wp2_with fail
        refine (HI2.out _ (HE.out.below (Nat.le_refl _) HB.out)).mono ?_
        rintro e w9 ⟨rfl, hbw⟩
        have HB := Lib.hid (HB.out.trans (hbw.mono HB.out.size))
        clear hbw
        go_wp2
        go_ret
        exact ⟨rfl, HB.out⟩
end Go.Proofs.YtecjhkpldcmlaaaDoor
