/- Drawing for chapter 9: rows of often one less than twice as many places. Written by gen89.py. -/
import Derived.Test.YtaopejgmnbmngaaDrawL
namespace Go.Proofs.Ytaopejgmnbmngaa
open Go.RowKit Go.Shelf
set_option linter.unusedVariables false
attribute [local go_sem] Oper.semAt_some
theorem of_fit (n : Nat) (h1 : 1 ≤ n) (h : n ≤ 6) : ∃ y m : Nat, 1 ≤ m ∧ m ≤ 11 ∧ IntKind.i64.wrap (2 * (n : Int)) = (y : Int) ∧ wrap64 (2 * (n : Int)) = (y : Int) ∧ IntKind.i64.wrap ((y : Int) - 1) = (m : Int) ∧ wrap64 ((y : Int) - 1) = (m : Int) := by
  refine ⟨2 * n, 2 * n - 1, by omega, by omega, ?_, ?_, ?_, ?_⟩
  · rw [IntWalk.i64_in _ (by omega)]; omega
  · rw [IntWalk.wrap64_in _ (by omega)]; omega
  · rw [IntWalk.i64_in _ (by omega)]; omega
  · rw [IntWalk.wrap64_in _ (by omega)]; omega
theorem of_fit2 (a m : Nat) (ha : a < 24) (hm : 1 ≤ m) (hm2 : m ≤ 11) : ∃ d k : Nat, k ≤ 11 ∧ Int.tdiv (a : Int) 20 = (d : Int) ∧ (a : Int) / 20 = (d : Int) ∧ IntKind.i64.wrap (d : Int) = (d : Int) ∧ wrap64 (d : Int) = (d : Int) ∧ IntKind.i64.wrap ((m : Int) - (d : Int)) = (k : Int) ∧ wrap64 ((m : Int) - (d : Int)) = (k : Int) := by
  refine ⟨a / 20, m - a / 20, by omega, (Int.ofNat_tdiv a 20).symm, (Int.natCast_ediv a 20).symm, IntWalk.i64_in _ (by omega), IntWalk.wrap64_in _ (by omega), ?_, ?_⟩
  · rw [IntWalk.i64_in _ (by omega)]; omega
  · rw [IntWalk.wrap64_in _ (by omega)]; omega
set_option maxHeartbeats 4000000 in
theorem drawZeroOf_any (W : World) (B len cap : Nat) (A : Option Addr) (f : Nat → Nat) (hC : Code W B A len f) (hB : B ≤ W.heap.size) (hlc : len ≤ cap) (hcap : cap ≤ 9223372036854775807) :
    Calls Try.prog 12 #[.slice A len cap] W (RowDrawn W) := by
  have HO := Lib.hid (fun (w : World) (hb : Below W.heap.size W w) => open_any w B len cap A f (hC.below (hb.mono hB)) (Nat.le_trans hB hb.size) hlc hcap)
  clear hC
  go_enter Try.func12, Try.ntmps12
  go_wp2_with fail
  refine (HO.out W (Below.refl _ _)).mono ?_
  rintro e w1 ⟨R, A', len', cap', rfl, hR, hl, hRd, hCd, hb1⟩
  have HRd : Hid (Reader w1 B R 0) := Lib.hid ⟨⟨A', len', cap', f, hRd, hCd, hl⟩, by omega⟩
  have HBd := Lib.hid hb1
  have hWR : W.heap.size ≤ R := hR
  clear hRd hCd hb1 hl HO
  go_wp2_with fail
  refine (draw_any w1 B R 0 6 HRd.out (by omega) (by omega) (by omega)).mono ?_
  rintro e w2 ⟨v0, rfl, hv0, hR', hA'⟩
  have Hv0 := Lib.hid hv0
  have HRd := Lib.hid hR'
  have HBd := Lib.hid (HBd.out.trans (hA'.below (m := W.heap.size) hWR HBd.out.size))
  have hzw2 := hA'.size
  clear hR' hA' hv0
  have hv0 : v0 < 6 := by have := Hv0.out (by omega); omega
  have HF := Lib.hid (one_fit v0 (by omega))
  have hn1 : 1 ≤ v0 + 1 := by omega
  have hn2 : v0 + 1 ≤ 6 := by omega
  generalize v0 + 1 = n at *
  have hRl := HRd.out.lt
  have HRa := Lib.hid (HRd.out.under ((Below.refl _ w2).alloc (Nat.le_refl _) (.cells #[] 3)) hRl)
  have HOa := Lib.hid (nil_made w2 w2.heap.size (Nat.le_refl _))
  have HBa := Lib.hid (HBd.out.alloc HBd.out.size (.cells #[] 3))
  have hWh := HBd.out.size
  have hsz : (w2.alloc (.cells #[] 3)).heap.size = w2.heap.size + 1 := by simp
  clear HRd HBd Hv0 hv0
  obtain ⟨f1, f2⟩ := HF.out
  obtain ⟨y, m, hm1, hm2, g1, g2, g3, g4⟩ := of_fit n hn1 hn2
  go_wp2_with fail
  clear f1 f2 g1 g2 g3 g4 HF
  obtain ⟨h, hh⟩ : ∃ h, w2.heap.size = h := ⟨_, rfl⟩
  obtain ⟨w3, hw3⟩ : ∃ w3, w2.alloc (.cells #[] 3) = w3 := ⟨_, rfl⟩
  rw [hw3] at HRa HOa HBa hsz ⊢
  rw [hh] at HOa hsz hRl hWh ⊢
  clear hw3 hh
  have hRh : R < h := hRl
  clear hzw2
  have HRd := HRa
  have HBd := HBa
  have HL := HOa
  clear HRa HBa HOa
  refine (draw_any w3 B R (0 + 1) 24 HRd.out (by omega) (by omega) (by omega)).mono ?_
  rintro e w4 ⟨a, rfl, ha, hR', hA'⟩
  have Ha := Lib.hid ha
  have HRd := Lib.hid hR'
  have HBd := Lib.hid (HBd.out.trans (hA'.below (m := W.heap.size) hWR HBd.out.size))
  have HL := Lib.hid (aside_ints HL.out hA' hRh)
  have hzw4 := hA'.size
  clear hR' hA' ha
  have ha : a < 24 := by have := Ha.out (by omega); omega
  have hz4 : h ≤ w4.heap.size := by omega
  obtain ⟨d, k, hk, e1, e2, e3, e4, e5, e6⟩ := of_fit2 a m ha hm1 hm2
  clear Ha ha
  go_wp2
  clear e1 e2 e3 e4 e5 e6
  go_loopw [6, 8] (fun a u wr => ∃ (a' : Value) (i p : Nat) (ys : List Int), a' = a ∧ i ≤ k ∧ u = .int .i64 (i : Int) ∧ ys.length = i ∧ p ≤ 10 + 2 * i ∧ Hid (IsInts wr h a' ys) ∧ Hid (Reader wr B R p) ∧ Hid (Below W.heap.size W wr) ∧ h ≤ wr.heap.size) (fun _ u _ => k - (intOf u).toNat)
  case atStart => exact ⟨_, 0, 2, [], rfl, Nat.zero_le _, rfl, rfl, by omega, HL, HRd, HBd, hz4⟩
  case round =>
    obtain ⟨a', i, p, ys, rfl, hi, rfl, hyl, hp, HLr, HRr, HBr, hzr⟩ := hrel
    have HL := HLr
    clear HRd HBd
    by_cases hlt : i < k
    · have hyl2 : ys.length ≤ 100000 := by omega
      have HYl := Lib.hid hyl2
      go_wp2_with fail
      refine (draw_any wr B R p (n : Int) HRr.out (by omega) (by omega) (by omega)).mono ?_
      rintro e w7 ⟨v, rfl, hv, hR', hA'⟩
      have Hv := Lib.hid hv
      have HRd := Lib.hid hR'
      have HBd := Lib.hid (HBr.out.trans (hA'.below (m := W.heap.size) hWR HBr.out.size))
      have HL := Lib.hid (aside_ints HL.out hA' hRh)
      have hzw7 := hA'.size
      clear hR' hA' hv
      go_wp2_with fail
      refine (draw_any w7 B R (p + 1) 7 HRd.out (by omega) (by omega) (by omega)).mono ?_
      rintro e w8 ⟨y, rfl, hy, hR', hA'⟩
      have Hy := Lib.hid hy
      have HRd := Lib.hid hR'
      have HBd := Lib.hid (HBd.out.trans (hA'.below (m := W.heap.size) hWR HBd.out.size))
      have HL := Lib.hid (aside_ints HL.out hA' hRh)
      have hzw8 := hA'.size
      clear hR' hA' hy
      have hz8 : h ≤ w8.heap.size := by omega
      have hv : v < 2 ^ 62 := by have := Hv.out (by omega); omega
      have hy : y < 7 := by have := Hy.out (by omega); omega
      have HF := Lib.hid (one_fit y (by omega))
      have HA := Lib.hid (and_nat v (y + 1) hv (by omega))
      generalize y + 1 = x at *
      generalize v &&& x = q at *
      clear Hv Hy hv hy
      obtain ⟨f1, f2⟩ := HF.out
      have f3 := HA.out
      go_wp2_with (at_builtin; refine wpList_append_ints rfl _ _ rfl a' ys (q : Int) w8 h rfl rfl HL.out HYl.out hz8 (fun v' w9 hO9 hkeep hbelow => ?_); have HO9 := Lib.hid hO9; have HB9 := Lib.hid (hbelow _ _ hWh HBd.out); have HR9 := Lib.hid (HRd.out.under (hbelow h w8 (Nat.le_refl h) (Below.refl h w8)) hRh); have hz9 := (hbelow h w8 (Nat.le_refl h) (Below.refl h w8)).size; clear hO9 hkeep hbelow)
      clear f1 f2 f3
      go_roundw
      case rel => exact ⟨_, i + 1, p + 1 + 1, _, rfl, by omega, by go_num, by simp; omega, by omega, HO9, HR9, HB9, Nat.le_trans hz8 hz9⟩
      case measure => simp [intOf]; omega
    · obtain rfl : i = k := by omega
      go_wp2
      go_ret2
      exact ⟨_, _, ys, rfl, by omega, HBr.out, HL.out.base hWh⟩
end Go.Proofs.Ytaopejgmnbmngaa
