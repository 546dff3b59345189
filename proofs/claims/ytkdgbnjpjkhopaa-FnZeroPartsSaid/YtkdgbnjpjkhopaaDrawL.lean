/- Drawing for chapter 9: rows. Written by gen88.py. -/
import Derived.Test.YtkdgbnjpjkhopaaDrawX
import Derived.Test.YtkdgbnjpjkhopaaGY
namespace Go.Proofs.Ytkdgbnjpjkhopaa
open Go.RowKit Go.Shelf
set_option linter.unusedVariables false
attribute [local go_sem] Oper.semAt_some
/-- A number and a list of at most 20. -/
def RowDrawn (W : World) (e : Ending) (w' : World) : Prop :=
  ∃ (n : Int) (sv : Value) (xs : List Int), e = .returned (.tuple #[.int .i64 n, sv]) ∧ xs.length ≤ 20 ∧ Below W.heap.size W w' ∧ IsInts w' W.heap.size sv xs
theorem one_fit (v : Nat) (h : v ≤ 100000) : IntKind.i64.wrap (1 + (v : Int)) = ((v + 1 : Nat) : Int) ∧ wrap64 (1 + (v : Int)) = ((v + 1 : Nat) : Int) := ⟨by rw [IntWalk.i64_in _ (by omega)]; omega, by rw [IntWalk.wrap64_in _ (by omega)]; omega⟩
theorem fit_one (v : Nat) (h : v ≤ 100000) : IntKind.i64.wrap ((v : Int) + 1) = ((v + 1 : Nat) : Int) ∧ wrap64 ((v : Int) + 1) = ((v + 1 : Nat) : Int) := ⟨by rw [IntWalk.i64_in _ (by omega)]; rfl, by rw [IntWalk.wrap64_in _ (by omega)]; rfl⟩
set_option maxHeartbeats 4000000 in
theorem l92Row_any (W : World) (B len cap : Nat) (A : Option Addr) (f : Nat → Nat) (hC : Code W B A len f) (hB : B ≤ W.heap.size) (hlc : len ≤ cap) (hcap : cap ≤ 9223372036854775807) (most : Nat) (hm : most ≤ 12) :
    Calls Try.prog 20 #[.slice A len cap, .int .i64 (most:Int)] W (RowDrawn W) := by
  have HO := Lib.hid (fun (w : World) (hb : Below W.heap.size W w) => open_any w B len cap A f (hC.below (hb.mono hB)) (Nat.le_trans hB hb.size) hlc hcap)
  clear hC
  go_enter Try.func20, Try.ntmps20
  go_wp2_with fail
  refine (HO.out W (Below.refl _ _)).mono ?_
  rintro e w1 ⟨R, A', len', cap', rfl, hR, hl, hRd, hCd, hb1⟩
  have HRd : Hid (Reader w1 B R 0) := Lib.hid ⟨⟨A', len', cap', f, hRd, hCd, hl⟩, by omega⟩
  have HBd := Lib.hid hb1
  have hWR : W.heap.size ≤ R := hR
  clear hRd hCd hb1 hl HO
  go_wp2_with fail
  refine (draw_any w1 B R 0 12 HRd.out (by omega) (by omega) (by omega)).mono ?_
  rintro e w2 ⟨v0, rfl, hv0, hR', hA'⟩
  have Hv0 := Lib.hid hv0
  have HRd := Lib.hid hR'
  have HBd := Lib.hid (HBd.out.trans (hA'.below (m := W.heap.size) hWR HBd.out.size))
  have hzw2 := hA'.size
  clear hR' hA' hv0
  have hv0 : v0 < 12 := by have := Hv0.out (by omega); omega
  have HF := Lib.hid (one_fit v0 (by omega))
  have HM := Lib.hid (fit_one most (by omega))
  have hn1 : 1 ≤ v0 + 1 := by omega
  have hn2 : v0 + 1 ≤ 12 := by omega
  generalize v0 + 1 = n at *
  have f1 := HF.out.1
  have f2 := HF.out.2
  have m1 := HM.out.1
  have m2 := HM.out.2
  have hRl := HRd.out.lt
  have HRa := Lib.hid (HRd.out.under ((Below.refl _ w2).alloc (Nat.le_refl _) (.cells #[] 3)) hRl)
  have HOa := Lib.hid (nil_made w2 w2.heap.size (Nat.le_refl _))
  have HBa := Lib.hid (HBd.out.alloc HBd.out.size (.cells #[] 3))
  have hWh := HBd.out.size
  have hsz : (w2.alloc (.cells #[] 3)).heap.size = w2.heap.size + 1 := by simp
  clear HRd HBd Hv0 hv0
  go_wp2_with fail
  clear f1 f2 m1 m2 HF HM
  obtain ⟨h, hh⟩ : ∃ h, w2.heap.size = h := ⟨_, rfl⟩
  obtain ⟨w3, hw3⟩ : ∃ w3, w2.alloc (.cells #[] 3) = w3 := ⟨_, rfl⟩
  rw [hw3] at HRa HOa HBa hsz ⊢
  rw [hh] at HOa hsz hRl hWh ⊢
  clear hw3 hh
  have hRh : R < h := hRl
  clear hzw2
  have HRd := HRa
  have HBd := HBa
  have HL := HOa
  clear HRa HBa HOa
  refine (draw_any w3 B R (0 + 1) ((most + 1 : Nat) : Int) HRd.out (by omega) (by omega) (by omega)).mono ?_
  rintro e w4 ⟨k, rfl, hk, hR', hA'⟩
  have Hk := Lib.hid hk
  have HRd := Lib.hid hR'
  have HBd := Lib.hid (HBd.out.trans (hA'.below (m := W.heap.size) hWR HBd.out.size))
  have HL := Lib.hid (aside_ints HL.out hA' hRh)
  have hzw4 := hA'.size
  clear hR' hA' hk
  go_wp2_with fail
  refine (draw_any w4 B R (0 + 1 + 1) (n : Int) HRd.out (by omega) (by omega) (by omega)).mono ?_
  rintro e w5 ⟨sm, rfl, hsm, hR', hA'⟩
  have Hsm := Lib.hid hsm
  have HRd := Lib.hid hR'
  have HBd := Lib.hid (HBd.out.trans (hA'.below (m := W.heap.size) hWR HBd.out.size))
  have HL := Lib.hid (aside_ints HL.out hA' hRh)
  have hzw5 := hA'.size
  clear hR' hA' hsm
  go_wp2_with fail
  refine (draw_any w5 B R (0 + 1 + 1 + 1) 3 HRd.out (by omega) (by omega) (by omega)).mono ?_
  rintro e w6 ⟨kd, rfl, hkd, hR', hA'⟩
  have Hkd := Lib.hid hkd
  have HRd := Lib.hid hR'
  have HBd := Lib.hid (HBd.out.trans (hA'.below (m := W.heap.size) hWR HBd.out.size))
  have HL := Lib.hid (aside_ints HL.out hA' hRh)
  have hzw6 := hA'.size
  clear hR' hA' hkd
  have hk : k ≤ 12 := by have := Hk.out (by omega); omega
  have hz6 : h ≤ w6.heap.size := by omega
  clear Hk Hsm Hkd
  go_wp2
  go_loopw [8, 12] (fun a u wr => ∃ (a' : Value) (i p : Nat) (ys : List Int), a' = a ∧ i ≤ k ∧ u = .int .i64 (i : Int) ∧ ys.length = i ∧ p ≤ 10 + 2 * i ∧ Hid (IsInts wr h a' ys) ∧ Hid (Reader wr B R p) ∧ Hid (Below W.heap.size W wr) ∧ h ≤ wr.heap.size) (fun _ u _ => k - (intOf u).toNat)
  case atStart => exact ⟨_, 0, 4, [], rfl, Nat.zero_le _, rfl, rfl, by omega, HL, HRd, HBd, hz6⟩
  case round =>
    obtain ⟨a', i, p, ys, rfl, hi, rfl, hyl, hp, HLr, HRr, HBr, hzr⟩ := hrel
    have HL := HLr
    clear HRd HBd
    by_cases hlt : i < k
    · have hyl2 : ys.length ≤ 100000 := by omega
      have HYl := Lib.hid hyl2
      go_wp2_with fail
      refine (draw_any wr B R p (n : Int) HRr.out (by omega) (by omega) (by omega)).mono ?_
      rintro e w7 ⟨v, rfl, hv, hR', hA'⟩
      have Hv := Lib.hid hv
      have HRd := Lib.hid hR'
      have HBd := Lib.hid (HBr.out.trans (hA'.below (m := W.heap.size) hWR HBr.out.size))
      have HL := Lib.hid (aside_ints HL.out hA' hRh)
      have hzw7 := hA'.size
      clear hR' hA' hv
      have hz7 : h ≤ w7.heap.size := by omega
      by_cases hkd : kd = 0
      · have k0 : ((kd : Int) == 0) = true := by rw [hkd]; rfl
        clear hkd
        go_wp2_with fail
        refine (draw_any w7 B R (p + 1) 4 HRd.out (by omega) (by omega) (by omega)).mono ?_
        rintro e w8 ⟨d, rfl, hd, hR', hA'⟩
        have Hd := Lib.hid hd
        have HRd := Lib.hid hR'
        have HBd := Lib.hid (HBd.out.trans (hA'.below (m := W.heap.size) hWR HBd.out.size))
        have HL := Lib.hid (aside_ints HL.out hA' hRh)
        have hzw8 := hA'.size
        clear hR' hA' hd
        have hz8 : h ≤ w8.heap.size := by omega
        by_cases hd : d = 0
        · have k1 : ¬ (d : Int) > 0 := by omega
          have k2 : ¬ (0 : Int) < (d : Int) := by omega
          have k3 : decide ((d : Int) > 0) = false := decide_eq_false k1
          have k4 : ¬ 0 < d := by omega
          have k5 : decide (0 < d) = false := decide_eq_false k4
          clear hd
          go_wp2_with (at_builtin; refine wpList_append_ints rfl _ _ rfl a' ys (v : Int) w8 h rfl rfl HL.out HYl.out hz8 (fun v' w9 hO9 hkeep hbelow => ?_); have HO9 := Lib.hid hO9; have HB9 := Lib.hid (hbelow _ _ hWh HBd.out); have HR9 := Lib.hid (HRd.out.under (hbelow h w8 (Nat.le_refl h) (Below.refl h w8)) hRh); have hz9 := (hbelow h w8 (Nat.le_refl h) (Below.refl h w8)).size; clear hO9 hkeep hbelow)
          go_roundw
          case rel => exact ⟨_, i + 1, p + 1 + 1, _, rfl, by omega, by go_num, by simp; omega, by omega, HO9, HR9, HB9, Nat.le_trans hz8 hz9⟩
          case measure => simp [intOf]; omega
        · have k1 : (d : Int) > 0 := by omega
          have k2 : (0 : Int) < (d : Int) := by omega
          have k3 : decide ((d : Int) > 0) = true := decide_eq_true k1
          have k4 : 0 < d := by omega
          have k5 : decide (0 < d) = true := decide_eq_true k4
          clear hd
          go_wp2_with (at_builtin; refine wpList_append_ints rfl _ _ rfl a' ys (sm : Int) w8 h rfl rfl HL.out HYl.out hz8 (fun v' w9 hO9 hkeep hbelow => ?_); have HO9 := Lib.hid hO9; have HB9 := Lib.hid (hbelow _ _ hWh HBd.out); have HR9 := Lib.hid (HRd.out.under (hbelow h w8 (Nat.le_refl h) (Below.refl h w8)) hRh); have hz9 := (hbelow h w8 (Nat.le_refl h) (Below.refl h w8)).size; clear hO9 hkeep hbelow)
          go_roundw
          case rel => exact ⟨_, i + 1, p + 1 + 1, _, rfl, by omega, by go_num, by simp; omega, by omega, HO9, HR9, HB9, Nat.le_trans hz8 hz9⟩
          case measure => simp [intOf]; omega
      · have k1 : ((kd : Int) == 0) = false := by simp; omega
        have hz8 := hz7
        go_wp2_with (at_builtin; refine wpList_append_ints rfl _ _ rfl a' ys (v : Int) w7 h rfl rfl HL.out HYl.out hz8 (fun v' w9 hO9 hkeep hbelow => ?_); have HO9 := Lib.hid hO9; have HB9 := Lib.hid (hbelow _ _ hWh HBd.out); have HR9 := Lib.hid (HRd.out.under (hbelow h w7 (Nat.le_refl h) (Below.refl h w7)) hRh); have hz9 := (hbelow h w7 (Nat.le_refl h) (Below.refl h w7)).size; clear hO9 hkeep hbelow)
        go_roundw
        case rel => exact ⟨_, i + 1, p + 1, _, rfl, by omega, by go_num, by simp; omega, by omega, HO9, HR9, HB9, Nat.le_trans hz8 hz9⟩
        case measure => simp [intOf]; omega
    · obtain rfl : i = k := by omega
      go_wp2_with fail
      refine (draw_any wr B R p 50 HRr.out (by omega) (by omega) (by omega)).mono ?_
      rintro e w7 ⟨q, rfl, hq, hR', hA'⟩
      have Hq := Lib.hid hq
      have HRd := Lib.hid hR'
      have HBd := Lib.hid (HBr.out.trans (hA'.below (m := W.heap.size) hWR HBr.out.size))
      have HL := Lib.hid (aside_ints HL.out hA' hRh)
      have hzw7 := hA'.size
      clear hR' hA' hq
      have hz7 : h ≤ w7.heap.size := by omega
      by_cases hq0 : q = 0
      · subst hq0
        go_wp2_with (at_builtin; refine wpList_append_ints rfl _ _ rfl a' ys (n : Int) w7 h rfl rfl HL.out (by omega) hz7 (fun v' w9 hO9 hkeep hbelow => ?_); have HO9 := Lib.hid hO9; have HB9 := Lib.hid (hbelow _ _ hWh HBd.out); clear hO9 hkeep hbelow)
        go_ret2
        exact ⟨_, _, ys ++ [(n : Int)], rfl, by simp; omega, HB9.out, HO9.out.base hWh⟩
      · have k1 : ((q : Int) == 0) = false := by simp; omega
        by_cases hq1 : q = 1
        · subst hq1
          go_wp2
          go_ret2
          exact ⟨_, _, ys, rfl, by omega, HBd.out, HL.out.base hWh⟩
        · have k2 : ((q : Int) == 1) = false := by simp; omega
          go_wp2
          go_ret2
          exact ⟨_, _, ys, rfl, by omega, HBd.out, HL.out.base hWh⟩
theorem most_fit (len : Nat) : ∃ d : Nat, d ≤ 1 ∧ Int.tmod (len : Int) 12 = ((len % 12 : Nat) : Int) ∧ Int.tdiv ((len % 12 : Nat) : Int) 11 = (d : Int) ∧ ((len % 12 : Nat) : Int) / 11 = (d : Int) ∧ wrap64 (d : Int) = (d : Int) ∧ IntKind.i64.wrap (d : Int) = (d : Int) ∧ IntKind.i64.wrap ((d : Int) * 2) = ((d * 2 : Nat) : Int) ∧ wrap64 ((d : Int) * 2) = ((d * 2 : Nat) : Int) ∧ IntKind.i64.wrap (7 + ((d * 2 : Nat) : Int)) = ((7 + d * 2 : Nat) : Int) ∧ wrap64 (7 + ((d * 2 : Nat) : Int)) = ((7 + d * 2 : Nat) : Int) := by
  have h : len % 12 < 12 := Nat.mod_lt _ (by omega)
  refine ⟨len % 12 / 11, by omega, ?_, ?_, ?_, IntWalk.wrap64_in _ (by omega), IntWalk.i64_in _ (by omega), IntWalk.i64_in _ (by omega), IntWalk.wrap64_in _ (by omega), IntWalk.i64_in _ (by omega), IntWalk.wrap64_in _ (by omega)⟩
  · exact (Int.ofNat_tmod len 12).symm
  · exact (Int.ofNat_tdiv (len % 12) 11).symm
  · exact (Int.natCast_ediv (len % 12) 11).symm
theorem drawZeroLeast_any (W : World) (B len cap : Nat) (A : Option Addr) (f : Nat → Nat) (hC : Code W B A len f) (hB : B ≤ W.heap.size) (hlc : len ≤ cap) (hcap : cap ≤ 9223372036854775807) :
    Calls Try.prog 7 #[.slice A len cap] W (RowDrawn W) := by
  obtain ⟨d, hd, e1, e2, e3, e4, e5, e6, e7, e8, e9⟩ := most_fit len
  have HC := Lib.hid (l92Row_any W B len cap A f hC hB hlc hcap (7 + d * 2) (by omega))
  clear hC
  generalize len % 12 = x at *
  generalize 7 + d * 2 = m at *
  generalize d * 2 = y at *
  go_enter Try.func7, Try.ntmps7
  go_wp2_with fail
  refine HC.out.mono ?_
  rintro e w1 ⟨n, sv, xs, rfl, hx, hb, hI⟩
  go_wp2
  go_ret2
  exact ⟨n, sv, xs, rfl, hx, hb, hI⟩
theorem drawZeroParts_any (W : World) (B len cap : Nat) (A : Option Addr) (f : Nat → Nat) (hC : Code W B A len f) (hB : B ≤ W.heap.size) (hlc : len ≤ cap) (hcap : cap ≤ 9223372036854775807) :
    Calls Try.prog 13 #[.slice A len cap] W (RowDrawn W) := by
  obtain ⟨d, hd, e1, e2, e3, e4, e5, e6, e7, e8, e9⟩ := most_fit len
  have HC := Lib.hid (l92Row_any W B len cap A f hC hB hlc hcap (7 + d * 2) (by omega))
  clear hC
  generalize len % 12 = x at *
  generalize 7 + d * 2 = m at *
  generalize d * 2 = y at *
  go_enter Try.func13, Try.ntmps13
  go_wp2_with fail
  refine HC.out.mono ?_
  rintro e w1 ⟨n, sv, xs, rfl, hx, hb, hI⟩
  go_wp2
  go_ret2
  exact ⟨n, sv, xs, rfl, hx, hb, hI⟩
end Go.Proofs.Ytkdgbnjpjkhopaa
