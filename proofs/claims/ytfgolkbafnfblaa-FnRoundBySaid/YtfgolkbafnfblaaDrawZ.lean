/- Drawing for chapter 5: words. -/
import Derived.Test.YtfgolkbafnfblaaDrawY
namespace Go.Proofs.Ytfgolkbafnfblaa
open Go.RowKit Go.Shelf
set_option linter.unusedVariables false
attribute [local go_sem] Oper.semAt_some
def WordDrawn (W : World) (e : Ending) (w' : World) : Prop :=
  ∃ (n : Nat) (sv : Value) (xs : List Int), e = .returned (.tuple #[.int .i64 (n : Int), sv]) ∧ 1 ≤ n ∧ n ≤ 8 ∧ xs.length ≤ 12 ∧ Below W.heap.size W w' ∧ IsInts w' W.heap.size sv xs
theorem roundWord_all (n b : Nat) (sv : Value) (xs : List Int) (W : World) (h1 : 1 ≤ n) (h12 : n ≤ 12) (hI : IsInts W b sv xs) :
    Calls Try.prog 23 #[.int .i64 (n:Int), sv] W fun e w' => ∃ ys ok, ListRes W ys ok e w' ∧ ys.length ≤ 12 :=
  (specRoundWord_any n sv xs b W h1 h12 hI).mono fun e w' h => ⟨_, _, h, by
    split
    · rw [rword_len]; exact h12
    · simp⟩
set_option maxHeartbeats 2000000 in
theorem drawRoundBy_any (W : World) (B len cap : Nat) (A : Option Addr) (f : Nat → Nat) (hC : Code W B A len f) (hB : B ≤ W.heap.size) (hlc : len ≤ cap) (hcap : cap ≤ 9223372036854775807) :
    Calls Try.prog 27 #[.slice A len cap] W (WordDrawn W) := by
  have HS := Lib.hid (drawRoundWord_any W B len cap A f hC hB hlc hcap)
  have HO := Lib.hid (fun (w : World) (hb : Below W.heap.size W w) => open_any w B len cap A f (hC.below (hb.mono hB)) (Nat.le_trans hB hb.size) hlc hcap)
  clear hC
  go_enter Try.func27, Try.ntmps27
  go_wp2_with fail
  refine HS.out.mono ?_
  rintro e w1 ⟨n, s1, xs1, rfl, hn1, hn2, _, hb1, hI1⟩
  have HB := Lib.hid hb1
  have z1 := hb1.size
  have HI1 := Lib.hid hI1
  clear hb1 HS hI1
  go_wp2_with fail
  refine (roundWord_all n _ s1 xs1 w1 hn1 (by omega) HI1.out).mono ?_
  rintro e w2 ⟨xs, ok, ⟨sv, rfl, hb2, hI2⟩, hin⟩
  have HB := Lib.hid (HB.out.trans (hb2.mono z1))
  have HI := Lib.hid (hI2.base z1)
  have z2 := HB.out.size
  have HIl := Lib.hid (fun k (e : sv.ownBlock = some k) => (World.ownsRow.lt hI2 k e).2)
  have HIn := Lib.hid hin
  clear hb2 hI2 hin HI1
  go_wp2_with fail
  refine (HO.out w2 HB.out).mono ?_
  rintro e w3 ⟨R, A', len', cap', rfl, hR, hl, hRd, hCd, hb3⟩
  have HRd : Hid (Reader w3 B R 0) := Lib.hid ⟨⟨A', len', cap', f, hRd, hCd, hl⟩, by omega⟩
  have HB := Lib.hid (HB.out.trans (hb3.mono z2))
  have HI := Lib.hid (HI.out.belowAll hb3)
  have c1 := hRd.p
  have f1 := hRd.frozen 1
  have z3 := HB.out.size
  have hRl := hRd.lt
  have HR61 := Lib.hid (HRd.out.put 71)
  clear hRd hCd hb3
  have hWR : W.heap.size ≤ R := Nat.le_trans z2 hR
  cases ok
  · have HB0 := Lib.hid (show Below W.heap.size W (w3.setCell ⟨R, 1, none⟩ (.int .i64 71)) from HB.out.setCell (p := ⟨R, 1, none⟩) hWR _)
    have HR0 := Lib.hid (show Reader (w3.setCell ⟨R, 1, none⟩ (.int .i64 71)) B R 71 from HR61.out)
    have HI0 := Lib.hid (HI.out.below (N := w2.heap.size) (W' := w3.setCell ⟨R, 1, none⟩ (.int .i64 71)) HIl.out (Below.setCell (Below.refl _ w3) (p := ⟨R, 1, none⟩) hR _))
    have hsx : w2.heap.size ≤ (w3.setCell ⟨R, 1, none⟩ (.int .i64 71)).heap.size := by simp; omega
    go_wp2_with fail
    obtain ⟨W5, hW5⟩ : ∃ W5, w3.setCell ⟨R, 1, none⟩ (.int .i64 71) = W5 := ⟨_, rfl⟩
    rw [hW5] at HB0 HR0 HI0 hsx ⊢
    clear hW5 HR61 c1 f1 hRl HB HI
    refine (draw_any W5 B R 71 (n : Int) HR0.out (by omega) (by omega) (by omega)).mono ?_
    rintro e Wx ⟨c, rfl, hc, hR7, hA7⟩
    clear HI0
    have hcc := hc (by omega)
    have HB0 := Lib.hid (HB0.out.trans (hA7.below (m := W.heap.size) hWR HB0.out.size))
    obtain ⟨k, hk⟩ : ∃ k : Nat, k = 1 + c := ⟨_, rfl⟩
    have hk' : (1 : Int) + (c : Int) = (k : Int) := by omega
    have hkb : k ≤ 20 := by omega
    clear hk hcc hc hR7 hA7 HR0
    go_wp2
    have HOa := Lib.hid (nil_made Wx Wx.heap.size (Nat.le_refl _))
    have HBa := Lib.hid (HB0.out.alloc HB0.out.size (.cells #[] 3))
    have hzx := HB0.out.size
    obtain ⟨h, hh⟩ : ∃ h, Wx.heap.size = h := ⟨_, rfl⟩
    obtain ⟨W9, hW9⟩ : ∃ W9, Wx.alloc (.cells #[] 3) = W9 := ⟨_, rfl⟩
    have hz9 : h ≤ W9.heap.size := by rw [← hW9, ← hh]; simp
    rw [hh] at HOa hzx
    rw [hW9] at HOa HBa
    rw [hW9, hh]
    clear hW9 hh HB0 hk'
    go_loopw [10, 11] (fun a u wr => ∃ (a' : Value) (v : Nat) (ys : List Int), a' = a ∧ v ≤ n ∧ u = .int .i64 (v : Int) ∧ ys.length = v ∧ IsInts wr h a' ys ∧ Below W.heap.size W wr ∧ h ≤ wr.heap.size) (fun _ u _ => n - (intOf u).toNat)
    case atStart => exact ⟨_, 0, [], rfl, Nat.zero_le _, rfl, rfl, HOa.out, HBa.out, hz9⟩
    case round =>
      obtain ⟨a', v, ys, rfl, hv, rfl, hyl, hO, hBr, hzr⟩ := hrel
      have HO := Lib.hid hO
      have HBr := Lib.hid hBr
      clear hO hBr HOa HBa hz9
      by_cases hlt : v < n
      · have HLy : Hid (ys.length ≤ 1000) := Lib.hid (by omega)
        go_wp2_with (at_builtin; refine wpList_append_ints rfl _ _ rfl a' ys (k : Int) wr h rfl rfl HO.out HLy.out hzr (fun v' w6 hO6 hkeep hbelow => ?_); have HO6 := Lib.hid hO6; have HB6 := Lib.hid (hbelow _ _ hzx HBr.out); have hz6 := (hbelow h wr (Nat.le_refl h) (Below.refl h wr)).size; clear hO6 hkeep hbelow)
        go_roundw
        case rel => exact ⟨_, v + 1, _, rfl, by omega, by go_num, by simp; omega, HO6.out, HB6.out, Nat.le_trans hzr hz6⟩
        case measure => simp [intOf]; omega
      · obtain rfl : v = n := by omega
        go_wp2
        go_ret2
        exact ⟨v, _, ys, rfl, hn1, hn2, by omega, HBr.out, HO.out.base hzx⟩
  · have HB0 := Lib.hid (show Below W.heap.size W (w3.setCell ⟨R, 1, none⟩ (.int .i64 71)) from HB.out.setCell (p := ⟨R, 1, none⟩) hWR _)
    have HR0 := Lib.hid (show Reader (w3.setCell ⟨R, 1, none⟩ (.int .i64 71)) B R 71 from HR61.out)
    have HI0 := Lib.hid (HI.out.below (N := w2.heap.size) (W' := w3.setCell ⟨R, 1, none⟩ (.int .i64 71)) HIl.out (Below.setCell (Below.refl _ w3) (p := ⟨R, 1, none⟩) hR _))
    have hsx : w2.heap.size ≤ (w3.setCell ⟨R, 1, none⟩ (.int .i64 71)).heap.size := by simp; omega
    go_wp2_with fail
    obtain ⟨W5, hW5⟩ : ∃ W5, w3.setCell ⟨R, 1, none⟩ (.int .i64 71) = W5 := ⟨_, rfl⟩
    rw [hW5] at HB0 HR0 HI0 hsx ⊢
    clear hW5 HR61 c1 f1 hRl HB HI
    refine (draw_any W5 B R 71 5 HR0.out (by omega) (by omega) (by omega)).mono ?_
    rintro e W6 ⟨d, rfl, hd, hR6, hA6⟩
    have HI6 := Lib.hid (HI0.out.below (N := w2.heap.size) HIl.out (hA6.below (m := w2.heap.size) hR hsx))
    have HB0 := Lib.hid (HB0.out.trans (hA6.below (m := W.heap.size) hWR HB0.out.size))
    have HR0 := Lib.hid hR6
    clear hR6 hA6 hd HI0
    by_cases hd0 : 0 < d
    · have k1 : (0 : Int) < (d : Int) := by omega
      have k2 := decide_eq_true k1
      clear hd0
      go_wp2
      go_ret2
      exact ⟨n, _, xs, rfl, hn1, hn2, HIn.out, HB0.out, HI6.out⟩
    · obtain rfl : d = 0 := by omega
      clear hd0 HI6
      go_wp2_with fail
      refine (draw_any W6 B R (71 + 1) (n : Int) HR0.out (by omega) (by omega) (by omega)).mono ?_
      rintro e Wx ⟨c, rfl, hc, hR7, hA7⟩
      have hcc := hc (by omega)
      have HB0 := Lib.hid (HB0.out.trans (hA7.below (m := W.heap.size) hWR HB0.out.size))
      obtain ⟨k, hk⟩ : ∃ k : Nat, k = 1 + c := ⟨_, rfl⟩
      have hk' : (1 : Int) + (c : Int) = (k : Int) := by omega
      have hkb : k ≤ 20 := by omega
      clear hk hcc hc hR7 hA7 HR0
      go_wp2
      have HOa := Lib.hid (nil_made Wx Wx.heap.size (Nat.le_refl _))
      have HBa := Lib.hid (HB0.out.alloc HB0.out.size (.cells #[] 3))
      have hzx := HB0.out.size
      obtain ⟨h, hh⟩ : ∃ h, Wx.heap.size = h := ⟨_, rfl⟩
      obtain ⟨W9, hW9⟩ : ∃ W9, Wx.alloc (.cells #[] 3) = W9 := ⟨_, rfl⟩
      have hz9 : h ≤ W9.heap.size := by rw [← hW9, ← hh]; simp
      rw [hh] at HOa hzx
      rw [hW9] at HOa HBa
      rw [hW9, hh]
      clear hW9 hh HB0 hk'
      go_loopw [10, 11] (fun a u wr => ∃ (a' : Value) (v : Nat) (ys : List Int), a' = a ∧ v ≤ n ∧ u = .int .i64 (v : Int) ∧ ys.length = v ∧ IsInts wr h a' ys ∧ Below W.heap.size W wr ∧ h ≤ wr.heap.size) (fun _ u _ => n - (intOf u).toNat)
      case atStart => exact ⟨_, 0, [], rfl, Nat.zero_le _, rfl, rfl, HOa.out, HBa.out, hz9⟩
      case round =>
        obtain ⟨a', v, ys, rfl, hv, rfl, hyl, hO, hBr, hzr⟩ := hrel
        have HO := Lib.hid hO
        have HBr := Lib.hid hBr
        clear hO hBr HOa HBa hz9
        by_cases hlt : v < n
        · have HLy : Hid (ys.length ≤ 1000) := Lib.hid (by omega)
          go_wp2_with (at_builtin; refine wpList_append_ints rfl _ _ rfl a' ys (k : Int) wr h rfl rfl HO.out HLy.out hzr (fun v' w6 hO6 hkeep hbelow => ?_); have HO6 := Lib.hid hO6; have HB6 := Lib.hid (hbelow _ _ hzx HBr.out); have hz6 := (hbelow h wr (Nat.le_refl h) (Below.refl h wr)).size; clear hO6 hkeep hbelow)
          go_roundw
          case rel => exact ⟨_, v + 1, _, rfl, by omega, by go_num, by simp; omega, HO6.out, HB6.out, Nat.le_trans hzr hz6⟩
          case measure => simp [intOf]; omega
        · obtain rfl : v = n := by omega
          go_wp2
          go_ret2
          exact ⟨v, _, ys, rfl, hn1, hn2, by omega, HBr.out, HO.out.base hzx⟩
end Go.Proofs.Ytfgolkbafnfblaa
