/- Drawing for chapter 10: letters and texts. Written by gen117.py. -/
import Derived.Test.YtnlalccnhpblkaaGreatDrawX
import Derived.Test.YtnlalccnhpblkaaGreatDrawG
import Derived.Test.YtnlalccnhpblkaaGreatDrawS
import Derived.Test.YtnlalccnhpblkaaGreatDrawL
import Derived.Test.YtnlalccnhpblkaaGreatWrdN
import Derived.Test.YtnlalccnhpblkaaGreatGD
namespace Go.Proofs.YtnlalccnhpblkaaGreat
open Go.RowKit Go.Shelf
set_option linter.unusedVariables false
attribute [local go_sem] Oper.semAt_some
/-- A ring and a list of letters. -/
theorem getD_snoc9 (l : List Int) (z : Int) (i : Nat) : (l ++ [z]).getD i 0 = if i < l.length then l.getD i 0 else if i = l.length then z else 0 := by
  rw [List.getD_eq_getElem?_getD, List.getD_eq_getElem?_getD]
  by_cases h : i < l.length
  · rw [if_pos h, List.getElem?_append_left h]
  · rw [if_neg h, List.getElem?_append_right (by omega)]
    by_cases e : i = l.length
    · subst e; rw [if_pos rfl, Nat.sub_self]; rfl
    · rw [if_neg e, List.getElem?_eq_none (by simp; omega)]; rfl
theorem getD_set9 (l : List Int) (i : Nat) (z : Int) (j : Nat) : (l.set i z).getD j 0 = if i = j ∧ j < l.length then z else l.getD j 0 := by
  rw [List.getD_eq_getElem?_getD, List.getD_eq_getElem?_getD, List.getElem?_set]
  by_cases e : i = j
  · subst e
    by_cases h : i < l.length
    · simp [h]
    · simp [h]
  · simp [e]
def LetDrawn (W0 : World) (B R p : Nat) (e : Ending) (w' : World) : Prop :=
  ∃ (n : Nat) (lv : Value) (xs : List Int) (q : Nat), e = .returned (.tuple #[.int .i64 (n : Int), lv]) ∧ 2 ≤ n ∧ n ≤ 12 ∧ 1 ≤ xs.length ∧ xs.length ≤ 3 ∧ q ≤ p + 6 ∧ Reader w' B R q ∧ Below W0.heap.size W0 w' ∧ IsInts w' (R + 1) lv xs ∧ ∀ i, i < xs.length → 0 ≤ xs.getD i 0 ∧ xs.getD i 0 < (n : Int)
theorem two_fit9 (v : Nat) (h : v ≤ 100000) : IntKind.i64.wrap (2 + (v : Int)) = ((v + 2 : Nat) : Int) ∧ wrap64 (2 + (v : Int)) = ((v + 2 : Nat) : Int) := ⟨by rw [IntWalk.i64_in _ (by omega)]; omega, by rw [IntWalk.wrap64_in _ (by omega)]; omega⟩
theorem less_fit (n : Nat) (h : n ≤ 100000) : IntKind.i64.wrap ((n : Int) - 1) = (n : Int) - 1 ∧ wrap64 ((n : Int) - 1) = (n : Int) - 1 := ⟨IntWalk.i64_in _ ⟨by omega, by omega⟩, IntWalk.wrap64_in _ (by omega)⟩
theorem Aside.belowAll {R : Nat} {W W' : World} (h : Below W.heap.size W W') : Aside R W W' := ⟨h.os, h.tape, h.output, h.size, fun k hk _ => h.block k hk⟩
set_option maxHeartbeats 4000000 in
theorem l92Letters_any (W0 W : World) (B R p : Nat) (hWR : W0.heap.size ≤ R) (hBd : Below W0.heap.size W0 W) (hRd : Reader W B R p) (hp : p ≤ 100) :
    Calls Tryz.prog 12 #[.pointer (some ⟨R, 0, none⟩)] W (LetDrawn W0 B R p) := by
  have HRd := Lib.hid hRd
  have HBd := Lib.hid hBd
  clear hRd hBd
  go_enter Tryz.func12, Tryz.ntmps12
  go_wp2_with fail
  refine (draw_any W B R p 11 HRd.out (by omega) (by omega) (by omega)).mono ?_
  rintro e w1 ⟨v0, rfl, hv0', hR1, hA1⟩
  have hv0 := hv0' (by omega)
  clear hv0'
  have hRl : R < w1.heap.size := hR1.lt
  have HR1 := Lib.hid (hR1.under ((Below.refl _ w1).alloc (Nat.le_refl _) (.cells #[] 3)) hR1.lt)
  have HB1 := Lib.hid ((HBd.out.trans (hA1.below (m := W0.heap.size) hWR HBd.out.size)).alloc (HBd.out.trans (hA1.below (m := W0.heap.size) hWR HBd.out.size)).size (.cells #[] 3))
  have HO1 := Lib.hid (IsInts.base (b' := R + 1) (nil_made w1 w1.heap.size (Nat.le_refl _)) hRl)
  clear hR1 hA1
  have HF := Lib.hid (two_fit9 v0 (by omega))
  have hn1 : 2 ≤ v0 + 2 := by omega
  have hn2 : v0 + 2 ≤ 12 := by omega
  clear hv0
  generalize v0 + 2 = n at *
  have f1 := HF.out.1
  have f2 := HF.out.2
  go_wp2_with fail
  clear f1 f2 HF
  obtain ⟨w2, hw2⟩ : ∃ w2, w1.alloc (.cells #[] 3) = w2 := ⟨_, rfl⟩
  rw [hw2] at HR1 HB1 HO1 ⊢
  have hz2 : R + 1 ≤ w2.heap.size := by rw [← hw2]; simp; omega
  clear hw2
  generalize w1.heap.size = h9 at *
  refine (draw_any w2 B R (p + 1) 3 HR1.out (by omega) (by omega) (by omega)).mono ?_
  rintro e w3 ⟨k0, rfl, hk0', hR3, hA3⟩
  have hk0 := hk0' (by omega)
  clear hk0'
  have HR3 := Lib.hid hR3
  have HB3 := Lib.hid (HB1.out.trans (hA3.below (m := W0.heap.size) hWR HB1.out.size))
  have HO3 := Lib.hid (aside_ints HO1.out hA3 (by omega))
  have hz3 := hA3.size
  clear hR3 hA3
  have HF := Lib.hid (one_fit k0 (by omega))
  have hk1 : 1 ≤ k0 + 1 := by omega
  have hk2 : k0 + 1 ≤ 3 := by omega
  clear hk0
  generalize k0 + 1 = k at *
  have g1 := HF.out.1
  have g2 := HF.out.2
  go_wp2
  clear g1 g2 HF
  go_loopw [5, 7] (fun a u wr => ∃ (i : Nat) (ys : List Int), i ≤ k ∧ u = .int .i64 (i : Int) ∧ ys.length = i ∧ Hid (IsInts wr (R + 1) a ys) ∧ Hid (Reader wr B R (p + 2 + i)) ∧ Hid (Below W0.heap.size W0 wr) ∧ R + 1 ≤ wr.heap.size ∧ Hid (∀ j, j < i → 0 ≤ ys.getD j 0 ∧ ys.getD j 0 < (n : Int))) (fun _ u _ => k - (intOf u).toNat)
  case atStart => exact ⟨0, [], Nat.zero_le _, rfl, rfl, HO3, HR3, HB3, by omega, Lib.hid (fun j hj => absurd hj (Nat.not_lt_zero _))⟩
  case round =>
    obtain ⟨i, ys, hi, rfl, hyl, HO, HR, HB, hzr, HE⟩ := hrel
    by_cases hlt : i < k
    · have HYl := Lib.hid hyl
      have HL1 := Lib.hid (less_fit n (by omega))
      have HB1' : Hid (p + 2 + i ≤ 1000 ∧ (n : Int) - 1 ≤ 1000000 ∧ -1000000 ≤ (n : Int) - 1) := Lib.hid ⟨by omega, by omega, by omega⟩
      have hw1 := HL1.out.1
      have hw2 := HL1.out.2
      clear hyl
      go_wp2_with fail
      clear hw1 hw2 HL1
      refine (draw_any wr B R (p + 2 + i) ((n : Int) - 1) HR.out HB1'.out.1 HB1'.out.2.1 HB1'.out.2.2).mono ?_
      rintro e w4 ⟨v, rfl, hv', hR4, hA4⟩
      have hv := hv' (by omega)
      clear hv'
      have HR4 := Lib.hid hR4
      have HB4 := Lib.hid (HB.out.trans (hA4.below (m := W0.heap.size) hWR HB.out.size))
      have HO4 := Lib.hid (aside_ints HO.out hA4 (by omega))
      have hz4 := hA4.size
      clear hR4 hA4
      have HF := Lib.hid (one_fit v (by omega))
      have HK := Lib.hid (fit_one i (by omega))
      have HV : Hid (0 ≤ ((v + 1 : Nat) : Int) ∧ ((v + 1 : Nat) : Int) < (n : Int)) := Lib.hid ⟨by omega, by omega⟩
      have hzh : R + 1 ≤ w4.heap.size := by omega
      have HYz : Hid (ys.length ≤ 100000 ∧ W0.heap.size ≤ R + 1) := Lib.hid ⟨by rw [HYl.out]; omega, by omega⟩
      clear hv
      generalize v + 1 = z at *
      have f1 := HF.out.1
      have f2 := HF.out.2
      have hwk := HK.out.1
      go_wp2_with (at_builtin; refine wpList_append_ints rfl _ _ rfl u5 ys (z : Int) w4 (R + 1) rfl rfl HO4.out HYz.out.1 hzh (fun v' w9 hO9 hkeep hbelow => ?_); have HO9 := Lib.hid hO9; have HB9 := Lib.hid (hbelow W0.heap.size W0 HYz.out.2 HB4.out); have HA9 := Lib.hid (hbelow (R + 1) w4 (Nat.le_refl _) (Below.refl _ _)); clear hO9 hkeep hbelow)
      clear f1 f2 hwk HF HK
      go_roundw
      case rel => exact ⟨i + 1, ys ++ [(z : Int)], by omega, by go_num, by rw [List.length_append, HYl.out]; rfl, HO9, Lib.hid (HR4.out.under HA9.out (Nat.lt_succ_self R)), HB9, by have := HA9.out.size; omega, Lib.hid (fun j hj => by
          rw [getD_snoc9, HYl.out]
          by_cases e : j < i
          · rw [if_pos e]; exact HE.out j e
          · rw [if_neg e, if_pos (by omega)]; exact HV.out)⟩
      case measure => simp [intOf]; omega
    · obtain rfl : i = k := by omega
      obtain ⟨A, cap, hsv⟩ := ints_slice HO.out
      subst hsv
      clear hlt
      go_wp2_with fail
      refine (draw_any wr B R (p + 2 + i) 40 HR.out (by omega) (by omega) (by omega)).mono ?_
      rintro e w4 ⟨c, rfl, hc, hR4, hA4⟩
      have HR4 := Lib.hid hR4
      have HB4 := Lib.hid (HB.out.trans (hA4.below (m := W0.heap.size) hWR HB.out.size))
      have HO4 := Lib.hid (aside_ints HO.out hA4 (by omega))
      have hz4 := hA4.size
      clear hR4 hA4 hc
      by_cases hc0 : c = 0
      · have k0 : ((c : Int) == 0) = true := by rw [hc0]; rfl
        obtain ⟨g, hg⟩ : ∃ g, A = some ⟨g, 0, none⟩ := by
          rcases HO4.out.shape with ⟨e1, e2⟩ | ⟨g, cap2, e1, _⟩
          · rw [e2] at hyl; simp at hyl; omega
          · injection e1 with e1; exact ⟨g, e1⟩
        subst hg
        have c0 := HO4.out.cell (i := 0) (by omega)
        have f0 : w4.frozen? ⟨g, 0, none⟩ = false := World.ownsRow.frozenAt HO4.out 0
        have HO5 := Lib.hid (HO4.out.set 0 0)
        have hgR : R + 1 ≤ g := (World.ownsRow.lt HO4.out g rfl).1
        have HB5 := Lib.hid (HB4.out.setCell (p := ⟨g, 0, none⟩) (by show W0.heap.size ≤ g; omega) (.int .i64 0))
        have HA5 := Lib.hid ((Below.refl (R + 1) w4).setCell (p := ⟨g, 0, none⟩) hgR (.int .i64 0))
        have hyp : 0 < ys.length := by omega
        have HYl := Lib.hid hyl
        generalize ys.getD 0 0 = z0 at c0
        clear hc0 hyl
        go_wp2
        go_ret2
        refine ⟨n, _, ys.set 0 0, p + 2 + i + 1, rfl, hn1, hn2, by rw [List.length_set]; omega, by rw [List.length_set, HYl.out]; omega, by omega, HR4.out.under HA5.out (Nat.lt_succ_self R), HB5.out, by have h := HO5.out; rw [List.length_set] at h; exact h, fun j hj => ?_⟩
        rw [List.length_set, HYl.out] at hj
        rw [getD_set9]
        split
        · omega
        · exact HE.out j hj
      · have k0 : ((c : Int) == 0) = false := by rw [beq_eq_false_iff_ne]; omega
        clear hc0
        go_wp2
        go_ret2
        exact ⟨n, _, ys, p + 2 + i + 1, rfl, hn1, hn2, by omega, by omega, by omega, HR4.out, HB4.out, by have h := HO4.out; rw [hyl] at h; exact h, fun j hj => HE.out j (by omega)⟩
end Go.Proofs.YtnlalccnhpblkaaGreat
