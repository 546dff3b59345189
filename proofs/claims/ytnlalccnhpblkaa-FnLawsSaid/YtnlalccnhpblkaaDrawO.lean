/- Drawing for chapter 10: letters and texts. Written by gen117.py. -/
import Derived.Test.YtnlalccnhpblkaaDrawX
import Derived.Test.YtnlalccnhpblkaaDrawG
import Derived.Test.YtnlalccnhpblkaaDrawS
import Derived.Test.YtnlalccnhpblkaaDrawL
import Derived.Test.YtnlalccnhpblkaaWrdN
import Derived.Test.YtnlalccnhpblkaaGD
namespace Go.Proofs.Ytnlalccnhpblkaa
open Go.RowKit Go.Shelf
set_option linter.unusedVariables false
attribute [local go_sem] Oper.semAt_some
/-- A ring and a list of letters. -/
theorem getD_snoc9 (l : List Int) (z : Int) (i : Nat) : (l ++ [z]).getD i 0 = if i < l.length then l.getD i 0 else if i = l.length then z else 0 := by
  rw [List.getD_eq_getElem?_getD, List.getD_eq_getElem?_getD]
  by_cases h : i < l.length
  · rw [if_pos h, List.getElem?_append_left h]
  · rw [if_neg h, List.getElem?_append_right (by omega)]
    by_cases e : i = l.length
    · subst e; rw [if_pos rfl, Nat.sub_self]; rfl
    · rw [if_neg e, List.getElem?_eq_none (by simp; omega)]; rfl
theorem getD_set9 (l : List Int) (i : Nat) (z : Int) (j : Nat) : (l.set i z).getD j 0 = if i = j ∧ j < l.length then z else l.getD j 0 := by
  rw [List.getD_eq_getElem?_getD, List.getD_eq_getElem?_getD, List.getElem?_set]
  by_cases e : i = j
  · subst e
    by_cases h : i < l.length
    · simp [h]
    · simp [h]
  · simp [e]
def LetDrawn (W0 : World) (B R p : Nat) (e : Ending) (w' : World) : Prop :=
  ∃ (n : Nat) (lv : Value) (xs : List Int) (q : Nat), e = .returned (.tuple #[.int .i64 (n : Int), lv]) ∧ 2 ≤ n ∧ n ≤ 12 ∧ 1 ≤ xs.length ∧ xs.length ≤ 3 ∧ q ≤ p + 6 ∧ Reader w' B R q ∧ Below W0.heap.size W0 w' ∧ IsInts w' (R + 1) lv xs ∧ ∀ i, i < xs.length → 0 ≤ xs.getD i 0 ∧ xs.getD i 0 < (n : Int)
theorem two_fit9 (v : Nat) (h : v ≤ 100000) : IntKind.i64.wrap (2 + (v : Int)) = ((v + 2 : Nat) : Int) ∧ wrap64 (2 + (v : Int)) = ((v + 2 : Nat) : Int) := ⟨by rw [IntWalk.i64_in _ (by omega)]; omega, by rw [IntWalk.wrap64_in _ (by omega)]; omega⟩
theorem less_fit (n : Nat) (h : n ≤ 100000) : IntKind.i64.wrap ((n : Int) - 1) = (n : Int) - 1 ∧ wrap64 ((n : Int) - 1) = (n : Int) - 1 := ⟨IntWalk.i64_in _ ⟨by omega, by omega⟩, IntWalk.wrap64_in _ (by omega)⟩
theorem Aside.belowAll {R : Nat} {W W' : World} (h : Below W.heap.size W W') : Aside R W W' := ⟨h.os, h.tape, h.output, h.size, fun k hk _ => h.block k hk⟩
set_option maxHeartbeats 4000000 in
theorem l92Letters_any (W0 W : World) (B R p : Nat) (hWR : W0.heap.size ≤ R) (hBd : Below W0.heap.size W0 W) (hRd : Reader W B R p) (hp : p ≤ 100) :
    Calls Try.prog 35 #[.pointer (some ⟨R, 0, none⟩)] W (LetDrawn W0 B R p) := by
  have HRd := Lib.hid hRd
  have HBd := Lib.hid hBd
  clear hRd hBd
  go_enter Try.func35, Try.ntmps35
  go_wp2_with fail
  refine (draw_any W B R p 11 HRd.out (by omega) (by omega) (by omega)).mono ?_
  rintro e w1 ⟨v0, rfl, hv0', hR1, hA1⟩
  have hv0 := hv0' (by omega)
  clear hv0'
  have hRl : R < w1.heap.size := hR1.lt
  have HR1 := Lib.hid (hR1.under ((Below.refl _ w1).alloc (Nat.le_refl _) (.cells #[] 3)) hR1.lt)
  have HB1 := Lib.hid ((HBd.out.trans (hA1.below (m := W0.heap.size) hWR HBd.out.size)).alloc (HBd.out.trans (hA1.below (m := W0.heap.size) hWR HBd.out.size)).size (.cells #[] 3))
  have HO1 := Lib.hid (IsInts.base (b' := R + 1) (nil_made w1 w1.heap.size (Nat.le_refl _)) hRl)
  clear hR1 hA1
  have HF := Lib.hid (two_fit9 v0 (by omega))
  have hn1 : 2 ≤ v0 + 2 := by omega
  have hn2 : v0 + 2 ≤ 12 := by omega
  clear hv0
  generalize v0 + 2 = n at *
  have f1 := HF.out.1
  have f2 := HF.out.2
  go_wp2_with fail
  clear f1 f2 HF
  obtain ⟨w2, hw2⟩ : ∃ w2, w1.alloc (.cells #[] 3) = w2 := ⟨_, rfl⟩
  rw [hw2] at HR1 HB1 HO1 ⊢
  have hz2 : R + 1 ≤ w2.heap.size := by rw [← hw2]; simp; omega
  clear hw2
  generalize w1.heap.size = h9 at *
  refine (draw_any w2 B R (p + 1) 3 HR1.out (by omega) (by omega) (by omega)).mono ?_
  rintro e w3 ⟨k0, rfl, hk0', hR3, hA3⟩
  have hk0 := hk0' (by omega)
  clear hk0'
  have HR3 := Lib.hid hR3
  have HB3 := Lib.hid (HB1.out.trans (hA3.below (m := W0.heap.size) hWR HB1.out.size))
  have HO3 := Lib.hid (aside_ints HO1.out hA3 (by omega))
  have hz3 := hA3.size
  clear hR3 hA3
  have HF := Lib.hid (one_fit k0 (by omega))
  have hk1 : 1 ≤ k0 + 1 := by omega
  have hk2 : k0 + 1 ≤ 3 := by omega
  clear hk0
  generalize k0 + 1 = k at *
  have g1 := HF.out.1
  have g2 := HF.out.2
  go_wp2
  clear g1 g2 HF
  go_loopw [5, 7] (fun a u wr => ∃ (i : Nat) (ys : List Int), i ≤ k ∧ u = .int .i64 (i : Int) ∧ ys.length = i ∧ Hid (IsInts wr (R + 1) a ys) ∧ Hid (Reader wr B R (p + 2 + i)) ∧ Hid (Below W0.heap.size W0 wr) ∧ R + 1 ≤ wr.heap.size ∧ Hid (∀ j, j < i → 0 ≤ ys.getD j 0 ∧ ys.getD j 0 < (n : Int))) (fun _ u _ => k - (intOf u).toNat)
  case atStart => exact ⟨0, [], Nat.zero_le _, rfl, rfl, HO3, HR3, HB3, by omega, Lib.hid (fun j hj => absurd hj (Nat.not_lt_zero _))⟩
  case round =>
    obtain ⟨i, ys, hi, rfl, hyl, HO, HR, HB, hzr, HE⟩ := hrel
    by_cases hlt : i < k
    · have HYl := Lib.hid hyl
      have HL1 := Lib.hid (less_fit n (by omega))
      have HB1' : Hid (p + 2 + i ≤ 1000 ∧ (n : Int) - 1 ≤ 1000000 ∧ -1000000 ≤ (n : Int) - 1) := Lib.hid ⟨by omega, by omega, by omega⟩
      have hw1 := HL1.out.1
      have hw2 := HL1.out.2
      clear hyl
      go_wp2_with fail
      clear hw1 hw2 HL1
      refine (draw_any wr B R (p + 2 + i) ((n : Int) - 1) HR.out HB1'.out.1 HB1'.out.2.1 HB1'.out.2.2).mono ?_
      rintro e w4 ⟨v, rfl, hv', hR4, hA4⟩
      have hv := hv' (by omega)
      clear hv'
      have HR4 := Lib.hid hR4
      have HB4 := Lib.hid (HB.out.trans (hA4.below (m := W0.heap.size) hWR HB.out.size))
      have HO4 := Lib.hid (aside_ints HO.out hA4 (by omega))
      have hz4 := hA4.size
      clear hR4 hA4
      have HF := Lib.hid (one_fit v (by omega))
      have HK := Lib.hid (fit_one i (by omega))
      have HV : Hid (0 ≤ ((v + 1 : Nat) : Int) ∧ ((v + 1 : Nat) : Int) < (n : Int)) := Lib.hid ⟨by omega, by omega⟩
      have hzh : R + 1 ≤ w4.heap.size := by omega
      have HYz : Hid (ys.length ≤ 100000 ∧ W0.heap.size ≤ R + 1) := Lib.hid ⟨by rw [HYl.out]; omega, by omega⟩
      clear hv
      generalize v + 1 = z at *
      have f1 := HF.out.1
      have f2 := HF.out.2
      have hwk := HK.out.1
      go_wp2_with (at_builtin; refine wpList_append_ints rfl _ _ rfl u5 ys (z : Int) w4 (R + 1) rfl rfl HO4.out HYz.out.1 hzh (fun v' w9 hO9 hkeep hbelow => ?_); have HO9 := Lib.hid hO9; have HB9 := Lib.hid (hbelow W0.heap.size W0 HYz.out.2 HB4.out); have HA9 := Lib.hid (hbelow (R + 1) w4 (Nat.le_refl _) (Below.refl _ _)); clear hO9 hkeep hbelow)
      clear f1 f2 hwk HF HK
      go_roundw
      case rel => exact ⟨i + 1, ys ++ [(z : Int)], by omega, by go_num, by rw [List.length_append, HYl.out]; rfl, HO9, Lib.hid (HR4.out.under HA9.out (Nat.lt_succ_self R)), HB9, by have := HA9.out.size; omega, Lib.hid (fun j hj => by
          rw [getD_snoc9, HYl.out]
          by_cases e : j < i
          · rw [if_pos e]; exact HE.out j e
          · rw [if_neg e, if_pos (by omega)]; exact HV.out)⟩
      case measure => simp [intOf]; omega
    · obtain rfl : i = k := by omega
      obtain ⟨A, cap, hsv⟩ := ints_slice HO.out
      subst hsv
      clear hlt
      go_wp2_with fail
      refine (draw_any wr B R (p + 2 + i) 40 HR.out (by omega) (by omega) (by omega)).mono ?_
      rintro e w4 ⟨c, rfl, hc, hR4, hA4⟩
      have HR4 := Lib.hid hR4
      have HB4 := Lib.hid (HB.out.trans (hA4.below (m := W0.heap.size) hWR HB.out.size))
      have HO4 := Lib.hid (aside_ints HO.out hA4 (by omega))
      have hz4 := hA4.size
      clear hR4 hA4 hc
      by_cases hc0 : c = 0
      · have k0 : ((c : Int) == 0) = true := by rw [hc0]; rfl
        obtain ⟨g, hg⟩ : ∃ g, A = some ⟨g, 0, none⟩ := by
          rcases HO4.out.shape with ⟨e1, e2⟩ | ⟨g, cap2, e1, _⟩
          · rw [e2] at hyl; simp at hyl; omega
          · injection e1 with e1; exact ⟨g, e1⟩
        subst hg
        have c0 := HO4.out.cell (i := 0) (by omega)
        have f0 : w4.frozen? ⟨g, 0, none⟩ = false := World.ownsRow.frozenAt HO4.out 0
        have HO5 := Lib.hid (HO4.out.set 0 0)
        have hgR : R + 1 ≤ g := (World.ownsRow.lt HO4.out g rfl).1
        have HB5 := Lib.hid (HB4.out.setCell (p := ⟨g, 0, none⟩) (by show W0.heap.size ≤ g; omega) (.int .i64 0))
        have HA5 := Lib.hid ((Below.refl (R + 1) w4).setCell (p := ⟨g, 0, none⟩) hgR (.int .i64 0))
        have hyp : 0 < ys.length := by omega
        have HYl := Lib.hid hyl
        generalize ys.getD 0 0 = z0 at c0
        clear hc0 hyl
        go_wp2
        go_ret2
        refine ⟨n, _, ys.set 0 0, p + 2 + i + 1, rfl, hn1, hn2, by rw [List.length_set]; omega, by rw [List.length_set, HYl.out]; omega, by omega, HR4.out.under HA5.out (Nat.lt_succ_self R), HB5.out, by have h := HO5.out; rw [List.length_set] at h; exact h, fun j hj => ?_⟩
        rw [List.length_set, HYl.out] at hj
        rw [getD_set9]
        split
        · omega
        · exact HE.out j hj
      · have k0 : ((c : Int) == 0) = false := by rw [beq_eq_false_iff_ne]; omega
        clear hc0
        go_wp2
        go_ret2
        exact ⟨n, _, ys, p + 2 + i + 1, rfl, hn1, hn2, by omega, by omega, by omega, HR4.out, HB4.out, by have h := HO4.out; rw [hyl] at h; exact h, fun j hj => HE.out j (by omega)⟩
set_option maxHeartbeats 1000000 in
theorem of_any (W : World) (B R p g m c : Nat) (hRd : Reader W B R p) (hp : p ≤ 900) (hm1 : 1 ≤ m) (hm : m ≤ 4) (hc : ∀ i, i < m → ∃ s : ByteArray, W.cell? ⟨g, i, none⟩ = some (.string s) ∧ s.size ≤ 1) (hne : g ≠ R) :
    Calls Try.prog 56 #[.pointer (some ⟨R, 0, none⟩), .slice (some ⟨g, 0, none⟩) m c] W fun e w' => ∃ s : ByteArray, e = .returned (.string s) ∧ s.size ≤ 1 ∧ Reader w' B R (p + 1) ∧ Aside R W w' := by
  have HC := Lib.hid hc
  clear hc
  go_enter Try.func56, Try.ntmps56
  go_wp2_with fail
  refine (draw_any W B R p (m : Int) hRd (by omega) (by omega) (by omega)).mono ?_
  rintro e w1 ⟨v, rfl, hv', hR1, hA1⟩
  have hv := hv' (by omega)
  clear hv'
  obtain ⟨s, hs, hz⟩ := HC.out v (by omega)
  have c1 := hA1.kept_cell hs hne
  have i1 : (0 : Int) ≤ (v : Int) := by omega
  have HR1 := Lib.hid hR1
  have HA1 := Lib.hid hA1
  clear hR1 hA1 hs hRd
  go_wp2
  go_ret
  exact ⟨s, rfl, hz, HR1.out, HA1.out⟩
theorem sub_size (s : ByteArray) (i j : Nat) (h : j ≤ i + 1) : (s.extract i j).size ≤ 1 := by
  rw [ByteArray.size_extract]; omega
theorem cell_of3 (W : World) (a b c : ByteArray) (ha : a.size ≤ 1) (hb : b.size ≤ 1) (hc : c.size ≤ 1) : ∀ i, i < 3 → ∃ s : ByteArray, (W.alloc (.cells #[.string a, .string b, .string c] 9)).cell? ⟨W.heap.size, i, none⟩ = some (.string s) ∧ s.size ≤ 1 := fun i hi => by
  match i, hi with
  | 0, _ => exact ⟨a, by simp, ha⟩
  | 1, _ => exact ⟨b, by simp, hb⟩
  | 2, _ => exact ⟨c, by simp, hc⟩
theorem cell_of4 (W : World) (a b c d : ByteArray) (ha : a.size ≤ 1) (hb : b.size ≤ 1) (hc : c.size ≤ 1) (hd : d.size ≤ 1) : ∀ i, i < 4 → ∃ s : ByteArray, (W.alloc (.cells #[.string a, .string b, .string c, .string d] 9)).cell? ⟨W.heap.size, i, none⟩ = some (.string s) ∧ s.size ≤ 1 := fun i hi => by
  match i, hi with
  | 0, _ => exact ⟨a, by simp, ha⟩
  | 1, _ => exact ⟨b, by simp, hb⟩
  | 2, _ => exact ⟨c, by simp, hc⟩
  | 3, _ => exact ⟨d, by simp, hd⟩
/-- A text. -/
def TextDrawn (W : World) (B R p : Nat) (e : Ending) (w' : World) : Prop :=
  ∃ (s : ByteArray) (q : Nat), e = .returned (.string s) ∧ s.size ≤ 9 ∧ q ≤ p + 19 ∧ Reader w' B R q ∧ Aside R W w'
theorem reader_alloc {W : World} {B R p : Nat} (h : Reader W B R p) (o : Obj) : Reader (W.alloc o) B R p := h.under ((Below.refl _ W).alloc (Nat.le_refl _) o) h.lt
theorem aside_alloc {R : Nat} {W W' : World} (h : Aside R W W') (o : Obj) : Aside R W (W'.alloc o) := h.trans (Aside.belowAll ((Below.refl _ W').alloc (Nat.le_refl _) o))
theorem aside_drew9 {R : Nat} {W W' : World} (h : Aside R W W') : Aside R W W'.drew := ⟨h.os, h.tape, h.output, h.size, h.block⟩
set_option maxHeartbeats 4000000 in
theorem l92Text_any (W : World) (B R p m : Nat) (hRd : Reader W B R p) (hp : p ≤ 500) (hm1 : 1 ≤ m) (hm : m ≤ 3) :
    Calls Try.prog 36 #[.pointer (some ⟨R, 0, none⟩), .int .i64 (m : Int)] W (TextDrawn W B R p) := by
  have hmx : Try.prog.follows .mixedOrders = true := by kernel_rfl
  have HRd := Lib.hid hRd
  clear hRd
  go_enter Try.func36, Try.ntmps36
  go_wp2_with fail
  refine (draw_any W B R p 9 HRd.out (by omega) (by omega) (by omega)).mono ?_
  rintro e w1 ⟨k, rfl, hk', hR1, hA1⟩
  have hk := hk' (by omega)
  clear hk'
  have HR1 := Lib.hid hR1
  have HA1 := Lib.hid hA1
  clear hR1 hA1
  go_wp2
  go_loopw [5, 7, 8] (fun a u v8 wr => ∃ (i : Nat) (s : ByteArray), i ≤ k ∧ u = .int .i64 (i : Int) ∧ a = .string s ∧ s.size ≤ i ∧ Hid (Reader wr B R (p + 1 + 2 * i)) ∧ Hid (Aside R W wr)) (fun _ u _ _ => k - (intOf u).toNat)
  case atStart => exact ⟨0, ⟨#[]⟩, Nat.zero_le _, rfl, rfl, Nat.le_refl _, HR1, HA1⟩
  case round =>
    obtain ⟨i, s, hi, rfl, rfl, hs, HR, HA⟩ := hrel
    by_cases hlt : i < k
    · have HK := Lib.hid (fit_one i (by omega))
      go_wp2_with fail
      refine (draw_any wr B R (p + 1 + 2 * i) (m : Int) HR.out (by omega) (by omega) (by omega)).mono ?_
      rintro e w2 ⟨j, rfl, hj', hR2, hA2⟩
      have hj := hj' (by omega)
      clear hj'
      have HR2 := Lib.hid hR2
      have HA2 := Lib.hid (HA.out.trans hA2)
      clear hR2 hA2
      have hj3 : j < 3 := by omega
      have HJ := Lib.hid (fit_one j (by omega))
      have k0 : (0 : Int) ≤ (j : Int) := by omega
      have k1 : (j : Int) ≤ (j : Int) + 1 := by omega
      have k2 : (j : Int) + 1 ≤ 3 := by omega
      have f1 := HJ.out.1
      go_wp2
      have hR3 : Reader w2.drew B R (p + 1 + 2 * i + 1) := HR2.out.drew
      have hA3 : Aside R W w2.drew := aside_drew9 HA2.out
      have hA0 : True := trivial
      refine wp_region_held_drew (S := fun W9 => True) hmx hA0 (fun _ => ?_)
      generalize w2.drew = W4 at *
      refine take1 0 (v := ?_) rfl (by kernel_rfl) (by kernel_rfl) (by kernel_rfl) (fun _ _ _ h => h) (by rfl) ?_ hA0 ?_
      rotate_left
      · intro W9 hA
        clear hA
        go_simp
        try with_reducible rfl
      try simp only [Act.put, List.setIfInBounds_toArray, List.set_cons_zero, List.set_cons_succ]
      refine take1 1 (v := ?_) rfl (by kernel_rfl) (by kernel_rfl) (by kernel_rfl) (fun _ _ _ h => h) (by rfl) ?_ hA0 ?_
      rotate_left
      · intro W9 hA
        clear hA
        go_simp
        try with_reducible rfl
      try simp only [Act.put, List.setIfInBounds_toArray, List.set_cons_zero, List.set_cons_succ]
      refine take1 2 (v := ?_) rfl (by kernel_rfl) (by kernel_rfl) (by kernel_rfl) (fun _ _ _ h => h) (by rfl) ?_ hA0 ?_
      rotate_left
      · intro W9 hA
        clear hA
        go_simp
        try with_reducible rfl
      try simp only [Act.put, List.setIfInBounds_toArray, List.set_cons_zero, List.set_cons_succ]
      refine take1 3 (v := ?_) rfl (by kernel_rfl) (by kernel_rfl) (by kernel_rfl) (fun _ _ _ h => h) (by rfl) ?_ hA0 ?_
      rotate_left
      · intro W9 hA
        clear hA
        go_simp
        try with_reducible rfl
      try simp only [Act.put, List.setIfInBounds_toArray, List.set_cons_zero, List.set_cons_succ]
      refine take1 4 (v := ?_) rfl (by kernel_rfl) (by kernel_rfl) (by kernel_rfl) (fun _ _ _ h => h) (by rfl) ?_ hA0 ?_
      rotate_left
      · intro W9 hA
        clear hA
        go_simp
        try with_reducible rfl
      try simp only [Act.put, List.setIfInBounds_toArray, List.set_cons_zero, List.set_cons_succ]
      refine take1 5 (v := ?_) rfl (by kernel_rfl) (by kernel_rfl) (by kernel_rfl) (fun _ _ _ h => h) (by rfl) ?_ hA0 ?_
      rotate_left
      · intro W9 hA
        clear hA
        go_simp
        try with_reducible rfl
      try simp only [Act.put, List.setIfInBounds_toArray, List.set_cons_zero, List.set_cons_succ]
      refine take1 6 (v := ?_) rfl (by kernel_rfl) (by kernel_rfl) (by kernel_rfl) (fun _ _ _ h => h) (by rfl) ?_ hA0 ?_
      rotate_left
      · intro W9 hA
        clear hA
        go_simp
        try with_reducible rfl
      try simp only [Act.put, List.setIfInBounds_toArray, List.set_cons_zero, List.set_cons_succ]
      refine take1 7 (v := ?_) rfl (by kernel_rfl) (by kernel_rfl) (by kernel_rfl) (fun _ _ _ h => h) (by rfl) ?_ hA0 ?_
      rotate_left
      · intro W9 hA
        clear hA
        go_simp
        try with_reducible rfl
      try simp only [Act.put, List.setIfInBounds_toArray, List.set_cons_zero, List.set_cons_succ]
      refine take1 8 (v := ?_) rfl (by kernel_rfl) (by kernel_rfl) (by kernel_rfl) (fun _ _ _ h => h) (by rfl) ?_ hA0 ?_
      rotate_left
      · intro W9 hA
        clear hA
        go_simp
        try with_reducible rfl
      try simp only [Act.put, List.setIfInBounds_toArray, List.set_cons_zero, List.set_cons_succ]
      refine take1 9 (v := ?_) rfl (by kernel_rfl) (by kernel_rfl) (by kernel_rfl) (fun _ _ _ h => h) (by rfl) ?_ hA0 ?_
      rotate_left
      · intro W9 hA
        clear hA
        go_simp
        try with_reducible rfl
      try simp only [Act.put, List.setIfInBounds_toArray, List.set_cons_zero, List.set_cons_succ]
      refine take1 10 (v := ?_) rfl (by kernel_rfl) (by kernel_rfl) (by kernel_rfl) (fun _ _ _ h => h) (by rfl) ?_ hA0 ?_
      rotate_left
      · intro W9 hA
        clear hA
        go_simp
        try with_reducible rfl
      try simp only [Act.put, List.setIfInBounds_toArray, List.set_cons_zero, List.set_cons_succ]
      refine take1 11 (v := ?_) rfl (by kernel_rfl) (by kernel_rfl) (by kernel_rfl) (fun _ _ _ h => h) (by rfl) ?_ hA0 ?_
      rotate_left
      · intro W9 hA
        clear hA
        go_simp
        try with_reducible rfl
      try simp only [Act.put, List.setIfInBounds_toArray, List.set_cons_zero, List.set_cons_succ]
      refine take1 12 (v := ?_) rfl (by kernel_rfl) (by kernel_rfl) (by kernel_rfl) (fun _ _ _ h => h) (by rfl) ?_ hA0 ?_
      rotate_left
      · intro W9 hA
        clear hA
        go_simp
        try with_reducible rfl
      try simp only [Act.put, List.setIfInBounds_toArray, List.set_cons_zero, List.set_cons_succ]
      refine take1 13 (v := ?_) rfl (by kernel_rfl) (by kernel_rfl) (by kernel_rfl) (fun _ _ _ h => h) (by rfl) ?_ hA0 ?_
      rotate_left
      · intro W9 hA
        clear hA
        go_simp
        try with_reducible rfl
      try simp only [Act.put, List.setIfInBounds_toArray, List.set_cons_zero, List.set_cons_succ]
      obtain ⟨x1, hx1⟩ : ∃ x1, (⟨#[97, 98, 99]⟩ : ByteArray).extract j (j + 1) = x1 := ⟨_, rfl⟩
      obtain ⟨x2, hx2⟩ : ∃ x2, (⟨#[65, 66, 67]⟩ : ByteArray).extract j (j + 1) = x2 := ⟨_, rfl⟩
      have z1 : x1.size ≤ 1 := by rw [← hx1]; exact sub_size _ _ _ (Nat.le_refl _)
      have z2 : x2.size ≤ 1 := by rw [← hx2]; exact sub_size _ _ _ (Nat.le_refl _)
      simp only [hx1, hx2]
      clear hx1 hx2
      have hRl := hR3.lt
      have HOf := Lib.hid (of_any _ B R (p + 1 + 2 * i + 1) W4.heap.size 3 3 (reader_alloc hR3 (.cells #[.string x1, .string x2, .string x1] 9)) (by omega) (by omega) (by omega) (cell_of3 W4 x1 x2 x1 z1 z2 z1) (by omega))
      have HA4 := Lib.hid (aside_alloc hA3 (.cells #[.string x1, .string x2, .string x1] 9))
      have HSi := Lib.hid (⟨hs, hi, hlt⟩ : s.size ≤ i ∧ i ≤ k ∧ i < k)
      clear hR3 hA3 z1 z2 f1 k0 k1 k2
      refine step1 14 (by kernel_rfl) rfl (fun K hK => ?_)
      go_simp
      refine hK.out _ _ hA0 ?_
      clear hK K
      try simp only [Act.put, List.setIfInBounds_toArray, List.set_cons_zero, List.set_cons_succ]
      refine step1 15 (by kernel_rfl) rfl (fun K hK => ?_)
      go_simp
      refine HOf.out.mono ?_
      rintro e W6 ⟨x, rfl, hxz, hR6, hA6⟩
      have HR6 := Lib.hid hR6
      have HA6 := Lib.hid (HA4.out.trans hA6)
      have hcat : s.size + x.size ≤ 9223372036854775807 := by have := HSi.out.1; have := HSi.out.2.1; omega
      have hcat2 : ¬ 9223372036854775807 < s.size + x.size := by omega
      have HX6 := Lib.hid (show (s ++ x).size ≤ i + 1 by rw [size_append]; have := HSi.out.1; omega)
      go_wp2_with fail
      refine hK.out _ _ hA0 ?_
      clear hK K hR6 hA6 hRl
      try simp only [Act.put, List.setIfInBounds_toArray, List.set_cons_zero, List.set_cons_succ]
      refine take1 16 (v := ?_) rfl (by kernel_rfl) (by kernel_rfl) (by kernel_rfl) (fun _ _ _ h => h) (by rfl) ?_ hA0 ?_
      rotate_left
      · intro W9 hA
        clear hA
        go_simp
        try with_reducible rfl
      try simp only [Act.put, List.setIfInBounds_toArray, List.set_cons_zero, List.set_cons_succ]
      refine take1 17 (v := ?_) rfl (by kernel_rfl) (by kernel_rfl) (by kernel_rfl) (fun _ _ _ h => h) (by rfl) ?_ hA0 ?_
      rotate_left
      · intro W9 hA
        clear hA
        go_simp
        try with_reducible rfl
      try simp only [Act.put, List.setIfInBounds_toArray, List.set_cons_zero, List.set_cons_succ]
      refine stop1 (by kernel_rfl) ?_
      have hwk := HK.out.1
      clear hcat hcat2 hs
      go_wp2
      go_roundw
      case rel => exact ⟨i + 1, s ++ x, HSi.out.2.2, by go_num, rfl, HX6.out, HR6.out, HA6.out⟩
      case measure => simp [intOf]; omega
    · obtain rfl : i = k := by omega
      have HS := Lib.hid hs
      clear hs hlt
      go_wp2_with fail
      refine (draw_any wr B R (p + 1 + 2 * i) 30 HR.out (by omega) (by omega) (by omega)).mono ?_
      rintro e w2 ⟨c, rfl, hc, hR2, hA2⟩
      have HA2 := Lib.hid (HA.out.trans hA2)
      have HR2 := Lib.hid hR2
      clear hA2 hR2 hc
      have hk9 : i ≤ 8 := by omega
      by_cases hc0 : c = 0
      · have k0 : ((c : Int) == 0) = true := by rw [hc0]; rfl
        have hRl := HR2.out.lt
        have HOf := Lib.hid (of_any _ B R (p + 1 + 2 * i + 1) w2.heap.size 4 4 (reader_alloc HR2.out (.cells #[.string ⟨#[100]⟩, .string ⟨#[68]⟩, .string ⟨#[32]⟩, .string ⟨#[99]⟩] 9)) (by omega) (by omega) (by omega) (cell_of4 w2 ⟨#[100]⟩ ⟨#[68]⟩ ⟨#[32]⟩ ⟨#[99]⟩ (by decide) (by decide) (by decide) (by decide)) (by omega))
        have HA4 := Lib.hid (aside_alloc HA2.out (.cells #[.string ⟨#[100]⟩, .string ⟨#[68]⟩, .string ⟨#[32]⟩, .string ⟨#[99]⟩] 9))
        clear hc0 hRl
        go_wp2_with fail
        refine HOf.out.mono ?_
        rintro e w4 ⟨x, rfl, hxz, hR4, hA4⟩
        have HR4 := Lib.hid hR4
        have HA5 := Lib.hid (HA4.out.trans hA4)
        have hcat : s.size + x.size ≤ 9223372036854775807 := by have := HS.out; omega
        have HX := Lib.hid (show (s ++ x).size ≤ 9 by rw [size_append]; have := HS.out; omega)
        clear hR4 hA4
        go_wp2
        go_ret
        exact ⟨s ++ x, p + 1 + 2 * i + 1 + 1, rfl, HX.out, by omega, HR4.out, HA5.out⟩
      · have k0 : ((c : Int) == 0) = false := by rw [beq_eq_false_iff_ne]; omega
        clear hc0
        go_wp2
        go_ret
        exact ⟨s, p + 1 + 2 * i + 1, rfl, by have := HS.out; omega, by omega, HR2.out, HA2.out⟩
/-- A ring, letters and a text. -/
def WordDrawnT (W : World) (e : Ending) (w' : World) : Prop :=
  ∃ (n : Nat) (lv : Value) (xs : List Int) (s : ByteArray), e = .returned (.tuple #[.int .i64 (n : Int), lv, .string s]) ∧ 2 ≤ n ∧ n ≤ 12 ∧ 1 ≤ xs.length ∧ xs.length ≤ 3 ∧ s.size ≤ 9 ∧ Below W.heap.size W w' ∧ IsInts w' W.heap.size lv xs
set_option maxHeartbeats 1000000 in
theorem l92Word_any (W : World) (B len cap : Nat) (A : Option Addr) (f : Nat → Nat) (hC : Code W B A len f) (hB : B ≤ W.heap.size) (hlc : len ≤ cap) (hcap : cap ≤ 9223372036854775807) :
    Calls Try.prog 26 #[.slice A len cap] W (WordDrawnT W) := by
  have HO := Lib.hid (open_any W B len cap A f hC hB hlc hcap)
  clear hC
  go_enter Try.func26, Try.ntmps26
  go_wp2_with fail
  refine HO.out.mono ?_
  rintro e w1 ⟨R, A', len', cap', rfl, hR, hl, hRd, hCd, hb1⟩
  have hWR : W.heap.size ≤ R := hR
  have HL := Lib.hid (l92Letters_any W w1 B R 0 hWR hb1 ⟨⟨A', len', cap', f, hRd, hCd, hl⟩, by omega⟩ (by omega))
  clear hRd hCd hb1 hl HO
  go_wp2_with fail
  refine HL.out.mono ?_
  rintro e w2 ⟨n, lv, xs, q, rfl, hn1, hn2, hx1, hx3, hq, hR2, hB2, hI2, hE2⟩
  obtain ⟨A2, cap2, rfl⟩ := ints_slice hI2
  have HT := Lib.hid (l92Text_any w2 B R q xs.length hR2 (by omega) hx1 hx3)
  have HB2 := Lib.hid hB2
  have HI2 := Lib.hid hI2
  clear hR2 hB2 hI2 hE2 HL
  go_wp2_with fail
  refine HT.out.mono ?_
  rintro e w3 ⟨s, q3, rfl, hs, hq3, hR3, hA3⟩
  have HB3 := Lib.hid (HB2.out.trans (hA3.below (m := W.heap.size) hWR HB2.out.size))
  have HI3 := Lib.hid ((aside_ints HI2.out hA3 (Nat.lt_succ_self R)).base (b' := W.heap.size) (by omega))
  clear hR3 hA3
  go_wp2
  refine bodyPost_ret (v := .tuple #[.int .i64 (n : Int), .slice A2 xs.length cap2, .string s]) (by simp [results, Try.results26, go_sem]) rfl ?_
  exact ⟨n, _, xs, s, rfl, hn1, hn2, hx1, hx3, hs, HB3.out, HI3.out⟩
end Go.Proofs.Ytnlalccnhpblkaa
