/- Drawing for chapter 5: a list that is often a round. -/
import Derived.Test.YtfgolkbafnfblaaDrawT
import Derived.Test.YtfgolkbafnfblaaRndK
namespace Go.Proofs.Ytfgolkbafnfblaa
open Go.RowKit Go.Shelf
set_option linter.unusedVariables false
attribute [local go_sem] Oper.semAt_some
theorem RdAt.put {W : World} {R : Nat} {A : Option Addr} {len cap p : Nat} (h : RdAt W R A len cap p) (q : Nat) : RdAt (W.setCell ⟨R, 1, none⟩ (.int .i64 (q : Int))) R A len cap q := by
  unfold RdAt at h ⊢
  simp [World.setCell, Array.getElem?_modify, h]
theorem Reader.put {W : World} {B R p : Nat} (h : Reader W B R p) (q : Nat) : Reader (W.setCell ⟨R, 1, none⟩ (.int .i64 (q : Int))) B R q := by
  obtain ⟨⟨A, len, cap, f, h1, h2, h3⟩, hB⟩ := h
  refine ⟨⟨A, len, cap, f, h1.put q, ?_, h3⟩, hB⟩
  exact h2.aside ((Aside.refl R W).setAt 1 _) hB (by have := h1.lt; omega)
theorem Reader.under {W W' : World} {B R p h : Nat} (k : Reader W B R p) (hb : Below h W W') (hR : R < h) : Reader W' B R p := by
  obtain ⟨⟨A, len, cap, f, h1, h2, h3⟩, hB⟩ := k
  exact ⟨⟨A, len, cap, f, (hb.block R hR).trans h1, h2.below (hb.mono (by omega)), h3⟩, hB⟩
theorem aside_ints {W W' : World} {R h : Nat} {v : Value} {xs : List Int} (k : IsInts W h v xs) (ha : Aside R W W') (hR : R < h) : IsInts W' h v xs := by
  refine ⟨k.1, ?_⟩
  rcases k.2 with hn | ⟨g, cap, cur, rfl, h1, hgg, rest⟩
  · exact .inl hn
  · exact .inr ⟨g, cap, cur, rfl, h1, (ha.block g (Array.getElem?_eq_some_iff.1 hgg).1 (by omega)).trans hgg, rest⟩
/-- What a round of the drawing makes. -/
theorem draw_prod (v a n : Nat) (hv : v ≤ 8) (ha : a < 2) (hn : 1 ≤ n) : ∃ m r : Nat, r < n ∧ IntKind.i64.wrap (1 + (a : Int)) = 1 + (a : Int) ∧ wrap64 (1 + (a : Int)) = 1 + (a : Int) ∧ IntKind.i64.wrap ((v : Int) * (1 + (a : Int))) = (m : Int) ∧ wrap64 ((v : Int) * (1 + (a : Int))) = (m : Int) ∧ Int.tmod (m : Int) (n : Int) = (r : Int) := by
  have h : a = 0 ∨ a = 1 := by omega
  rcases h with rfl | rfl
  · refine ⟨v, v % n, Nat.mod_lt _ (by omega), IntWalk.i64_in _ ⟨by omega, by omega⟩, IntWalk.wrap64_in _ ⟨by omega, by omega⟩, ?_, ?_, rfl⟩
    · rw [show (v : Int) * (1 + ((0 : Nat) : Int)) = (v : Int) by simp]; exact IntWalk.i64_in _ ⟨by omega, by omega⟩
    · rw [show (v : Int) * (1 + ((0 : Nat) : Int)) = (v : Int) by simp]; exact IntWalk.wrap64_in _ ⟨by omega, by omega⟩
  · refine ⟨v * 2, (v * 2) % n, Nat.mod_lt _ (by omega), IntWalk.i64_in _ ⟨by omega, by omega⟩, IntWalk.wrap64_in _ ⟨by omega, by omega⟩, ?_, ?_, rfl⟩
    · rw [show (v : Int) * (1 + ((1 : Nat) : Int)) = ((v * 2 : Nat) : Int) by simp]; exact IntWalk.i64_in _ ⟨by omega, by omega⟩
    · rw [show (v : Int) * (1 + ((1 : Nat) : Int)) = ((v * 2 : Nat) : Int) by simp]; exact IntWalk.wrap64_in _ ⟨by omega, by omega⟩
/-- What a drawn list is: numbers of the ring. -/
def InRing (n : Nat) (xs : List Int) : Prop := xs.length ≤ 12 ∧ ∀ i, i < xs.length → 0 ≤ xs.getD i 0 ∧ xs.getD i 0 < (n : Int)
def RoundPost (W : World) (e : Ending) (w' : World) : Prop :=
  ∃ (n s : Nat) (sv : Value) (xs : List Int), e = .returned (.tuple #[.int .i64 (n : Int), .int .i64 (s : Int), sv]) ∧ 1 ≤ n ∧ n ≤ 8 ∧ s < 2 ^ n ∧ InRing n xs ∧ Below W.heap.size W w' ∧ IsInts w' W.heap.size sv xs
theorem inRing_round {n s : Nat} {xs : List Int} (h : IsRnd n s xs) (h12 : n ≤ 12) : InRing n xs := ⟨by rw [h.len]; exact h12, fun i hi => by rw [h.len] at hi; exact ⟨h.lo i hi, h.hi i hi⟩⟩
theorem inRing_snoc {n : Nat} {xs : List Int} {z : Int} (h : ∀ i, i < xs.length → 0 ≤ xs.getD i 0 ∧ xs.getD i 0 < (n : Int)) (h0 : 0 ≤ z) (hz : z < (n : Int)) : ∀ i, i < (xs ++ [z]).length → 0 ≤ (xs ++ [z]).getD i 0 ∧ (xs ++ [z]).getD i 0 < (n : Int) := fun i hi => by
  rw [List.length_append] at hi
  simp at hi
  by_cases e : i = xs.length
  · subst e; rw [getD_new]; exact ⟨h0, hz⟩
  · rw [getD_left xs _ i (by omega)]; exact h i (by omega)
theorem roundFirst_all (n s : Nat) (W : World) (h1 : 1 ≤ n) (h8 : n ≤ 8) (hs : s < 2 ^ n) :
    Calls Try.prog 30 #[.int .i64 (n:Int), .int .i64 (s:Int)] W fun e w' => ∃ xs b, ListRes W xs b e w' ∧ (b = true → InRing n xs) := by
  by_cases hno : NoStep (n : Int) (s : Int) ∨ ¬ (2 ≤ (n : Int) ∧ (n : Int) ≤ 9)
  · exact (specRoundFirst_no n s W hno).mono fun e w' h => ⟨[], false, h, fun hb => by cases hb⟩
  · have h4 : s.testBit 0 = false := by
      obtain ⟨n', s', hn', hs', _, _, _, h4⟩ := not_noStep (fun hh => hno (.inl hh))
      obtain rfl : s = s' := by omega
      exact h4
    have h2 : 2 ≤ n := by
      have := Decidable.byContradiction fun hh => hno (.inr hh)
      omega
    exact (specRoundFirst_yes n s W h2 (by omega) hs h4).mono fun e w' h => ⟨_, _, h, fun hb => inRing_round (first_round n s h2 (of_decide_eq_true hb)) (by omega)⟩
set_option maxHeartbeats 2000000 in
theorem drawRoundIs_any (W : World) (B len cap : Nat) (A : Option Addr) (f : Nat → Nat) (hC : Code W B A len f) (hB : B ≤ W.heap.size) (hlc : len ≤ cap) (hcap : cap ≤ 9223372036854775807) :
    Calls Try.prog 8 #[.slice A len cap] W (RoundPost W) := by
  have hmx : Try.prog.follows .mixedOrders = true := by kernel_rfl
  have HS := Lib.hid (small_any W B len cap A f hC hB hlc hcap)
  have HO := Lib.hid (fun (w : World) (hb : Below W.heap.size W w) => open_any w B len cap A f (hC.below (hb.mono hB)) (Nat.le_trans hB hb.size) hlc hcap)
  clear hC
  go_enter Try.func8, Try.ntmps8
  go_wp2_with fail
  refine HS.out.mono ?_
  rintro e w1 ⟨n, s, rfl, hn1, hn2, hs, hb1⟩
  have HB := Lib.hid hb1
  have z1 := hb1.size
  clear hb1 HS
  go_wp2_with fail
  refine (roundFirst_all n s w1 hn1 hn2 hs).mono ?_
  rintro e w2 ⟨xs, ok, ⟨sv, rfl, hb2, hI2⟩, hin⟩
  have HB := Lib.hid (HB.out.trans (hb2.mono z1))
  have HI := Lib.hid (hI2.base z1)
  have z2 := HB.out.size
  have HIl := Lib.hid (fun k (e : sv.ownBlock = some k) => (World.ownsRow.lt hI2 k e).2)
  have HIn := Lib.hid hin
  clear hb2 hI2 hin
  go_wp2_with fail
  refine (HO.out w2 HB.out).mono ?_
  rintro e w3 ⟨R, A', len', cap', rfl, hR, hl, hRd, hCd, hb3⟩
  have HRd : Hid (Reader w3 B R 0) := Lib.hid ⟨⟨A', len', cap', f, hRd, hCd, hl⟩, by omega⟩
  have HB := Lib.hid (HB.out.trans (hb3.mono z2))
  have HI := Lib.hid (HI.out.belowAll hb3)
  have c1 := hRd.p
  have f1 := hRd.frozen 1
  have z3 := HB.out.size
  have hRl := hRd.lt
  have HR61 := Lib.hid (HRd.out.put 61)
  have HA61 := Lib.hid ((Aside.refl R w3).setAt 1 (.int .i64 ((61 : Nat) : Int)))
  clear hRd hCd hb3
  have hWR : W.heap.size ≤ R := Nat.le_trans z2 hR
  cases ok
  · go_wp2
    have HB0 := Lib.hid (show Below W.heap.size W (w3.setCell ⟨R, 1, none⟩ (.int .i64 61)) from HB.out.setCell (p := ⟨R, 1, none⟩) hWR _)
    have HR0 := Lib.hid (show Reader (w3.setCell ⟨R, 1, none⟩ (.int .i64 61)) B R 61 from HR61.out)
    have hRx : R < (w3.setCell ⟨R, 1, none⟩ (.int .i64 61)).heap.size := by simp; exact hRl
    have hsx : (w3.setCell ⟨R, 1, none⟩ (.int .i64 61)).heap.size = w3.heap.size := by simp
    obtain ⟨Wx, hWx⟩ : ∃ Wx, w3.setCell ⟨R, 1, none⟩ (.int .i64 61) = Wx := ⟨_, rfl⟩
    rw [hWx] at HB0 HR0 hRx hsx ⊢
    clear hWx HR61 HA61 c1 f1 hRl HB HI
    have HRa := Lib.hid (HR0.out.under ((Below.refl _ Wx).alloc (Nat.le_refl _) (.cells #[] 3)) hRx)
    have HOa := Lib.hid (nil_made Wx Wx.heap.size (Nat.le_refl _))
    have HBa := Lib.hid (HB0.out.alloc HB0.out.size (.cells #[] 3))
    have hzx := HB0.out.size
    obtain ⟨h, hh⟩ : ∃ h, Wx.heap.size = h := ⟨_, rfl⟩
    obtain ⟨W9, hW9⟩ : ∃ W9, Wx.alloc (.cells #[] 3) = W9 := ⟨_, rfl⟩
    have hz9 : h ≤ W9.heap.size := by rw [← hW9, ← hh]; simp
    rw [hh] at hsx
    rw [hh] at HOa hRx hzx
    rw [hW9] at HRa HOa HBa
    rw [hW9, ← hsx]
    clear hsx
    clear hW9 hh HB0 HR0
    go_loopw [10, 11] (fun a u wr => ∃ (a' : Value) (v : Nat) (ys : List Int), a' = a ∧ v ≤ n ∧ u = .int .i64 (v : Int) ∧ ys.length = v ∧ Hid (∀ i, i < ys.length → 0 ≤ ys.getD i 0 ∧ ys.getD i 0 < (n : Int)) ∧ IsInts wr h a' ys ∧ Reader wr B R (61 + v) ∧ Below W.heap.size W wr ∧ h ≤ wr.heap.size) (fun _ u _ => n - (intOf u).toNat)
    case atStart => exact ⟨_, 0, [], rfl, Nat.zero_le _, rfl, rfl, Lib.hid (fun i hi => by simp at hi), HOa.out, HRa.out, HBa.out, hz9⟩
    case round =>
      obtain ⟨a', v, ys, rfl, hv, rfl, hyl, HY, hO, hRr, hBr, hzr⟩ := hrel
      have HO := Lib.hid hO
      have HRr := Lib.hid hRr
      have HBr := Lib.hid hBr
      clear hO hRr hBr HRa HOa HBa hz9
      by_cases hlt : v < n
      · have hRl := HRr.out.lt
        have hzb := HBr.out.size
        go_wp2_with fail
        refine (draw_any wr B R (61 + v) 2 HRr.out (by omega) (by omega) (by omega)).mono ?_
        rintro e w5 ⟨a2, rfl, ha2, hR5, hA5⟩
        obtain ⟨m, r, hr, p1, p2, p3, p4, p5⟩ := draw_prod v a2 n (by omega) (by have := ha2 (by omega); omega) hn1
        have HR5 := Lib.hid hR5
        have HO5 := Lib.hid (show IsInts w5 h a' ys from aside_ints HO.out hA5 hRx)
        have HB5 := Lib.hid (HBr.out.trans (hA5.below (m := W.heap.size) hWR hzb))
        have hz5 : h ≤ w5.heap.size := Nat.le_trans hzr hA5.size
        have HYn := Lib.hid (inRing_snoc (z := (r : Int)) HY.out (by omega) (by omega))
        have HLy : Hid (ys.length ≤ 1000) := Lib.hid (by omega)
        have i5 : ((n : Int) = 0) = False := by simp; omega
        have i6 : ((n : Int) == 0) = false := by simp; omega
        have i7 : (n = 0) = False := by simp; omega
        clear hR5 hA5 ha2 hr hRl
        go_wp2_with (at_builtin; refine wpList_append_ints rfl _ _ rfl a' ys (r : Int) w5 h rfl rfl HO5.out HLy.out hz5 (fun v' w6 hO6 hkeep hbelow => ?_); have HO6 := Lib.hid hO6; have HB6 := Lib.hid (hbelow _ _ hzx HB5.out); have HR6 := Lib.hid (HR5.out.under (hbelow h w5 (Nat.le_refl h) (Below.refl h w5)) hRx); have hz6 := (hbelow h w5 (Nat.le_refl h) (Below.refl h w5)).size; clear hO6 hkeep hbelow)
        clear i5 i6 i7 p1 p2 p3 p4 p5
        go_roundw
        case rel => exact ⟨_, v + 1, _, rfl, by omega, by go_num, by simp; omega, HYn.out, HO6.out, HR6.out, HB6.out, Nat.le_trans hz5 hz6⟩
        case measure => simp [intOf]; omega
      · obtain rfl : v = n := by omega
        have HYf : Hid (InRing v ys) := Lib.hid ⟨by omega, HY.out⟩
        go_wp2
        go_ret3
        exact ⟨v, s, _, ys, rfl, hn1, hn2, hs, HYf.out, HBr.out, HO.out.base hzx⟩
  · have HB0 := Lib.hid (show Below W.heap.size W (w3.setCell ⟨R, 1, none⟩ (.int .i64 61)) from HB.out.setCell (p := ⟨R, 1, none⟩) hWR _)
    have HR0 := Lib.hid (show Reader (w3.setCell ⟨R, 1, none⟩ (.int .i64 61)) B R 61 from HR61.out)
    have HI0 := Lib.hid (HI.out.below (N := w2.heap.size) (W' := w3.setCell ⟨R, 1, none⟩ (.int .i64 61)) HIl.out (Below.setCell (Below.refl _ w3) (p := ⟨R, 1, none⟩) hR _))
    have hsx : w2.heap.size ≤ (w3.setCell ⟨R, 1, none⟩ (.int .i64 61)).heap.size := by simp; omega
    go_wp2_with fail
    obtain ⟨W5, hW5⟩ : ∃ W5, w3.setCell ⟨R, 1, none⟩ (.int .i64 61) = W5 := ⟨_, rfl⟩
    rw [hW5] at HB0 HR0 HI0 hsx ⊢
    clear hW5 HR61 HA61 c1 f1 hRl HB HI
    refine (draw_any W5 B R 61 4 HR0.out (by omega) (by omega) (by omega)).mono ?_
    rintro e Wx ⟨c, rfl, hc, hR6, hA6⟩
    have hc4 := hc (by omega)
    have HI6 := Lib.hid (HI0.out.below (N := w2.heap.size) HIl.out (hA6.below (m := w2.heap.size) hR hsx))
    have HB0 := Lib.hid (HB0.out.trans (hA6.below (m := W.heap.size) hWR HB0.out.size))
    have HR0 := Lib.hid hR6
    clear hR6 hA6 hc HI0
    by_cases hc0 : 0 < c
    · have k1 : (0 : Int) < (c : Int) := by omega
      have k2 := decide_eq_true k1
      have HIr := Lib.hid (HIn.out trivial)
      clear hc0
      go_wp2
      go_ret3
      exact ⟨n, s, _, xs, rfl, hn1, hn2, hs, HIr.out, HB0.out, HI6.out⟩
    · obtain rfl : c = 0 := by omega
      have hRx : R < Wx.heap.size := HR0.out.lt
      clear hc0 HI6 hc4
      go_wp2
      have HRa := Lib.hid (HR0.out.under ((Below.refl _ Wx).alloc (Nat.le_refl _) (.cells #[] 3)) hRx)
      have HOa := Lib.hid (nil_made Wx Wx.heap.size (Nat.le_refl _))
      have HBa := Lib.hid (HB0.out.alloc HB0.out.size (.cells #[] 3))
      have hzx := HB0.out.size
      obtain ⟨h, hh⟩ : ∃ h, Wx.heap.size = h := ⟨_, rfl⟩
      obtain ⟨W9, hW9⟩ : ∃ W9, Wx.alloc (.cells #[] 3) = W9 := ⟨_, rfl⟩
      have hz9 : h ≤ W9.heap.size := by rw [← hW9, ← hh]; simp
      rw [hh] at HOa hRx hzx
      rw [hW9] at HRa HOa HBa
      rw [hW9, hh]
      clear hW9 hh HB0 HR0
      go_loopw [10, 11] (fun a u wr => ∃ (a' : Value) (v : Nat) (ys : List Int), a' = a ∧ v ≤ n ∧ u = .int .i64 (v : Int) ∧ ys.length = v ∧ Hid (∀ i, i < ys.length → 0 ≤ ys.getD i 0 ∧ ys.getD i 0 < (n : Int)) ∧ IsInts wr h a' ys ∧ Reader wr B R (62 + v) ∧ Below W.heap.size W wr ∧ h ≤ wr.heap.size) (fun _ u _ => n - (intOf u).toNat)
      case atStart => exact ⟨_, 0, [], rfl, Nat.zero_le _, rfl, rfl, Lib.hid (fun i hi => by simp at hi), HOa.out, HRa.out, HBa.out, hz9⟩
      case round =>
        obtain ⟨a', v, ys, rfl, hv, rfl, hyl, HY, hO, hRr, hBr, hzr⟩ := hrel
        have HO := Lib.hid hO
        have HRr := Lib.hid hRr
        have HBr := Lib.hid hBr
        clear hO hRr hBr HRa HOa HBa hz9
        by_cases hlt : v < n
        · have hRl := HRr.out.lt
          have hzb := HBr.out.size
          go_wp2_with fail
          refine (draw_any wr B R (62 + v) 2 HRr.out (by omega) (by omega) (by omega)).mono ?_
          rintro e w5 ⟨a2, rfl, ha2, hR5, hA5⟩
          obtain ⟨m, r, hr, p1, p2, p3, p4, p5⟩ := draw_prod v a2 n (by omega) (by have := ha2 (by omega); omega) hn1
          have HR5 := Lib.hid hR5
          have HO5 := Lib.hid (show IsInts w5 h a' ys from aside_ints HO.out hA5 hRx)
          have HB5 := Lib.hid (HBr.out.trans (hA5.below (m := W.heap.size) hWR hzb))
          have hz5 : h ≤ w5.heap.size := Nat.le_trans hzr hA5.size
          have HYn := Lib.hid (inRing_snoc (z := (r : Int)) HY.out (by omega) (by omega))
          have HLy : Hid (ys.length ≤ 1000) := Lib.hid (by omega)
          have i5 : ((n : Int) = 0) = False := by simp; omega
          have i6 : ((n : Int) == 0) = false := by simp; omega
          have i7 : (n = 0) = False := by simp; omega
          clear hR5 hA5 ha2 hr hRl
          go_wp2_with (at_builtin; refine wpList_append_ints rfl _ _ rfl a' ys (r : Int) w5 h rfl rfl HO5.out HLy.out hz5 (fun v' w6 hO6 hkeep hbelow => ?_); have HO6 := Lib.hid hO6; have HB6 := Lib.hid (hbelow _ _ hzx HB5.out); have HR6 := Lib.hid (HR5.out.under (hbelow h w5 (Nat.le_refl h) (Below.refl h w5)) hRx); have hz6 := (hbelow h w5 (Nat.le_refl h) (Below.refl h w5)).size; clear hO6 hkeep hbelow)
          clear i5 i6 i7 p1 p2 p3 p4 p5
          go_roundw
          case rel => exact ⟨_, v + 1, _, rfl, by omega, by go_num, by simp; omega, HYn.out, HO6.out, HR6.out, HB6.out, Nat.le_trans hz5 hz6⟩
          case measure => simp [intOf]; omega
        · obtain rfl : v = n := by omega
          have HYf : Hid (InRing v ys) := Lib.hid ⟨by omega, HY.out⟩
          go_wp2
          go_ret3
          exact ⟨v, s, _, ys, rfl, hn1, hn2, hs, HYf.out, HBr.out, HO.out.base hzx⟩
end Go.Proofs.Ytfgolkbafnfblaa
