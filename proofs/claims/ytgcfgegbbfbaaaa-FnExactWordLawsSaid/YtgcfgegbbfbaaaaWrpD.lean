/- Words, the program's side: words compared. -/
import Derived.Test.YtgcfgegbbfbaaaaWrpI
import Derived.LoopN
namespace Go.Proofs.Ytgcfgegbbfbaaaa
open Go.RowKit Go.Shelf
set_option linter.unusedVariables false
attribute [local go_sem] Oper.semAt_some
/-! A world that has only grown and drawn. -/
def Grw (W W' : World) : Prop := ∃ q os, W' = Go.Sort.grow (W.drewN q) os
theorem Grw.refl (W : World) : Grw W W := ⟨0, #[], by simp [Go.Sort.grow, World.drewN]⟩
theorem Grw.trans {X Y Z : World} (h : Grw X Y) (k : Grw Y Z) : Grw X Z := by
  obtain ⟨q, os, rfl⟩ := h
  obtain ⟨q2, os2, rfl⟩ := k
  refine ⟨q + q2, os ++ os2, ?_⟩
  simp [Go.Sort.grow, World.drewN, Array.append_assoc, Nat.add_assoc]
theorem Grw.alloc {X Y : World} (h : Grw X Y) (o : Obj) : Grw X (Y.alloc o) :=
  h.trans ⟨0, #[o], by rw [Go.Sort.alloc_eq_grow]; rfl⟩
theorem Grw.drew {X Y : World} (h : Grw X Y) : Grw X Y.drew := h.trans ⟨1, #[], by rw [Go.Sort.grow_empty]; rfl⟩
theorem Grw.below {X Y : World} (h : Grw X Y) : Below X.heap.size X Y := by
  obtain ⟨q, os, rfl⟩ := h
  refine ⟨rfl, rfl, rfl, by simp [Go.Sort.grow, World.drewN], fun k hk => ?_⟩
  show (X.heap ++ os)[k]? = X.heap[k]?
  exact Array.getElem?_append_left hk
/-! The comparisons. -/
def cmp3 (x0 x1 x2 y0 y1 y2 : Int) : Int := if Lib.compareInt x0 y0 ≠ 0 then Lib.compareInt x0 y0 else if Lib.compareInt x1 y1 ≠ 0 then Lib.compareInt x1 y1 else Lib.compareInt x2 y2
set_option maxRecDepth 100000 in
set_option maxHeartbeats 2000000 in
theorem compare_any (W : World) (b c : Nat) (x0 x1 x2 y0 y1 y2 : Int) (hx : Ter W b 50 (.int .i64 x0) (.int .i64 x1) (.int .i64 x2)) (hy : Ter W c 50 (.int .i64 y0) (.int .i64 y1) (.int .i64 y2)) :
    Calls Try.prog 80 #[.slice (some ⟨b, 0, none⟩) 3 3, .slice (some ⟨c, 0, none⟩) 3 3] W fun e w' => e = .returned (.int .i64 (cmp3 x0 x1 x2 y0 y1 y2)) ∧ w' = W := by
  have H0 := Lib.hid (Try.cmp_Compare_int x0 y0 W)
  have H1 := Lib.hid (Try.cmp_Compare_int x1 y1 W)
  have H2 := Lib.hid (Try.cmp_Compare_int x2 y2 W)
  have a0 := hx.cell0
  have a1 := hx.cell1
  have a2 := hx.cell2
  have b0 := hy.cell0
  have b1 := hy.cell1
  have b2 := hy.cell2
  clear hx hy
  unfold cmp3
  generalize Lib.compareInt x0 y0 = r0 at *
  generalize Lib.compareInt x1 y1 = r1 at *
  generalize Lib.compareInt x2 y2 = r2 at *
  by_cases h0 : r0 = 0
  · subst h0
    by_cases h1 : r1 = 0
    · subst h1
      by_cases h2 : r2 = 0
      · subst h2
        go_enter Try.func80, Try.ntmps80
        go_wp2
        refine wp_loop_rounds 4 ?_
        simp only [Code.rounds]
        go_wp2_with fail
        refine H0.out.mono ?_
        rintro e w' ⟨rfl, rfl⟩
        go_wp2_with fail
        refine H1.out.mono ?_
        rintro e w' ⟨rfl, rfl⟩
        go_wp2_with fail
        refine H2.out.mono ?_
        rintro e w' ⟨rfl, rfl⟩
        go_wp2
        go_ret
        exact ⟨rfl, rfl⟩
      · skip
        have HN2 := Lib.hid h2
        have q2 : (r2 == 0) = false := by simpa using h2
        have n2 : (r2 != 0) = true := by simpa using h2
        clear h2
        go_enter Try.func80, Try.ntmps80
        go_wp2
        refine wp_loop_rounds 4 ?_
        simp only [Code.rounds]
        go_wp2_with fail
        refine H0.out.mono ?_
        rintro e w' ⟨rfl, rfl⟩
        go_wp2_with fail
        refine H1.out.mono ?_
        rintro e w' ⟨rfl, rfl⟩
        go_wp2_with fail
        refine H2.out.mono ?_
        rintro e w' ⟨rfl, rfl⟩
        go_wp2
        go_ret
        exact ⟨ret_int (by first | rfl | (simp [HN2.out])), rfl⟩
    · skip
      have HN1 := Lib.hid h1
      have q1 : (r1 == 0) = false := by simpa using h1
      have n1 : (r1 != 0) = true := by simpa using h1
      clear h1
      go_enter Try.func80, Try.ntmps80
      go_wp2
      refine wp_loop_rounds 4 ?_
      simp only [Code.rounds]
      go_wp2_with fail
      refine H0.out.mono ?_
      rintro e w' ⟨rfl, rfl⟩
      go_wp2_with fail
      refine H1.out.mono ?_
      rintro e w' ⟨rfl, rfl⟩
      go_wp2
      go_ret
      exact ⟨ret_int (by first | rfl | (simp [HN1.out])), rfl⟩
  · skip
    have HN0 := Lib.hid h0
    have q0 : (r0 == 0) = false := by simpa using h0
    have n0 : (r0 != 0) = true := by simpa using h0
    clear h0
    go_enter Try.func80, Try.ntmps80
    go_wp2
    refine wp_loop_rounds 4 ?_
    simp only [Code.rounds]
    go_wp2_with fail
    refine H0.out.mono ?_
    rintro e w' ⟨rfl, rfl⟩
    go_wp2
    go_ret
    exact ⟨ret_int (by first | rfl | (simp [HN0.out])), rfl⟩
--gen124
set_option maxRecDepth 100000 in
set_option maxHeartbeats 2000000 in
theorem byAmounts_any (w : World) (x0 x1 x2 y0 y1 y2 : Int) :
    Calls Try.prog 60 #[.agg #[.int .i64 x0, .int .i64 x1, .int .i64 x2], .agg #[.int .i64 y0, .int .i64 y1, .int .i64 y2]] w fun e w' => e = .returned (.int .i64 (cmp3 x0 x1 x2 y0 y1 y2)) ∧ Grw w w' := by
  have hx := (Ter.new w 50 (.int .i64 x0) (.int .i64 x1) (.int .i64 x2)).alloc (.cells #[.int .i64 y0, .int .i64 y1, .int .i64 y2] 50)
  have hy := Ter.new (w.alloc (.cells #[.int .i64 x0, .int .i64 x1, .int .i64 x2] 50)) 50 (.int .i64 y0) (.int .i64 y1) (.int .i64 y2)
  simp only [World.size_alloc] at hy
  have hg := ((Grw.refl w).alloc (.cells #[.int .i64 x0, .int .i64 x1, .int .i64 x2] 50)).alloc (.cells #[.int .i64 y0, .int .i64 y1, .int .i64 y2] 50)
  obtain ⟨W0, hW0⟩ : ∃ W0, (w.alloc (.cells #[.int .i64 x0, .int .i64 x1, .int .i64 x2] 50)).alloc (.cells #[.int .i64 y0, .int .i64 y1, .int .i64 y2] 50) = W0 := ⟨_, rfl⟩
  rw [hW0] at hx hy hg
  have HC := Lib.hid (compare_any W0.drew w.heap.size (w.heap.size + 1) x0 x1 x2 y0 y1 y2 hx hy)
  generalize cmp3 x0 x1 x2 y0 y1 y2 = r at *
  have HG := Lib.hid hg.drew
  clear hx hy hg
  go_enter Try.func60, Try.ntmps60
  go_wp2_with fail
  clear hW0
  go_region_with (go_at_call 80; refine HC.out.mono ?_; rintro e w' ⟨rfl, rfl⟩)
  go_wp2
  go_ret
  exact ⟨rfl, HG.out⟩
theorem wneg1 (x : Int) (h : x.natAbs ≤ 100) : wrap64 (-x) = -x := IntWalk.wrap64_in _ (by omega)
theorem wsum1 (a : Nat) (h : a ≤ 100) : wrap64 (a : Int) = (a : Int) := IntWalk.wrap64_in _ (by omega)
theorem wsum2 (a b : Nat) (h : a ≤ 100) (h2 : b ≤ 100) : wrap64 ((a : Int) + (b : Int)) = (a : Int) + (b : Int) := IntWalk.wrap64_in _ (by omega)
theorem wsum3 (a b c : Nat) (h : a ≤ 100) (h2 : b ≤ 100) (h3 : c ≤ 100) : wrap64 ((a : Int) + (b : Int) + (c : Int)) = (a : Int) + (b : Int) + (c : Int) := IntWalk.wrap64_in _ (by omega)
theorem nat_max (x : Int) : max x (-x) = ((x.natAbs : Nat) : Int) := by omega
set_option maxRecDepth 100000 in
set_option maxHeartbeats 2000000 in
theorem length_any (w : World) (x0 x1 x2 : Int) (h0 : x0.natAbs ≤ 100) (h1 : x1.natAbs ≤ 100) (h2 : x2.natAbs ≤ 100) :
    Calls Try.prog 78 #[.agg #[.int .i64 x0, .int .i64 x1, .int .i64 x2]] w fun e w' => e = .returned (.int .i64 ((x0.natAbs + x1.natAbs + x2.natAbs : Nat) : Int)) ∧ Grw w w' := by
  have ix0 : ∀ W, (Instr.index 50 (.agg #[.int .i64 x0, .int .i64 x1, .int .i64 x2]) (.int .i64 0)).run Try.prog W = .ok (.int .i64 x0) W := fun W => by kernel_rfl
  have ix1 : ∀ W, (Instr.index 50 (.agg #[.int .i64 x0, .int .i64 x1, .int .i64 x2]) (.int .i64 1)).run Try.prog W = .ok (.int .i64 x1) W := fun W => by kernel_rfl
  have ix2 : ∀ W, (Instr.index 50 (.agg #[.int .i64 x0, .int .i64 x1, .int .i64 x2]) (.int .i64 2)).run Try.prog W = .ok (.int .i64 x2) W := fun W => by kernel_rfl
  have HG := Lib.hid ((Grw.refl w).alloc (.cells #[.int .i64 x0, .int .i64 x1, .int .i64 x2] 50))
  have n0 := wneg1 x0 h0
  have n1 := wneg1 x1 h1
  have n2 := wneg1 x2 h2
  have m0 := nat_max x0
  have m1 := nat_max x1
  have m2 := nat_max x2
  generalize x0.natAbs = a0 at *
  generalize x1.natAbs = a1 at *
  generalize x2.natAbs = a2 at *
  have s0 := wsum1 a0 h0
  have s1 := wsum2 a0 a1 h0 h1
  have s2 := wsum3 a0 a1 a2 h0 h1 h2
  clear h0 h1 h2
  go_enter Try.func78, Try.ntmps78
  go_wp2
  refine wp_loop_rounds 4 ?_
  simp only [Code.rounds]
  go_wp2
  go_ret
  exact ⟨ret_int (by first | rfl | (simp [s2]) | omega), HG.out⟩
set_option maxRecDepth 100000 in
set_option maxHeartbeats 2000000 in
theorem or_any (w : World) (b : Nat) (r s : Int) (h0 : w.cell? ⟨b, 0, none⟩ = some (.int .i64 r)) (h1 : w.cell? ⟨b, 1, none⟩ = some (.int .i64 s)) :
    Calls Try.prog 76 #[.slice (some ⟨b, 0, none⟩) 2 2] w fun e w' => e = .returned (.int .i64 (if r ≠ 0 then r else s)) ∧ w' = w := by
  by_cases hr : r = 0
  · subst hr
    by_cases hs : s = 0
    · subst hs
      go_enter Try.func76, Try.ntmps76
      go_wp2
      refine wp_loop_rounds 3 ?_
      simp only [Code.rounds]
      go_wp2
      go_ret
      exact ⟨rfl, rfl⟩
    · have HN := Lib.hid hs
      have q : (s == 0) = false := by simpa using hs
      have n : (s != 0) = true := by simpa using hs
      clear hs
      go_enter Try.func76, Try.ntmps76
      go_wp2
      refine wp_loop_rounds 3 ?_
      simp only [Code.rounds]
      go_wp2
      go_ret
      exact ⟨rfl, rfl⟩
  · have HN := Lib.hid hr
    have q : (r == 0) = false := by simpa using hr
    have n : (r != 0) = true := by simpa using hr
    clear hr
    go_enter Try.func76, Try.ntmps76
    go_wp2
    refine wp_loop_rounds 3 ?_
    simp only [Code.rounds]
    go_wp2
    go_ret
    exact ⟨ret_int (by first | rfl | simp [HN.out]), rfl⟩
def cmpS (x0 x1 x2 y0 y1 y2 : Int) : Int := if Lib.compareInt ((x0.natAbs + x1.natAbs + x2.natAbs : Nat) : Int) ((y0.natAbs + y1.natAbs + y2.natAbs : Nat) : Int) ≠ 0 then Lib.compareInt ((x0.natAbs + x1.natAbs + x2.natAbs : Nat) : Int) ((y0.natAbs + y1.natAbs + y2.natAbs : Nat) : Int) else cmp3 y0 y1 y2 x0 x1 x2
set_option maxRecDepth 100000 in
set_option maxHeartbeats 4000000 in
theorem shortestFirst_any (w : World) (x0 x1 x2 y0 y1 y2 : Int) (hx0 : x0.natAbs ≤ 100) (hx1 : x1.natAbs ≤ 100) (hx2 : x2.natAbs ≤ 100) (hy0 : y0.natAbs ≤ 100) (hy1 : y1.natAbs ≤ 100) (hy2 : y2.natAbs ≤ 100) :
    Calls Try.prog 57 #[.agg #[.int .i64 x0, .int .i64 x1, .int .i64 x2], .agg #[.int .i64 y0, .int .i64 y1, .int .i64 y2]] w fun e w' => e = .returned (.int .i64 (cmpS x0 x1 x2 y0 y1 y2)) ∧ Grw w w' := by
  have hmx : Try.prog.follows .mixedOrders = true := by kernel_rfl
  have HLx := Lib.hid (fun W => length_any W x0 x1 x2 hx0 hx1 hx2)
  have HLy := Lib.hid (fun W => length_any W y0 y1 y2 hy0 hy1 hy2)
  have HBy := Lib.hid (fun W => byAmounts_any W y0 y1 y2 x0 x1 x2)
  unfold cmpS
  generalize x0.natAbs + x1.natAbs + x2.natAbs = lx at *
  generalize y0.natAbs + y1.natAbs + y2.natAbs = ly at *
  have HCm := Lib.hid (fun W => Try.cmp_Compare_int (lx : Int) (ly : Int) W)
  generalize Lib.compareInt (lx : Int) (ly : Int) = r at *
  generalize cmp3 y0 y1 y2 x0 x1 x2 = s at *
  have HOr := Lib.hid (fun W b h0 h1 => or_any W b r s h0 h1)
  generalize (if r ≠ 0 then r else s) = V at *
  have hA0 : Ter ((w.alloc (.cells #[.int .i64 x0, .int .i64 x1, .int .i64 x2] 50)).alloc (.cells #[.int .i64 y0, .int .i64 y1, .int .i64 y2] 50)).drew w.heap.size 50 (.int .i64 x0) (.int .i64 x1) (.int .i64 x2) ∧ Ter ((w.alloc (.cells #[.int .i64 x0, .int .i64 x1, .int .i64 x2] 50)).alloc (.cells #[.int .i64 y0, .int .i64 y1, .int .i64 y2] 50)).drew (w.heap.size + 1) 50 (.int .i64 y0) (.int .i64 y1) (.int .i64 y2) ∧ Grw w ((w.alloc (.cells #[.int .i64 x0, .int .i64 x1, .int .i64 x2] 50)).alloc (.cells #[.int .i64 y0, .int .i64 y1, .int .i64 y2] 50)).drew :=
    ⟨(Ter.new w 50 (.int .i64 x0) (.int .i64 x1) (.int .i64 x2)).alloc (.cells #[.int .i64 y0, .int .i64 y1, .int .i64 y2] 50), by have h := Ter.new (w.alloc (.cells #[.int .i64 x0, .int .i64 x1, .int .i64 x2] 50)) 50 (.int .i64 y0) (.int .i64 y1) (.int .i64 y2); simp only [World.size_alloc] at h; exact h, (((Grw.refl w).alloc _).alloc _).drew⟩
  clear hx0 hx1 hx2 hy0 hy1 hy2
  go_enter Try.func57, Try.ntmps57
  go_wp2_with fail
  obtain ⟨W0, hW0⟩ : ∃ W0, (w.alloc (.cells #[.int .i64 x0, .int .i64 x1, .int .i64 x2] 50)).alloc (.cells #[.int .i64 y0, .int .i64 y1, .int .i64 y2] 50) = W0 := ⟨_, rfl⟩
  rw [hW0] at hA0 ⊢
  clear hW0
  refine wp_region_held_drew (S := fun W => Ter W w.heap.size 50 (.int .i64 x0) (.int .i64 x1) (.int .i64 x2) ∧ Ter W (w.heap.size + 1) 50 (.int .i64 y0) (.int .i64 y1) (.int .i64 y2) ∧ Grw w W) hmx hA0 (fun _ => ?_)
  generalize W0.drew = W4 at *
  refine take1 0 (v := ?_) rfl (by kernel_rfl) (by kernel_rfl) (by kernel_rfl) (fun _ _ _ h => h) (by rfl) ?_ hA0 ?_
  rotate_left
  · intro W9 hA
    obtain ⟨hx, hy, _⟩ := hA
    have cx0 := hx.cell0
    have cx1 := hx.cell1
    have cx2 := hx.cell2
    have cy0 := hy.cell0
    have cy1 := hy.cell1
    have cy2 := hy.cell2
    go_simp
    try with_reducible rfl
  try simp only [Act.put, List.setIfInBounds_toArray, List.set_cons_zero, List.set_cons_succ]
  refine take1 2 (v := ?_) rfl (by kernel_rfl) (by kernel_rfl) (by kernel_rfl) (fun _ _ _ h => h) (by rfl) ?_ hA0 ?_
  rotate_left
  · intro W9 hA
    obtain ⟨hx, hy, _⟩ := hA
    have cx0 := hx.cell0
    have cx1 := hx.cell1
    have cx2 := hx.cell2
    have cy0 := hy.cell0
    have cy1 := hy.cell1
    have cy2 := hy.cell2
    go_simp
    try with_reducible rfl
  try simp only [Act.put, List.setIfInBounds_toArray, List.set_cons_zero, List.set_cons_succ]
  refine take1 5 (v := ?_) rfl (by kernel_rfl) (by kernel_rfl) (by kernel_rfl) (fun _ _ _ h => h) (by rfl) ?_ hA0 ?_
  rotate_left
  · intro W9 hA
    obtain ⟨hx, hy, _⟩ := hA
    have cx0 := hx.cell0
    have cx1 := hx.cell1
    have cx2 := hx.cell2
    have cy0 := hy.cell0
    have cy1 := hy.cell1
    have cy2 := hy.cell2
    go_simp
    try with_reducible rfl
  try simp only [Act.put, List.setIfInBounds_toArray, List.set_cons_zero, List.set_cons_succ]
  refine take1 6 (v := ?_) rfl (by kernel_rfl) (by kernel_rfl) (by kernel_rfl) (fun _ _ _ h => h) (by rfl) ?_ hA0 ?_
  rotate_left
  · intro W9 hA
    obtain ⟨hx, hy, _⟩ := hA
    have cx0 := hx.cell0
    have cx1 := hx.cell1
    have cx2 := hx.cell2
    have cy0 := hy.cell0
    have cy1 := hy.cell1
    have cy2 := hy.cell2
    go_simp
    try with_reducible rfl
  try simp only [Act.put, List.setIfInBounds_toArray, List.set_cons_zero, List.set_cons_succ]
  refine step1 1 (by kernel_rfl) rfl (fun K hK => ?_)
  go_simp
  refine (HLx.out _).mono ?_
  rintro e W1' ⟨rfl, hb1⟩
  go_wp2_with fail
  have hA1 : Ter _ _ _ _ _ _ ∧ Ter _ _ _ _ _ _ ∧ Grw _ _ := ⟨hA0.1.below hA0.1.lt hb1.below, hA0.2.1.below hA0.2.1.lt hb1.below, hA0.2.2.trans hb1⟩
  refine hK.out _ _ hA1 ?_
  clear hK K
  try simp only [Act.put, List.setIfInBounds_toArray, List.set_cons_zero, List.set_cons_succ]
  refine step1 3 (by kernel_rfl) rfl (fun K hK => ?_)
  go_simp
  refine (HLy.out _).mono ?_
  rintro e W2' ⟨rfl, hb2⟩
  go_wp2_with fail
  have hA2 : Ter _ _ _ _ _ _ ∧ Ter _ _ _ _ _ _ ∧ Grw _ _ := ⟨hA1.1.below hA1.1.lt hb2.below, hA1.2.1.below hA1.2.1.lt hb2.below, hA1.2.2.trans hb2⟩
  refine hK.out _ _ hA2 ?_
  clear hK K
  try simp only [Act.put, List.setIfInBounds_toArray, List.set_cons_zero, List.set_cons_succ]
  refine step1 4 (by kernel_rfl) rfl (fun K hK => ?_)
  go_simp
  refine (HCm.out _).mono ?_
  rintro e W3' ⟨rfl, rfl⟩
  go_wp2_with fail
  have hA3 := hA2
  refine hK.out _ _ hA3 ?_
  clear hK K
  try simp only [Act.put, List.setIfInBounds_toArray, List.set_cons_zero, List.set_cons_succ]
  refine step1 7 (by kernel_rfl) rfl (fun K hK => ?_)
  go_simp
  refine (HBy.out _).mono ?_
  rintro e W4' ⟨rfl, hb4⟩
  go_wp2_with fail
  have hA4 : Ter _ _ _ _ _ _ ∧ Ter _ _ _ _ _ _ ∧ Grw _ _ := ⟨hA3.1.below hA3.1.lt hb4.below, hA3.2.1.below hA3.2.1.lt hb4.below, hA3.2.2.trans hb4⟩
  refine hK.out _ _ hA4 ?_
  clear hK K
  try simp only [Act.put, List.setIfInBounds_toArray, List.set_cons_zero, List.set_cons_succ]
  refine step1 8 (by kernel_rfl) rfl (fun K hK => ?_)
  go_simp
  have hA5 : Ter _ _ _ _ _ _ ∧ Ter _ _ _ _ _ _ ∧ Grw _ _ := ⟨hA4.1.alloc (.cells #[.int .i64 r, .int .i64 s] 3), hA4.2.1.alloc (.cells #[.int .i64 r, .int .i64 s] 3), hA4.2.2.alloc (.cells #[.int .i64 r, .int .i64 s] 3)⟩
  refine hK.out _ _ hA5 ?_
  clear hK K
  try simp only [Act.put, List.setIfInBounds_toArray, List.set_cons_zero, List.set_cons_succ]
  refine step1 9 (by kernel_rfl) rfl (fun K hK => ?_)
  go_simp
  refine (HOr.out _ _ (by simp) (by simp)).mono ?_
  rintro e W6' ⟨rfl, rfl⟩
  go_wp2_with fail
  have hA6 := hA5
  refine hK.out _ _ hA6 ?_
  clear hK K
  try simp only [Act.put, List.setIfInBounds_toArray, List.set_cons_zero, List.set_cons_succ]
  refine take1 10 (v := ?_) rfl (by kernel_rfl) (by kernel_rfl) (by kernel_rfl) (fun _ _ _ h => h) (by rfl) ?_ hA6 ?_
  rotate_left
  · intro W9 hA
    clear hA
    go_simp
    try with_reducible rfl
  try simp only [Act.put, List.setIfInBounds_toArray, List.set_cons_zero, List.set_cons_succ]
  refine stop1 (by kernel_rfl) ?_
  go_wp2
  go_ret
  exact ⟨rfl, hA6.2.2⟩
set_option maxHeartbeats 2000000 in
theorem hasGreat_any (w : World) (x0 x1 x2 : Int) :
    Calls Try.prog 59 #[.agg #[.int .i64 x0, .int .i64 x1, .int .i64 x2]] w fun e w' => e = .returned (.bool (decide (x0 < 0) || decide (x1 < 0) || decide (x2 < 0))) ∧ Below w.heap.size w w' := by
  have hx := Ter.new w 50 (.int .i64 x0) (.int .i64 x1) (.int .i64 x2)
  have hb := (Below.refl _ w).alloc (Nat.le_refl _) (.cells #[.int .i64 x0, .int .i64 x1, .int .i64 x2] 50)
  obtain ⟨W0, hW0⟩ : ∃ W0, w.alloc (.cells #[.int .i64 x0, .int .i64 x1, .int .i64 x2] 50) = W0 := ⟨_, rfl⟩
  rw [hW0] at hx hb
  have HC := Lib.hid (Try.slices_Min_int w.heap.size 0 3 3 [x0, x1, x2] W0 (by omega) (by simp) (by omega) (fun j hj => by
    have hj3 : j = 0 ∨ j = 1 ∨ j = 2 := by simp at hj; omega
    rcases hj3 with rfl | rfl | rfl
    · exact hx.cell0
    · exact hx.cell1
    · exact hx.cell2))
  have HM : Hid (decide (Lib.minOf ([x0, x1, x2].take 3) < 0) = (decide (x0 < 0) || decide (x1 < 0) || decide (x2 < 0))) := Lib.hid (by
    show decide (min (min (min x0 x0) x1) x2 < 0) = _
    by_cases a : x0 < 0 <;> by_cases b : x1 < 0 <;> by_cases c : x2 < 0 <;> simp [a, b, c] <;> omega)
  generalize Lib.minOf ([x0, x1, x2].take 3) = m at *
  generalize (decide (x0 < 0) || decide (x1 < 0) || decide (x2 < 0)) = V at *
  have HB := Lib.hid hb
  clear hx hb
  go_enter Try.func59, Try.ntmps59
  go_wp2_with fail
  clear hW0
  refine HC.out.mono ?_
  rintro e w' ⟨rfl, rfl⟩
  go_wp2
  go_ret
  exact ⟨ret_bool (by first | exact HM.out | simpa using HM.out), HB.out⟩
set_option maxRecDepth 100000 in
set_option maxHeartbeats 2000000 in
theorem isPart_any (w : World) (x0 x1 x2 y0 y1 y2 : Int) :
    Calls Try.prog 63 #[.agg #[.int .i64 x0, .int .i64 x1, .int .i64 x2], .agg #[.int .i64 y0, .int .i64 y1, .int .i64 y2]] w fun e w' => e = .returned (.bool (decide (x0 ≤ y0) && decide (x1 ≤ y1) && decide (x2 ≤ y2))) ∧ Below w.heap.size w w' := by
  have hb := ((Below.refl _ w).alloc (Nat.le_refl _) (.cells #[.int .i64 x0, .int .i64 x1, .int .i64 x2] 50)).alloc (by simp) (.cells #[.int .i64 y0, .int .i64 y1, .int .i64 y2] 50)
  have ix0 : ∀ W, (Instr.index 50 (.agg #[.int .i64 x0, .int .i64 x1, .int .i64 x2]) (.int .i64 0)).run Try.prog W = .ok (.int .i64 x0) W := fun W => by kernel_rfl
  have ix1 : ∀ W, (Instr.index 50 (.agg #[.int .i64 x0, .int .i64 x1, .int .i64 x2]) (.int .i64 1)).run Try.prog W = .ok (.int .i64 x1) W := fun W => by kernel_rfl
  have ix2 : ∀ W, (Instr.index 50 (.agg #[.int .i64 x0, .int .i64 x1, .int .i64 x2]) (.int .i64 2)).run Try.prog W = .ok (.int .i64 x2) W := fun W => by kernel_rfl
  have HB := Lib.hid hb
  clear hb
  by_cases h0 : y0 < x0
  · have k0 : decide (y0 < x0) = true := decide_eq_true h0
    have HV : Hid ((decide (x0 ≤ y0) && decide (x1 ≤ y1) && decide (x2 ≤ y2)) = false) := Lib.hid (by rw [decide_eq_false (show ¬ x0 ≤ y0 by omega)]; rfl)
    rw [HV.out]
    go_enter Try.func63, Try.ntmps63
    go_wp2
    refine wp_loop_rounds 4 ?_
    simp only [Code.rounds]
    go_wp2
    go_ret
    exact ⟨rfl, HB.out⟩
  · have k0 : decide (y0 < x0) = false := decide_eq_false h0
    by_cases h1 : y1 < x1
    · have k1 : decide (y1 < x1) = true := decide_eq_true h1
      have HV : Hid ((decide (x0 ≤ y0) && decide (x1 ≤ y1) && decide (x2 ≤ y2)) = false) := Lib.hid (by rw [decide_eq_false (show ¬ x1 ≤ y1 by omega), Bool.and_false, Bool.false_and])
      rw [HV.out]
      go_enter Try.func63, Try.ntmps63
      go_wp2
      refine wp_loop_rounds 4 ?_
      simp only [Code.rounds]
      go_wp2
      go_ret
      exact ⟨rfl, HB.out⟩
    · have k1 : decide (y1 < x1) = false := decide_eq_false h1
      by_cases h2 : y2 < x2
      · have k2 : decide (y2 < x2) = true := decide_eq_true h2
        have HV : Hid ((decide (x0 ≤ y0) && decide (x1 ≤ y1) && decide (x2 ≤ y2)) = false) := Lib.hid (by rw [decide_eq_false (show ¬ x2 ≤ y2 by omega), Bool.and_false])
        rw [HV.out]
        go_enter Try.func63, Try.ntmps63
        go_wp2
        refine wp_loop_rounds 4 ?_
        simp only [Code.rounds]
        go_wp2
        go_ret
        exact ⟨rfl, HB.out⟩
      · have k2 : decide (y2 < x2) = false := decide_eq_false h2
        have HV : Hid ((decide (x0 ≤ y0) && decide (x1 ≤ y1) && decide (x2 ≤ y2)) = true) := Lib.hid (by rw [decide_eq_true (show x0 ≤ y0 by omega), decide_eq_true (show x1 ≤ y1 by omega), decide_eq_true (show x2 ≤ y2 by omega)]; rfl)
        rw [HV.out]
        go_enter Try.func63, Try.ntmps63
        go_wp2
        refine wp_loop_rounds 4 ?_
        simp only [Code.rounds]
        go_wp2
        go_ret
        exact ⟨rfl, HB.out⟩
end Go.Proofs.Ytgcfgegbbfbaaaa
