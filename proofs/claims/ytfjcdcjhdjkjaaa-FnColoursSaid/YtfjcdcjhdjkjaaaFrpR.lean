/- Fair colours, the program's side. Written by gen52.py. -/
import Derived.Test.YtfjcdcjhdjkjaaaFrpP
import Derived.Test.YtfjcdcjhdjkjaaaFrpQ
import Derived.Test.YtfjcdcjhdjkjaaaGI
namespace Go.Proofs.Ytfjcdcjhdjkjaaa
open Go.RowKit Go.Shelf
set_option linter.unusedVariables false
theorem wp_make_ints {o : Oper} {act : Act} {K : Act → World → Prop} {Q : Exit → Act → World → Prop} (l c : Operand) (hop : o.op = Op.makeSlice 33 l c) (N n : Nat) (W : World) (hl : act.eval l = .int .i64 0) (hc : act.eval c = .int .i64 (n : Int)) (hn : n ≤ 1000) (hN : N ≤ W.heap.size)
    (h : ∀ w', IsInts w' N (.slice (some ⟨W.heap.size, 0, none⟩) 0 n) [] → W.grownBy w' none → K (act.put o.dst (.slice (some ⟨W.heap.size, 0, none⟩) 0 n)) w') : o.wp Try.prog act W K Q := by
  obtain ⟨i0, hi, hz0, hz1, hz2⟩ := info_parts Try.infoQ
  obtain ⟨w', hrun, r1, r2⟩ := run_make_own (P := Try.prog) (w := W) N 33 3 i0 (.int .i64 0) 1 Try.underlying33 hi hz0 hz1 .i64 .i64 n (by rw [hz2]; omega) (by unfold maxLen; omega) hN
  unfold Oper.wp
  simp [execOp, hop, hl, hc, hrun, Result.andThen]
  exact h w' r1 r2
theorem fairWays_any (n s k : Nat) (w : World) (h1 : 1 ≤ n) (h2 : n ≤ 8) (hs : s < 2 ^ n) (hk : k ≤ 8) :
    Calls Try.prog 60 #[.agg #[.int .i64 (n:Int), .int .i64 (s:Int)], .int .i64 (k:Int)] w fun e w' => e = .returned (.int .i64 ((waysN (bothN n s) k n [] : Nat) : Int)) ∧ Below w.heap.size w w' := by
  have hmx : Try.prog.follows .mixedOrders = true := by kernel_rfl
  have HC := Lib.hid (fun W => thereAndBack_any n s W h1 (by omega) hs)
  have HP := Lib.hid (fun g b W hI => paint_any n n (bothN n s) k b g n [] W h1 h2 (bothN_lt n s h1 hs) hk (by simp) (Nat.le_refl _) hI)
  generalize waysN (bothN n s) k n [] = y at *
  generalize bothN n s = q at *
  have hA0 := Duo.new w 43 (.int .i64 (n:Int)) (.int .i64 (s:Int))
  have hB0 : Below w.heap.size w (w.alloc (.cells #[.int .i64 (n:Int), .int .i64 (s:Int)] 43)) := (Below.refl _ _).alloc (Nat.le_refl _) _
  have hz0 : w.heap.size + 1 ≤ (w.alloc (.cells #[.int .i64 (n:Int), .int .i64 (s:Int)] 43)).heap.size := by simp
  go_enter Try.func60, Try.ntmps60
  go_wp2_with fail
  obtain ⟨W0, hW0⟩ : ∃ W0, w.alloc (.cells #[.int .i64 (n:Int), .int .i64 (s:Int)] 43) = W0 := ⟨_, rfl⟩
  rw [hW0] at hA0 hB0 hz0 ⊢
  clear hW0
  have hA0 : Duo W0.drew w.heap.size 43 (.int .i64 (n:Int)) (.int .i64 (s:Int)) := hA0
  have hB0 : Below w.heap.size w W0.drew := hB0.drew
  have hz0 : w.heap.size + 1 ≤ W0.drew.heap.size := hz0
  refine wp_region_held_drew (S := fun W => Duo W w.heap.size 43 (.int .i64 (n:Int)) (.int .i64 (s:Int))) hmx hA0 (fun _ => ?_)
  generalize W0.drew = W4 at *
  refine take1 0 (v := ?_) rfl (by kernel_rfl) (by kernel_rfl) (by kernel_rfl) (fun _ _ _ h => h) (by rfl) ?_ hA0 ?_
  rotate_left
  · intro W9 hA
    have c0 := hA.cell0
    have c1 := hA.cell1
    clear hA
    go_simp
    try with_reducible rfl
  try simp only [Act.put, List.setIfInBounds_toArray, List.set_cons_zero, List.set_cons_succ]
  refine take1 2 (v := ?_) rfl (by kernel_rfl) (by kernel_rfl) (by kernel_rfl) (fun _ _ _ h => h) (by rfl) ?_ hA0 ?_
  rotate_left
  · intro W9 hA
    have c0 := hA.cell0
    have c1 := hA.cell1
    clear hA
    go_simp
    try with_reducible rfl
  try simp only [Act.put, List.setIfInBounds_toArray, List.set_cons_zero, List.set_cons_succ]
  refine take1 3 (v := ?_) rfl (by kernel_rfl) (by kernel_rfl) (by kernel_rfl) (fun _ _ _ h => h) (by rfl) ?_ hA0 ?_
  rotate_left
  · intro W9 hA
    have c0 := hA.cell0
    have c1 := hA.cell1
    clear hA
    go_simp
    try with_reducible rfl
  try simp only [Act.put, List.setIfInBounds_toArray, List.set_cons_zero, List.set_cons_succ]
  refine take1 4 (v := ?_) rfl (by kernel_rfl) (by kernel_rfl) (by kernel_rfl) (fun _ _ _ h => h) (by rfl) ?_ hA0 ?_
  rotate_left
  · intro W9 hA
    have c0 := hA.cell0
    have c1 := hA.cell1
    clear hA
    go_simp
    try with_reducible rfl
  try simp only [Act.put, List.setIfInBounds_toArray, List.set_cons_zero, List.set_cons_succ]
  refine take1 6 (v := ?_) rfl (by kernel_rfl) (by kernel_rfl) (by kernel_rfl) (fun _ _ _ h => h) (by rfl) ?_ hA0 ?_
  rotate_left
  · intro W9 hA
    have c0 := hA.cell0
    have c1 := hA.cell1
    clear hA
    go_simp
    try with_reducible rfl
  try simp only [Act.put, List.setIfInBounds_toArray, List.set_cons_zero, List.set_cons_succ]
  refine step2 1 5 (by kernel_rfl) rfl rfl (fun K hK => ?_) (fun K hK => ?_)
  · go_simp
    refine (HC.out _).mono ?_
    rintro e Wc0 ⟨rfl, hbt⟩
    go_wp2_with fail
    have hA1 := duo_below hA0 hA0.lt hbt
    have hB1 := hB0.trans (hbt.mono hB0.size)
    have hz1 : w.heap.size + 1 ≤ Wc0.heap.size := Nat.le_trans hz0 hbt.size
    clear hbt
    refine hK.out _ _ hA1 ?_
    clear hK K
    try simp only [Act.put, List.setIfInBounds_toArray, List.set_cons_zero, List.set_cons_succ]
    refine step1 5 (by kernel_rfl) rfl (fun K hK => ?_)
    rw [if_pos (by rfl)]
    refine wp_make_ints (.const (.int .i64 0)) (.tmp 9) rfl Wc0.heap.size n Wc0 rfl rfl (by omega) (Nat.le_refl _) (fun Wm hIm hgm => ?_)
    have hgl := (World.ownsRow.lt hIm Wc0.heap.size rfl).2
    have hA2 : Duo Wm w.heap.size 43 (.int .i64 (n:Int)) (.int .i64 (s:Int)) := hA1.kept hgm (by simp)
    have hB2 := hB1.grown hgm hB1.size (fun k e => by cases e)
    have hz2 : w.heap.size + 1 ≤ Wm.heap.size := Nat.le_trans hz1 hgm.size
    refine hK.out _ _ hA2 ?_
    clear hK K
    try simp only [Act.put, List.setIfInBounds_toArray, List.set_cons_zero, List.set_cons_succ]
    refine step1 7 (by kernel_rfl) rfl (fun K hK => ?_)
    go_simp
    refine (HP.out Wc0.heap.size Wc0.heap.size _ hIm).mono ?_
    rintro e W7 ⟨rfl, hA7, hI7⟩
    go_wp2_with fail
    have hD7 := duo_aside hA2 hA7 (by omega)
    have hB7 := hB2.trans (hA7.below (by omega) (by omega))
    clear hA7 hI7
    refine hK.out _ _ hD7 ?_
    clear hK K
    try simp only [Act.put, List.setIfInBounds_toArray, List.set_cons_zero, List.set_cons_succ]
    refine take1 8 (v := ?_) rfl (by kernel_rfl) (by kernel_rfl) (by kernel_rfl) (fun _ _ _ h => h) (by rfl) ?_ hD7 ?_
    rotate_left
    · intro W9 hA
      have c0 := hA.cell0
      have c1 := hA.cell1
      clear hA
      go_simp
      try with_reducible rfl
    try simp only [Act.put, List.setIfInBounds_toArray, List.set_cons_zero, List.set_cons_succ]
    refine stop1 (by kernel_rfl) ?_
    go_wp2
    go_ret
    exact ⟨rfl, hB7⟩
  · rw [if_pos (by rfl)]
    refine wp_make_ints (.const (.int .i64 0)) (.tmp 9) rfl W4.heap.size n W4 rfl rfl (by omega) (Nat.le_refl _) (fun Wm hIm hgm => ?_)
    have hgl := (World.ownsRow.lt hIm W4.heap.size rfl).2
    have hA1 : Duo Wm w.heap.size 43 (.int .i64 (n:Int)) (.int .i64 (s:Int)) := hA0.kept hgm (by simp)
    have hB1 := hB0.grown hgm hB0.size (fun k e => by cases e)
    have hz1 : w.heap.size + 1 ≤ Wm.heap.size := Nat.le_trans hz0 hgm.size
    refine hK.out _ _ hA1 ?_
    clear hK K
    try simp only [Act.put, List.setIfInBounds_toArray, List.set_cons_zero, List.set_cons_succ]
    refine step1 1 (by kernel_rfl) rfl (fun K hK => ?_)
    go_simp
    refine (HC.out _).mono ?_
    rintro e Wc1 ⟨rfl, hbt⟩
    go_wp2_with fail
    have hA2 := duo_below hA1 hA1.lt hbt
    have hB2 := hB1.trans (hbt.mono hB1.size)
    have hz2 : w.heap.size + 1 ≤ Wc1.heap.size := Nat.le_trans hz1 hbt.size
    have hIn := IsInts.belowAll hIm hbt
    clear hbt
    refine hK.out _ _ hA2 ?_
    clear hK K
    try simp only [Act.put, List.setIfInBounds_toArray, List.set_cons_zero, List.set_cons_succ]
    refine step1 7 (by kernel_rfl) rfl (fun K hK => ?_)
    go_simp
    refine (HP.out W4.heap.size W4.heap.size _ hIn).mono ?_
    rintro e W7 ⟨rfl, hA7, hI7⟩
    go_wp2_with fail
    have hD7 := duo_aside hA2 hA7 (by omega)
    have hB7 := hB2.trans (hA7.below (by omega) (by omega))
    clear hA7 hI7
    refine hK.out _ _ hD7 ?_
    clear hK K
    try simp only [Act.put, List.setIfInBounds_toArray, List.set_cons_zero, List.set_cons_succ]
    refine take1 8 (v := ?_) rfl (by kernel_rfl) (by kernel_rfl) (by kernel_rfl) (fun _ _ _ h => h) (by rfl) ?_ hD7 ?_
    rotate_left
    · intro W9 hA
      have c0 := hA.cell0
      have c1 := hA.cell1
      clear hA
      go_simp
      try with_reducible rfl
    try simp only [Act.put, List.setIfInBounds_toArray, List.set_cons_zero, List.set_cons_succ]
    refine stop1 (by kernel_rfl) ?_
    go_wp2
    go_ret
    exact ⟨rfl, hB7⟩
theorem leastColours_any (n s : Nat) (w : World) (h1 : 1 ≤ n) (h2 : n ≤ 8) (hs : s < 2 ^ n) :
    Calls Try.prog 57 #[.agg #[.int .i64 (n:Int), .int .i64 (s:Int)]] w fun e w' => e = .returned (.int .i64 ((colF n s : Nat) : Int)) ∧ Below w.heap.size w w' := by
  have HF := Lib.hid (fun k (hk : k ≤ 8) W => fairWays_any n s k W h1 h2 hs hk)
  have HN := Lib.hid (canF_n n s)
  have HE := Lib.hid (fun k h1 h2 h3 h4 => colF_eq n s k h1 h2 h3 h4)
  have HW := Lib.hid (fun k => canF_ways n s k)
  have HD0 := Lib.hid (Duo.new w 43 (.int .i64 (n:Int)) (.int .i64 (s:Int)))
  have HB0 := Lib.hid ((Below.refl w.heap.size w).alloc (Nat.le_refl _) (.cells #[.int .i64 (n:Int), .int .i64 (s:Int)] 43))
  go_enter Try.func57, Try.ntmps57
  go_wp2
  go_loopw [3] (fun u wr => ∃ k : Nat, 1 ≤ k ∧ k ≤ n ∧ u = .int .i64 (k : Int) ∧ Hid (Below w.heap.size w wr) ∧ Hid (Duo wr w.heap.size 43 (.int .i64 (n:Int)) (.int .i64 (s:Int))) ∧ Hid (∀ j, 1 ≤ j → j < k → canF n s j = false)) (fun u _ => n + 1 - (intOf u).toNat)
  case atStart => exact ⟨1, Nat.le_refl _, h1, rfl, HB0, HD0, Lib.hid (fun j a b => absurd b (by omega))⟩
  case round =>
    obtain ⟨k, hk1, hk, rfl, HB, HD, HNo⟩ := hrel
    have d0 := HD.out.cell0
    have d1 := HD.out.cell1
    by_cases hlt : k < n
    · have c1 : (k : Int) < (n : Int) := by omega
      have HF1 := Lib.hid (HF.out k (by omega))
      have HW1 := Lib.hid (HW.out k)
      generalize waysN (bothN n s) k n [] = y at *
      by_cases hy : 0 < y
      · have HC : Hid (canF n s k = true) := Lib.hid (by rw [HW1.out]; exact decide_eq_true hy)
        have HF2 := Lib.hid (HE.out k hk1 (by omega) HC.out HNo.out)
        have y1 : (0 : Int) < (y : Int) := by omega
        clear hy HW1
        go_wp2_with fail
        refine (HF1.out _).mono ?_
        rintro e w2 ⟨rfl, hb2⟩
        have HB2 := Lib.hid (HB.out.trans (hb2.mono HB.out.size))
        clear hb2
        go_wp2
        go_ret
        exact ⟨by rw [HF2.out]; first | done | rfl, HB2.out⟩
      · have HC : Hid (canF n s k = false) := Lib.hid (by rw [HW1.out]; exact decide_eq_false hy)
        obtain rfl : y = 0 := by omega
        have HN2 : Hid (∀ j, 1 ≤ j → j < k + 1 → canF n s j = false) := Lib.hid (fun j h1 h2 => by
          by_cases e : j = k
          · subst e; exact HC.out
          · exact HNo.out j h1 (by omega))
        clear hy HW1
        go_wp2_with fail
        refine (HF1.out _).mono ?_
        rintro e w2 ⟨rfl, hb2⟩
        have HB2 := Lib.hid (HB.out.trans (hb2.mono HB.out.size))
        have HD2 := Lib.hid (duo_below HD.out HD.out.lt hb2)
        clear hb2
        go_wp2
        go_roundw
        case rel => exact ⟨k + 1, by omega, by omega, by go_num, HB2, HD2, HN2⟩
        case measure => simp [intOf]; omega
    · obtain rfl : k = n := by omega
      have HF2 := Lib.hid (HE.out k hk1 (by omega) HN.out HNo.out)
      go_wp2
      go_ret
      exact ⟨by rw [HF2.out]; first | done | rfl, HB.out⟩
theorem no_FreeWays : NoFreeWays := by
  intro n s k W h
  by_cases hn : NoStep n s
  · have HO := Lib.hid (stepsOf_no n s W hn)
    clear h hn
    go_enter Try.func28, Try.ntmps28
    go_wp2_with fail
    refine HO.out.mono ?_
    rintro e w1 ⟨rfl, hb1⟩
    go_wp2
    go_ret2
    exact ⟨rfl, by
    have := hb1.size
    first
    | exact hb1
    | exact hb1.alloc (by omega) _
    | exact (hb1.alloc (by omega) _).trans (hb2.mono (by simp; omega))
    | exact ((hb1.alloc (by omega) _).trans (hb2.mono (by simp; omega))).trans (hb3.mono (by have := hb2.size; simp at this; omega))
    | exact (((hb1.alloc (by omega) _).trans (hb2.mono (by simp; omega))).trans (hb3.mono (by have := hb2.size; simp at this; omega))).trans (hb4.mono (by have := hb2.size; have := hb3.size; simp at *; omega))⟩
  · obtain ⟨m, t, rfl, rfl, h1, h2, h3, h4⟩ := not_noStep hn
    have HO := Lib.hid (stepsOf_yes m t W h1 h2 h3 h4)
    have hh := h.resolve_left hn
    by_cases h8 : (m : Int) ≤ 8
    · have hk := hh.resolve_left (fun c => c h8)
      have k1 : ¬ (8 : Int) < (m : Int) := by omega
      have hB1 : ∀ w1, Below W.heap.size W w1 → Below W.heap.size W (w1.alloc (.cells #[.int .i64 (m:Int), .int .i64 (t:Int)] 43)) := fun w1 hb => hb.alloc hb.size _
      by_cases hk0 : k < 0
      · clear h hn hk hh h8
        go_enter Try.func28, Try.ntmps28
        go_wp2_with fail
        refine HO.out.mono ?_
        rintro e w1 ⟨rfl, hb1⟩
        have c0 := (Duo.new w1 43 (.int .i64 (m:Int)) (.int .i64 (t:Int))).cell0
        go_wp2
        go_ret2
        exact ⟨rfl, by
    have := hb1.size
    first
    | exact hb1
    | exact hb1.alloc (by omega) _
    | exact (hb1.alloc (by omega) _).trans (hb2.mono (by simp; omega))
    | exact ((hb1.alloc (by omega) _).trans (hb2.mono (by simp; omega))).trans (hb3.mono (by have := hb2.size; simp at this; omega))
    | exact (((hb1.alloc (by omega) _).trans (hb2.mono (by simp; omega))).trans (hb3.mono (by have := hb2.size; simp at this; omega))).trans (hb4.mono (by have := hb2.size; have := hb3.size; simp at *; omega))⟩
      · have k2 : (4 : Int) < k := by omega
        clear h hn hk hh h8
        go_enter Try.func28, Try.ntmps28
        go_wp2_with fail
        refine HO.out.mono ?_
        rintro e w1 ⟨rfl, hb1⟩
        have c0 := (Duo.new w1 43 (.int .i64 (m:Int)) (.int .i64 (t:Int))).cell0
        go_wp2
        go_ret2
        exact ⟨rfl, by
    have := hb1.size
    first
    | exact hb1
    | exact hb1.alloc (by omega) _
    | exact (hb1.alloc (by omega) _).trans (hb2.mono (by simp; omega))
    | exact ((hb1.alloc (by omega) _).trans (hb2.mono (by simp; omega))).trans (hb3.mono (by have := hb2.size; simp at this; omega))
    | exact (((hb1.alloc (by omega) _).trans (hb2.mono (by simp; omega))).trans (hb3.mono (by have := hb2.size; simp at this; omega))).trans (hb4.mono (by have := hb2.size; have := hb3.size; simp at *; omega))⟩
    · have k1 : (8 : Int) < (m : Int) := by omega
      clear h hn hh h8
      go_enter Try.func28, Try.ntmps28
      go_wp2_with fail
      refine HO.out.mono ?_
      rintro e w1 ⟨rfl, hb1⟩
      have c0 := (Duo.new w1 43 (.int .i64 (m:Int)) (.int .i64 (t:Int))).cell0
      go_wp2
      go_ret2
      exact ⟨rfl, by
    have := hb1.size
    first
    | exact hb1
    | exact hb1.alloc (by omega) _
    | exact (hb1.alloc (by omega) _).trans (hb2.mono (by simp; omega))
    | exact ((hb1.alloc (by omega) _).trans (hb2.mono (by simp; omega))).trans (hb3.mono (by have := hb2.size; simp at this; omega))
    | exact (((hb1.alloc (by omega) _).trans (hb2.mono (by simp; omega))).trans (hb3.mono (by have := hb2.size; simp at this; omega))).trans (hb4.mono (by have := hb2.size; have := hb3.size; simp at *; omega))⟩
theorem yes_FreeWays : YesFreeWays := by
  intro n s k W h1 h2 hs h0 hk
  have HO := Lib.hid (stepsOf_yes n s W h1 (by omega) hs h0)
  have HF := Lib.hid (fun W => fairWays_any n s k W h1 h2 hs (by omega))
  have HE : Hid (waysN (bothN n s) k n [] = waysF n s k) := Lib.hid rfl
  generalize waysN (bothN n s) k n [] = y at *
  have k1 : ¬ (8 : Int) < (n : Int) := by omega
  have k2 : ¬ (k : Int) < 0 := by omega
  have k3 : ¬ (4 : Int) < (k : Int) := by omega
  clear h0
  go_enter Try.func28, Try.ntmps28
  go_wp2_with fail
  refine HO.out.mono ?_
  rintro e w1 ⟨rfl, hb1⟩
  have c0 := (Duo.new w1 43 (.int .i64 (n:Int)) (.int .i64 (s:Int))).cell0
  go_wp2_with (go_at_call 60; refine (HF.out _).mono ?_; rintro e w2 ⟨rfl, hb2⟩)
  go_ret2
  exact ⟨by rw [HE.out]; rfl, by
    have := hb1.size
    first
    | exact hb1
    | exact hb1.alloc (by omega) _
    | exact (hb1.alloc (by omega) _).trans (hb2.mono (by simp; omega))
    | exact ((hb1.alloc (by omega) _).trans (hb2.mono (by simp; omega))).trans (hb3.mono (by have := hb2.size; simp at this; omega))
    | exact (((hb1.alloc (by omega) _).trans (hb2.mono (by simp; omega))).trans (hb3.mono (by have := hb2.size; simp at this; omega))).trans (hb4.mono (by have := hb2.size; have := hb3.size; simp at *; omega))⟩
theorem no_FreeColours : NoFreeColours := by
  intro n s W h
  by_cases hn : NoStep n s
  · have HO := Lib.hid (stepsOf_no n s W hn)
    clear h hn
    go_enter Try.func24, Try.ntmps24
    go_wp2_with fail
    refine HO.out.mono ?_
    rintro e w1 ⟨rfl, hb1⟩
    go_wp2
    go_ret2
    exact ⟨rfl, by
    have := hb1.size
    first
    | exact hb1
    | exact hb1.alloc (by omega) _
    | exact (hb1.alloc (by omega) _).trans (hb2.mono (by simp; omega))
    | exact ((hb1.alloc (by omega) _).trans (hb2.mono (by simp; omega))).trans (hb3.mono (by have := hb2.size; simp at this; omega))
    | exact (((hb1.alloc (by omega) _).trans (hb2.mono (by simp; omega))).trans (hb3.mono (by have := hb2.size; simp at this; omega))).trans (hb4.mono (by have := hb2.size; have := hb3.size; simp at *; omega))⟩
  · obtain ⟨m, t, rfl, rfl, h1, h2, h3, h4⟩ := not_noStep hn
    have HO := Lib.hid (stepsOf_yes m t W h1 h2 h3 h4)
    have h8 := h.resolve_left hn
    have k1 : (8 : Int) < (m : Int) := by omega
    clear h hn h8
    go_enter Try.func24, Try.ntmps24
    go_wp2_with fail
    refine HO.out.mono ?_
    rintro e w1 ⟨rfl, hb1⟩
    have c0 := (Duo.new w1 43 (.int .i64 (m:Int)) (.int .i64 (t:Int))).cell0
    go_wp2
    go_ret2
    exact ⟨rfl, by
    have := hb1.size
    first
    | exact hb1
    | exact hb1.alloc (by omega) _
    | exact (hb1.alloc (by omega) _).trans (hb2.mono (by simp; omega))
    | exact ((hb1.alloc (by omega) _).trans (hb2.mono (by simp; omega))).trans (hb3.mono (by have := hb2.size; simp at this; omega))
    | exact (((hb1.alloc (by omega) _).trans (hb2.mono (by simp; omega))).trans (hb3.mono (by have := hb2.size; simp at this; omega))).trans (hb4.mono (by have := hb2.size; have := hb3.size; simp at *; omega))⟩
theorem yes_FreeColours : YesFreeColours := by
  intro n s W h1 h2 hs h0
  have HO := Lib.hid (stepsOf_yes n s W h1 (by omega) hs h0)
  have HF := Lib.hid (fun W => leastColours_any n s W h1 h2 hs)
  have k1 : ¬ (8 : Int) < (n : Int) := by omega
  clear h0
  go_enter Try.func24, Try.ntmps24
  go_wp2_with fail
  refine HO.out.mono ?_
  rintro e w1 ⟨rfl, hb1⟩
  have c0 := (Duo.new w1 43 (.int .i64 (n:Int)) (.int .i64 (s:Int))).cell0
  go_wp2_with (go_at_call 57; refine (HF.out _).mono ?_; rintro e w2 ⟨rfl, hb2⟩)
  go_ret2
  exact ⟨rfl, by
    have := hb1.size
    first
    | exact hb1
    | exact hb1.alloc (by omega) _
    | exact (hb1.alloc (by omega) _).trans (hb2.mono (by simp; omega))
    | exact ((hb1.alloc (by omega) _).trans (hb2.mono (by simp; omega))).trans (hb3.mono (by have := hb2.size; simp at this; omega))
    | exact (((hb1.alloc (by omega) _).trans (hb2.mono (by simp; omega))).trans (hb3.mono (by have := hb2.size; simp at this; omega))).trans (hb4.mono (by have := hb2.size; have := hb3.size; simp at *; omega))⟩
end Go.Proofs.Ytfjcdcjhdjkjaaa
