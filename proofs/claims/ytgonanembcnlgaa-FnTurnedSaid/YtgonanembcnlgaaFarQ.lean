/- FarTurned: the program, and its exact law. -/
import Derived.Test.YtgonanembcnlgaaFarP
import Derived.Test.YtgonanembcnlgaaGF
namespace Go.Proofs.Ytgonanembcnlgaa
open Go.RowKit Go.Shelf
set_option linter.unusedVariables false
attribute [local go_sem] Oper.semAt_some
theorem duo_set2 {W : World} {B : Nat} {t : TypeId} {u v : Value} (h : Duo W B t u v) (x y : Value) : Duo ((W.setCell ⟨B, 0, none⟩ x).setCell ⟨B, 1, none⟩ y) B t x y := by
  unfold Duo at *
  simp [World.setCell, Array.getElem?_modify, h]
theorem Duo.frozen {W : World} {B : Nat} {t : TypeId} {u v : Value} (h : Duo W B t u v) (i : Nat) : W.frozen? ⟨B, i, none⟩ = false := by simp [World.frozen?, show W.heap[B]? = _ from h]
theorem isPlaceF_any (n : Nat) (v : Int) (w : World) :
    Calls Try.prog 62 #[.agg #[.int .i64 (n:Int)], .int .i64 v] w fun e w' => e = .returned (.bool (decide (0 ≤ v ∧ v < (n:Int)))) ∧ Below w.heap.size w w' := by
  by_cases h1 : 0 ≤ v <;> by_cases h2 : v < (n:Int) <;>
  · go_enter Try.func62, Try.ntmps62
    go_wp2
    go_ret
    exact ⟨ret_bool (by simp [h1, h2]), (Below.refl _ _).alloc (Nat.le_refl _) _⟩
set_option maxRecDepth 100000 in
set_option maxHeartbeats 4000000 in
theorem implFarTurned_yes (n s m : Nat) (w : World) (h1 : 1 ≤ n) (h2 : n ≤ 12) (hs : s < 2 ^ n) (h0 : s.testBit 0 = false) (hm : m < n) (hu : (unitsN n).testBit m = true) :
    Calls Try.prog 34 #[.int .i64 (n:Int), .int .i64 (s:Int), .int .i64 (m:Int)] w (ListsPost w n (tabI n (turnL n s m n))) := by
  have hmx : Try.prog.follows .mixedOrders = true := by kernel_rfl
  have hg := ((unitsN_bit n m).1 hu).2
  have HEq : Hid (tabI n (turnL n s (m : Int) n) = tabI n (dS (partN n (turnN n s m)) (farN n (turnN n s m)))) := Lib.hid (tabI_congr _ _ _ fun x hx => turnL_dist n s m x h1 h2 hs hm hg hx)
  have hO := stepsOf_yes n s w h1 h2 hs h0
  have HO := Lib.hid hO
  have hpl := fun W => isPlaceF_any n (m : Int) W
  rw [show decide ((0 : Int) ≤ (m : Int) ∧ (m : Int) < (n : Int)) = true from decide_eq_true ⟨by omega, by omega⟩] at hpl
  have HPl := Lib.hid hpl
  have HUn := Lib.hid (fun W => units_any n W h1 h2)
  have hul := unitsN_lt n
  have hp := pow_le n h2
  have hhas := fun W => has_any (unitsN n) m W (by omega) (by omega)
  rw [hu] at hhas
  have HHas := Lib.hid hhas
  have HTurn := Lib.hid (fun W => turn_any n s (m : Int) W h1 h2 hs (by omega) (by omega))
  have hql := turnN_lt n s (m : Int) h1
  obtain ⟨q, hq⟩ : ∃ q, turnN n s (m : Int) = q := ⟨_, rfl⟩
  rw [hq] at HEq HTurn hql
  rw [HEq.out]
  have HAsk := Lib.hid (fun M Ob f0 W hO hT => ask_any n q M Ob 0 f0 W h1 h2 hql hO hT)
  have HList := Lib.hid (fun M W hT => list_any n q M (partN n q) (farN n q) W h2 hT (fun v _ => far_le12 n q v h2))
  generalize unitsN n = un at *
  clear hO hpl hhas hq h0 hg hu HEq
  go_enter Try.func34, Try.ntmps34
  go_wp2_with fail
  refine HO.out.mono ?_
  rintro e w1 ⟨rfl, hb1⟩
  have z1 := hb1.size
  have hD1 := Duo.new w1 42 (.int .i64 (n:Int)) (.int .i64 (s:Int))
  have hB1 := hb1.alloc z1 (.cells #[.int .i64 (n:Int), .int .i64 (s:Int)] 42)
  have zw1 : (w1.alloc (.cells #[.int .i64 (n:Int), .int .i64 (s:Int)] 42)).heap.size = w1.heap.size + 1 := by simp
  have Hw1 := Lib.hid zw1
  clear hb1 zw1
  go_wp2_with (first
    | (go_at_call 62; refine (HPl.out _).mono ?_; rintro e w2 ⟨rfl, hb2⟩; have hD2 := duo_below hD1 hD1.lt hb2; have d20 := hD2.cell0; have d21 := hD2.cell1)
    | (go_at_call 63; refine (HUn.out _).mono ?_; rintro e w3 ⟨rfl, hb3⟩; have hD3 := duo_below hD2 hD2.lt hb3; have d30 := hD3.cell0; have d31 := hD3.cell1)
    | (go_at_call 64; refine (HHas.out _).mono ?_; rintro e w4 ⟨rfl, rfl⟩))
  have hB3 := (hB1.trans (hb2.mono hB1.size)).trans (hb3.mono (by have := hB1.size; have := hb2.size; omega))
  have z3 : w1.heap.size + 1 ≤ w3.heap.size := by have := Hw1.out; have := hb2.size; have := hb3.size; omega
  clear d20 d21 d30 d31 hb2 hb3 hD2 hD1 hB1
  have hA0 : Duo w3.drew w1.heap.size 42 (.int .i64 (n:Int)) (.int .i64 (s:Int)) := hD3
  have hB4 : Below w.heap.size w w3.drew := hB3.drew
  have z4 : w1.heap.size + 1 ≤ w3.drew.heap.size := z3
  refine wp_region_held_drew (S := fun W => Duo W w1.heap.size 42 (.int .i64 (n:Int)) (.int .i64 (s:Int))) hmx hA0 (fun _ => ?_)
  have HZ4 := Lib.hid z4
  generalize w3.drew = W4 at *
  clear hD3 hB3 z3 z4
  refine take1 0 (v := ?_) rfl (by kernel_rfl) (by kernel_rfl) (by kernel_rfl) (fun _ _ _ h => h) (by rfl) ?_ hA0 ?_
  rotate_left
  · intro W9 hA
    have c0 := hA.cell0
    have c1 := hA.cell1
    clear hA
    go_simp
    try with_reducible rfl
  try simp only [Act.put, List.setIfInBounds_toArray, List.set_cons_zero, List.set_cons_succ]
  refine take1 1 (v := ?_) rfl (by kernel_rfl) (by kernel_rfl) (by kernel_rfl) (fun _ _ _ h => h) (by rfl) ?_ hA0 ?_
  rotate_left
  · intro W9 hA
    have c0 := hA.cell0
    have c1 := hA.cell1
    clear hA
    go_simp
    try with_reducible rfl
  try simp only [Act.put, List.setIfInBounds_toArray, List.set_cons_zero, List.set_cons_succ]
  refine take1 2 (v := ?_) rfl (by kernel_rfl) (by kernel_rfl) (by kernel_rfl) (fun _ _ _ h => h) (by rfl) ?_ hA0 ?_
  rotate_left
  · intro W9 hA
    have c0 := hA.cell0
    have c1 := hA.cell1
    clear hA
    go_simp
    try with_reducible rfl
  try simp only [Act.put, List.setIfInBounds_toArray, List.set_cons_zero, List.set_cons_succ]
  refine take1 3 (v := ?_) rfl (by kernel_rfl) (by kernel_rfl) (by kernel_rfl) (fun _ _ _ h => h) (by rfl) ?_ hA0 ?_
  rotate_left
  · intro W9 hA
    have c0 := hA.cell0
    have c1 := hA.cell1
    clear hA
    go_simp
    try with_reducible rfl
  try simp only [Act.put, List.setIfInBounds_toArray, List.set_cons_zero, List.set_cons_succ]
  refine take1 4 (v := ?_) rfl (by kernel_rfl) (by kernel_rfl) (by kernel_rfl) (fun _ _ _ h => h) (by rfl) ?_ hA0 ?_
  rotate_left
  · intro W9 hA
    have c0 := hA.cell0
    have c1 := hA.cell1
    clear hA
    go_simp
    try with_reducible rfl
  try simp only [Act.put, List.setIfInBounds_toArray, List.set_cons_zero, List.set_cons_succ]
  refine take1 5 (v := ?_) rfl (by kernel_rfl) (by kernel_rfl) (by kernel_rfl) (fun _ _ _ h => h) (by rfl) ?_ hA0 ?_
  rotate_left
  · intro W9 hA
    have c0 := hA.cell0
    have c1 := hA.cell1
    clear hA
    go_simp
    try with_reducible rfl
  try simp only [Act.put, List.setIfInBounds_toArray, List.set_cons_zero, List.set_cons_succ]
  refine take1 6 (v := ?_) rfl (by kernel_rfl) (by kernel_rfl) (by kernel_rfl) (fun _ _ _ h => h) (by rfl) ?_ hA0 ?_
  rotate_left
  · intro W9 hA
    have c0 := hA.cell0
    have c1 := hA.cell1
    clear hA
    go_simp
    try with_reducible rfl
  try simp only [Act.put, List.setIfInBounds_toArray, List.set_cons_zero, List.set_cons_succ]
  refine step2 7 9 (by kernel_rfl) rfl rfl (fun K hK => ?_) (fun K hK => ?_)
  · go_simp
    refine (HTurn.out _).mono ?_
    rintro e Wt ⟨rfl, hbt⟩
    go_wp2_with fail
    have hA1 := duo_below hA0 hA0.lt hbt
    have hBt := hB4.trans (hbt.mono hB4.size)
    have zt := hbt.size
    refine hK.out _ _ hA1 ?_
    clear hK K
    try simp only [Act.put, List.setIfInBounds_toArray, List.set_cons_zero, List.set_cons_succ]
    refine take1 8 (v := ?_) rfl (by kernel_rfl) (by kernel_rfl) (by kernel_rfl) (fun _ _ _ h => h) (by rfl) ?_ hA1 ?_
    rotate_left
    · intro W9 hA
      have c0 := hA.cell0
      have c1 := hA.cell1
      clear hA
      go_simp
      try with_reducible rfl
    try simp only [Act.put, List.setIfInBounds_toArray, List.set_cons_zero, List.set_cons_succ]
    refine step1 9 (by kernel_rfl) rfl (fun K hK => ?_)
    go_simp
    have hN := Duo.new Wt 42 (.int .i64 0) (.int .i64 0)
    have hA2 := hA1.alloc (.cells #[.int .i64 0, .int .i64 0] 42)
    have hB2 := hBt.alloc hBt.size (.cells #[.int .i64 0, .int .i64 0] 42)
    refine hK.out _ _ hA2 ?_
    clear hK K
    try simp only [Act.put, List.setIfInBounds_toArray, List.set_cons_zero, List.set_cons_succ]
    have HzB := Lib.hid hBt.size
    have HNe := Lib.hid (show w1.heap.size ≠ Wt.heap.size by have := HZ4.out; omega)
    clear zt
    generalize Wt.heap.size = Bs at *
    obtain ⟨Wa, hWa⟩ : ∃ Wa, (Wt.alloc (.cells #[.int .i64 0, .int .i64 0] 42)) = Wa := ⟨_, rfl⟩
    try rw [hWa] at hN hA2 hB2
    try rw [hWa]
    have n0 := hN.cell0
    have n1 := hN.cell1
    have g0 := hN.frozen 0
    have g1 := hN.frozen 1
    refine step1 10 (by kernel_rfl) rfl (fun K hK => ?_)
    go_simp
    have hA3 := hA2.same ((Below.heap_setCell (Wa.setCell ⟨Bs, 0, none⟩ (.int .i64 (n:Int))) ⟨Bs, 1, none⟩ (.int .i64 (q:Int)) w1.heap.size HNe.out).trans (Below.heap_setCell Wa ⟨Bs, 0, none⟩ (.int .i64 (n:Int)) w1.heap.size HNe.out))
    have hD5' := duo_set2 hN (.int .i64 (n:Int)) (.int .i64 (q:Int))
    have hB5' := (hB2.setCell (p := ⟨Bs, 0, none⟩) HzB.out (.int .i64 (n:Int))).setCell (p := ⟨Bs, 1, none⟩) HzB.out (.int .i64 (q:Int))
    refine hK.out _ _ hA3 ?_
    clear hK K
    try simp only [Act.put, List.setIfInBounds_toArray, List.set_cons_zero, List.set_cons_succ]
    obtain ⟨W5, hW5⟩ : ∃ W5, (Wa.setCell ⟨Bs, 0, none⟩ (.int .i64 (n:Int))).setCell ⟨Bs, 1, none⟩ (.int .i64 (q:Int)) = W5 := ⟨_, rfl⟩
    have hD5 : Duo W5 Bs 42 (.int .i64 (n:Int)) (.int .i64 (q:Int)) := hW5 ▸ hD5'
    have hB5 : Below w.heap.size w W5 := hW5 ▸ hB5'
    rw [hW5]
    clear hD5' hB5' hW5 hA3 hWa n0 n1 g0 g1
    refine stop1 (by kernel_rfl) ?_
    go_wp2
    have hG0 : Duo W5.drew Bs 42 (.int .i64 (n:Int)) (.int .i64 (q:Int)) := hD5
    have zB5 := hB5.size
    refine wp_region_held_drew (S := fun W => Duo W (Bs) 42 (.int .i64 (n:Int)) (.int .i64 (q:Int))) hmx hG0 (fun _ => ?_)
    have hB6 : Below w.heap.size w W5.drew := hB5.drew
    have HZ6 := Lib.hid (show Bs < W5.drew.heap.size from hG0.lt)
    generalize W5.drew = W6 at *
    clear hD5 hB5
    refine take1 1 (v := ?_) rfl (by kernel_rfl) (by kernel_rfl) (by kernel_rfl) (fun _ _ _ h => h) (by rfl) ?_ hG0 ?_
    rotate_left
    · intro W9 hA
      have c0 := hA.cell0
      have c1 := hA.cell1
      clear hA
      go_simp
      try with_reducible rfl
    try simp only [Act.put, List.setIfInBounds_toArray, List.set_cons_zero, List.set_cons_succ]
    refine step1 0 (by kernel_rfl) rfl (fun K hK => ?_)
    go_simp
    refine (asker_any _).mono ?_
    rintro e W7 ⟨rfl, rfl⟩
    go_wp2_with fail
    have hG1 := (hG0.alloc (.map #[] 0)).alloc (.cells #[.map (some W6.heap.size)] 43)
    have hT7 := (tells_made W6 (fun _ => 0)).alloc (.cells #[.map (some W6.heap.size)] 43)
    have hO7 := Boxed.new (W6.alloc (.map #[] 0)) 43 (.map (some W6.heap.size))
    have hB7 := (hB6.alloc hB6.size (.map #[] 0)).alloc (by have := hB6.size; simp; omega) (.cells #[.map (some W6.heap.size)] 43)
    rw [World.size_alloc] at hO7
    have z67 : W6.heap.size ≤ ((W6.alloc (.map #[] 0)).alloc (.cells #[.map (some W6.heap.size)] 43)).heap.size := by simp; omega
    refine hK.out _ _ hG1 ?_
    clear hK K
    try simp only [Act.put, List.setIfInBounds_toArray, List.set_cons_zero, List.set_cons_succ]
    obtain ⟨W7, hW7⟩ : ∃ W7, (W6.alloc (.map #[] 0)).alloc (.cells #[.map (some W6.heap.size)] 43) = W7 := ⟨_, rfl⟩
    rw [hW7] at hG1 hT7 hO7 hB7 z67 ⊢
    clear hW7
    have Hz67 := Lib.hid z67
    clear z67
    refine step1 2 (by kernel_rfl) rfl (fun K hK => ?_)
    go_simp
    refine (HAsk.out _ _ _ W7 hO7 hT7).mono ?_
    rintro e W8 ⟨rfl, hA8, hT8⟩
    go_wp2_with fail
    have hG2 := hA8.duo hG1 (by have := HZ6.out; omega)
    have hB8 : Below w.heap.size w W8 := hB7.trans (hA8.below hB6.size (by have := hB7.size; omega))
    refine hK.out _ _ hG2 ?_
    clear hK K
    try simp only [Act.put, List.setIfInBounds_toArray, List.set_cons_zero, List.set_cons_succ]
    refine step1 3 (by kernel_rfl) rfl (fun K hK => ?_)
    go_simp
    refine (HList.out _ W8 hT8).mono ?_
    rintro e W9 ⟨g, cap, rfl, hb9, hI9⟩
    go_wp2_with fail
    have HI9 := Lib.hid hI9
    have hB9 := hB8.trans (hb9.mono hB8.size)
    clear hI9
    refine hK.out _ _ (duo_below hG2 hG2.lt hb9) ?_
    clear hK K
    try simp only [Act.put, List.setIfInBounds_toArray, List.set_cons_zero, List.set_cons_succ]
    refine step1 4 (by kernel_rfl) rfl (fun K hK => ?_)
    go_simp
    refine hK.out _ _ (duo_below hG2 hG2.lt hb9) ?_
    clear hK K
    try simp only [Act.put, List.setIfInBounds_toArray, List.set_cons_zero, List.set_cons_succ]
    refine step1 5 (by kernel_rfl) rfl (fun K hK => ?_)
    go_simp
    refine hK.out _ _ (duo_below hG2 hG2.lt hb9) ?_
    clear hK K
    try simp only [Act.put, List.setIfInBounds_toArray, List.set_cons_zero, List.set_cons_succ]
    refine stop1 (by kernel_rfl) ?_
    go_wp2
    go_ret2
    exact ⟨g, cap, rfl, hB9, HI9.out.base hB8.size⟩
  · go_simp
    have hN0 := Duo.new W4 42 (.int .i64 0) (.int .i64 0)
    have hA1 := hA0.alloc (.cells #[.int .i64 0, .int .i64 0] 42)
    have hB1 := hB4.alloc hB4.size (.cells #[.int .i64 0, .int .i64 0] 42)
    have HzB := Lib.hid hB4.size
    have HNe := Lib.hid (show w1.heap.size ≠ W4.heap.size by have := HZ4.out; omega)
    refine hK.out _ _ hA1 ?_
    clear hK K
    try simp only [Act.put, List.setIfInBounds_toArray, List.set_cons_zero, List.set_cons_succ]
    generalize W4.heap.size = Bs at *
    refine step1 7 (by kernel_rfl) rfl (fun K hK => ?_)
    go_simp
    refine (HTurn.out _).mono ?_
    rintro e Wt ⟨rfl, hbt⟩
    go_wp2_with fail
    have hA2 := duo_below hA1 hA1.lt hbt
    have hN := duo_below hN0 hN0.lt hbt
    have hB2 := hB1.trans (hbt.mono hB1.size)
    refine hK.out _ _ hA2 ?_
    clear hK K
    try simp only [Act.put, List.setIfInBounds_toArray, List.set_cons_zero, List.set_cons_succ]
    refine take1 8 (v := ?_) rfl (by kernel_rfl) (by kernel_rfl) (by kernel_rfl) (fun _ _ _ h => h) (by rfl) ?_ hA2 ?_
    rotate_left
    · intro W9 hA
      have c0 := hA.cell0
      have c1 := hA.cell1
      clear hA
      go_simp
      try with_reducible rfl
    try simp only [Act.put, List.setIfInBounds_toArray, List.set_cons_zero, List.set_cons_succ]
    obtain ⟨Wa, hWa⟩ : ∃ Wa, Wt = Wa := ⟨_, rfl⟩
    try rw [hWa] at hN hA2 hB2
    try rw [hWa]
    have n0 := hN.cell0
    have n1 := hN.cell1
    have g0 := hN.frozen 0
    have g1 := hN.frozen 1
    refine step1 10 (by kernel_rfl) rfl (fun K hK => ?_)
    go_simp
    have hA3 := hA2.same ((Below.heap_setCell (Wa.setCell ⟨Bs, 0, none⟩ (.int .i64 (n:Int))) ⟨Bs, 1, none⟩ (.int .i64 (q:Int)) w1.heap.size HNe.out).trans (Below.heap_setCell Wa ⟨Bs, 0, none⟩ (.int .i64 (n:Int)) w1.heap.size HNe.out))
    have hD5' := duo_set2 hN (.int .i64 (n:Int)) (.int .i64 (q:Int))
    have hB5' := (hB2.setCell (p := ⟨Bs, 0, none⟩) HzB.out (.int .i64 (n:Int))).setCell (p := ⟨Bs, 1, none⟩) HzB.out (.int .i64 (q:Int))
    refine hK.out _ _ hA3 ?_
    clear hK K
    try simp only [Act.put, List.setIfInBounds_toArray, List.set_cons_zero, List.set_cons_succ]
    obtain ⟨W5, hW5⟩ : ∃ W5, (Wa.setCell ⟨Bs, 0, none⟩ (.int .i64 (n:Int))).setCell ⟨Bs, 1, none⟩ (.int .i64 (q:Int)) = W5 := ⟨_, rfl⟩
    have hD5 : Duo W5 Bs 42 (.int .i64 (n:Int)) (.int .i64 (q:Int)) := hW5 ▸ hD5'
    have hB5 : Below w.heap.size w W5 := hW5 ▸ hB5'
    rw [hW5]
    clear hD5' hB5' hW5 hA3 hWa n0 n1 g0 g1
    refine stop1 (by kernel_rfl) ?_
    go_wp2
    have hG0 : Duo W5.drew Bs 42 (.int .i64 (n:Int)) (.int .i64 (q:Int)) := hD5
    have zB5 := hB5.size
    refine wp_region_held_drew (S := fun W => Duo W (Bs) 42 (.int .i64 (n:Int)) (.int .i64 (q:Int))) hmx hG0 (fun _ => ?_)
    have hB6 : Below w.heap.size w W5.drew := hB5.drew
    have HZ6 := Lib.hid (show Bs < W5.drew.heap.size from hG0.lt)
    generalize W5.drew = W6 at *
    clear hD5 hB5
    refine take1 1 (v := ?_) rfl (by kernel_rfl) (by kernel_rfl) (by kernel_rfl) (fun _ _ _ h => h) (by rfl) ?_ hG0 ?_
    rotate_left
    · intro W9 hA
      have c0 := hA.cell0
      have c1 := hA.cell1
      clear hA
      go_simp
      try with_reducible rfl
    try simp only [Act.put, List.setIfInBounds_toArray, List.set_cons_zero, List.set_cons_succ]
    refine step1 0 (by kernel_rfl) rfl (fun K hK => ?_)
    go_simp
    refine (asker_any _).mono ?_
    rintro e W7 ⟨rfl, rfl⟩
    go_wp2_with fail
    have hG1 := (hG0.alloc (.map #[] 0)).alloc (.cells #[.map (some W6.heap.size)] 43)
    have hT7 := (tells_made W6 (fun _ => 0)).alloc (.cells #[.map (some W6.heap.size)] 43)
    have hO7 := Boxed.new (W6.alloc (.map #[] 0)) 43 (.map (some W6.heap.size))
    have hB7 := (hB6.alloc hB6.size (.map #[] 0)).alloc (by have := hB6.size; simp; omega) (.cells #[.map (some W6.heap.size)] 43)
    rw [World.size_alloc] at hO7
    have z67 : W6.heap.size ≤ ((W6.alloc (.map #[] 0)).alloc (.cells #[.map (some W6.heap.size)] 43)).heap.size := by simp; omega
    refine hK.out _ _ hG1 ?_
    clear hK K
    try simp only [Act.put, List.setIfInBounds_toArray, List.set_cons_zero, List.set_cons_succ]
    obtain ⟨W7, hW7⟩ : ∃ W7, (W6.alloc (.map #[] 0)).alloc (.cells #[.map (some W6.heap.size)] 43) = W7 := ⟨_, rfl⟩
    rw [hW7] at hG1 hT7 hO7 hB7 z67 ⊢
    clear hW7
    have Hz67 := Lib.hid z67
    clear z67
    refine step1 2 (by kernel_rfl) rfl (fun K hK => ?_)
    go_simp
    refine (HAsk.out _ _ _ W7 hO7 hT7).mono ?_
    rintro e W8 ⟨rfl, hA8, hT8⟩
    go_wp2_with fail
    have hG2 := hA8.duo hG1 (by have := HZ6.out; omega)
    have hB8 : Below w.heap.size w W8 := hB7.trans (hA8.below hB6.size (by have := hB7.size; omega))
    refine hK.out _ _ hG2 ?_
    clear hK K
    try simp only [Act.put, List.setIfInBounds_toArray, List.set_cons_zero, List.set_cons_succ]
    refine step1 3 (by kernel_rfl) rfl (fun K hK => ?_)
    go_simp
    refine (HList.out _ W8 hT8).mono ?_
    rintro e W9 ⟨g, cap, rfl, hb9, hI9⟩
    go_wp2_with fail
    have HI9 := Lib.hid hI9
    have hB9 := hB8.trans (hb9.mono hB8.size)
    clear hI9
    refine hK.out _ _ (duo_below hG2 hG2.lt hb9) ?_
    clear hK K
    try simp only [Act.put, List.setIfInBounds_toArray, List.set_cons_zero, List.set_cons_succ]
    refine step1 4 (by kernel_rfl) rfl (fun K hK => ?_)
    go_simp
    refine hK.out _ _ (duo_below hG2 hG2.lt hb9) ?_
    clear hK K
    try simp only [Act.put, List.setIfInBounds_toArray, List.set_cons_zero, List.set_cons_succ]
    refine step1 5 (by kernel_rfl) rfl (fun K hK => ?_)
    go_simp
    refine hK.out _ _ (duo_below hG2 hG2.lt hb9) ?_
    clear hK K
    try simp only [Act.put, List.setIfInBounds_toArray, List.set_cons_zero, List.set_cons_succ]
    refine stop1 (by kernel_rfl) ?_
    go_wp2
    go_ret2
    exact ⟨g, cap, rfl, hB9, HI9.out.base hB8.size⟩
end Go.Proofs.Ytgonanembcnlgaa
