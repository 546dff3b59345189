/- Free sets, the program's side: both steps and the others of both. Written by gen49.py. -/
import Derived.Test.YtcmobeeneleidaaFrpA
namespace Go.Proofs.Ytcmobeeneleidaa
open Go.RowKit Go.Shelf
set_option linter.unusedVariables false
theorem thereAndBack_any (n s : Nat) (w : World) (h1 : 1 ≤ n) (h2 : n ≤ 12) (hs : s < 2 ^ n) :
    Calls Try.prog 56 #[.agg #[.int .i64 (n:Int), .int .i64 (s:Int)]] w fun e w' => e = .returned (.agg #[.int .i64 (n:Int), .int .i64 ((bothN n s : Nat) : Int)]) ∧ Below w.heap.size w w' := by
  have HC := Lib.hid (fun W => both_any n s W h1 h2 hs)
  generalize bothN n s = q at *
  have hmx : Try.prog.follows .mixedOrders = true := by kernel_rfl
  have hA0 : Duo ((w.alloc (.cells #[.int .i64 (n:Int), .int .i64 (s:Int)] 39)).alloc (.cells #[.int .i64 0, .int .i64 0] 39)) w.heap.size 39 (.int .i64 (n:Int)) (.int .i64 (s:Int)) ∧ Duo ((w.alloc (.cells #[.int .i64 (n:Int), .int .i64 (s:Int)] 39)).alloc (.cells #[.int .i64 0, .int .i64 0] 39)) (w.heap.size + 1) 39 (.int .i64 0) (.int .i64 0) := by
    constructor
    · exact (Duo.new w 39 (.int .i64 (n:Int)) (.int .i64 (s:Int))).alloc _
    · have h := Duo.new (w.alloc (.cells #[.int .i64 (n:Int), .int .i64 (s:Int)] 39)) 39 (.int .i64 0) (.int .i64 0)
      rwa [World.size_alloc] at h
  have hB0 : Below w.heap.size w ((w.alloc (.cells #[.int .i64 (n:Int), .int .i64 (s:Int)] 39)).alloc (.cells #[.int .i64 0, .int .i64 0] 39)) := ((Below.refl _ _).alloc (Nat.le_refl _) _).alloc (by simp) _
  have hz0 : w.heap.size + 2 ≤ ((w.alloc (.cells #[.int .i64 (n:Int), .int .i64 (s:Int)] 39)).alloc (.cells #[.int .i64 0, .int .i64 0] 39)).heap.size := by simp
  go_enter Try.func56, Try.ntmps56
  go_wp2_with fail
  obtain ⟨W0, hW0⟩ : ∃ W0, (w.alloc (.cells #[.int .i64 (n:Int), .int .i64 (s:Int)] 39)).alloc (.cells #[.int .i64 0, .int .i64 0] 39) = W0 := ⟨_, rfl⟩
  rw [hW0] at hA0 hB0 hz0 ⊢
  clear hW0
  have hA0 : Duo W0.drew w.heap.size 39 (.int .i64 (n:Int)) (.int .i64 (s:Int)) ∧ Duo W0.drew (w.heap.size + 1) 39 (.int .i64 0) (.int .i64 0) := hA0
  have hB0 : Below w.heap.size w W0.drew := hB0.drew
  have hz0 : w.heap.size + 2 ≤ W0.drew.heap.size := hz0
  refine wp_region_held_drew (S := fun W => Duo W w.heap.size 39 (.int .i64 (n:Int)) (.int .i64 (s:Int)) ∧ ∃ u v, Duo W (w.heap.size + 1) 39 u v) hmx ⟨hA0.1, _, _, hA0.2⟩ (fun _ => ?_)
  generalize W0.drew = W4 at *
  refine take1 0 (v := ?_) rfl (by kernel_rfl) (by kernel_rfl) (by kernel_rfl) (fun _ _ _ h => h) (by rfl) ?_ ⟨hA0.1, _, _, hA0.2⟩ ?_
  rotate_left
  · intro W9 hA
    have c0 := hA.1.cell0
    have c1 := hA.1.cell1
    clear hA
    go_simp
    try with_reducible rfl
  try simp only [Act.put, List.setIfInBounds_toArray, List.set_cons_zero, List.set_cons_succ]
  refine take1 1 (v := ?_) rfl (by kernel_rfl) (by kernel_rfl) (by kernel_rfl) (fun _ _ _ h => h) (by rfl) ?_ ⟨hA0.1, _, _, hA0.2⟩ ?_
  rotate_left
  · intro W9 hA
    have c0 := hA.1.cell0
    have c1 := hA.1.cell1
    clear hA
    go_simp
    try with_reducible rfl
  try simp only [Act.put, List.setIfInBounds_toArray, List.set_cons_zero, List.set_cons_succ]
  refine take1 2 (v := ?_) rfl (by kernel_rfl) (by kernel_rfl) (by kernel_rfl) (fun _ _ _ h => h) (by rfl) ?_ ⟨hA0.1, _, _, hA0.2⟩ ?_
  rotate_left
  · intro W9 hA
    have c0 := hA.1.cell0
    have c1 := hA.1.cell1
    clear hA
    go_simp
    try with_reducible rfl
  try simp only [Act.put, List.setIfInBounds_toArray, List.set_cons_zero, List.set_cons_succ]
  refine step1 3 (by kernel_rfl) rfl (fun K hK => ?_)
  go_simp
  refine (HC.out _).mono ?_
  rintro e Wt1 ⟨rfl, hbt⟩
  go_wp2_with fail
  have hA1 : Duo Wt1 w.heap.size 39 (.int .i64 (n:Int)) (.int .i64 (s:Int)) ∧ Duo Wt1 (w.heap.size + 1) 39 (.int .i64 0) (.int .i64 0) := ⟨duo_below hA0.1 hA0.1.lt hbt, duo_below hA0.2 hA0.2.lt hbt⟩
  have hB1 := hB0.trans (hbt.mono hB0.size)
  have hz1 : w.heap.size + 2 ≤ Wt1.heap.size := Nat.le_trans hz0 hbt.size
  clear hbt
  refine hK.out _ _ ⟨hA1.1, _, _, hA1.2⟩ ?_
  clear hK K
  try simp only [Act.put, List.setIfInBounds_toArray, List.set_cons_zero, List.set_cons_succ]
  refine take1 4 (v := ?_) rfl (by kernel_rfl) (by kernel_rfl) (by kernel_rfl) (fun _ _ _ h => h) (by rfl) ?_ ⟨hA1.1, _, _, hA1.2⟩ ?_
  rotate_left
  · intro W9 hA
    have c0 := hA.1.cell0
    have c1 := hA.1.cell1
    clear hA
    go_simp
    try with_reducible rfl
  try simp only [Act.put, List.setIfInBounds_toArray, List.set_cons_zero, List.set_cons_succ]
  have g0 := hA1.2.cell0
  have g1 := hA1.2.cell1
  have k0 := duoFrozen hA1.2 0
  have k1 := duoFrozen hA1.2 1
  refine step1 5 (by kernel_rfl) rfl (fun K hK => ?_)
  go_simp
  have hA9 := duoSet2 hA1.2 (.int .i64 (n:Int)) (.int .i64 (q:Int))
  have hN9 : Duo ((Wt1.setCell ⟨w.heap.size + 1, 0, none⟩ (.int .i64 (n:Int))).setCell ⟨w.heap.size + 1, 1, none⟩ (.int .i64 (q:Int))) w.heap.size 39 (.int .i64 (n:Int)) (.int .i64 (s:Int)) :=
    ((Below.heap_setCell _ _ _ w.heap.size (by simp)).trans (Below.heap_setCell Wt1 _ _ w.heap.size (by simp))).trans hA1.1
  have hB9 := (hB1.setCell (p := ⟨w.heap.size + 1, 0, none⟩) (by simp) (.int .i64 (n:Int))).setCell (p := ⟨w.heap.size + 1, 1, none⟩) (by simp) (.int .i64 (q:Int))
  refine hK.out _ _ ⟨hN9, _, _, hA9⟩ ?_
  clear hK K
  try simp only [Act.put, List.setIfInBounds_toArray, List.set_cons_zero, List.set_cons_succ]
  have c0 := hA9.cell0
  have c1 := hA9.cell1
  refine stop1 (by kernel_rfl) ?_
  go_wp2
  refine bodyPost_ret (v := .agg #[.int .i64 (n:Int), .int .i64 (q:Int)]) ?_ rfl ⟨rfl, hB9⟩
  simp [results, Try.results56, go_sem, c0, c1]
theorem apart_any (n s : Nat) (w : World) (h1 : 1 ≤ n) (h2 : n ≤ 12) (hs : s < 2 ^ n) :
    Calls Try.prog 38 #[.agg #[.int .i64 (n:Int), .int .i64 (s:Int)]] w fun e w' => e = .returned (.agg #[.int .i64 (n:Int), .int .i64 ((otherN n (bothN n s) : Nat) : Int)]) ∧ Below w.heap.size w w' := by
  have HC := Lib.hid (fun W => thereAndBack_any n s W h1 h2 hs)
  have HO := Lib.hid (fun W => other_any n (bothN n s) W h1 h2 (bothN_lt n s h1 hs))
  generalize otherN n (bothN n s) = q at *
  generalize bothN n s = r at *
  have hmx : Try.prog.follows .mixedOrders = true := by kernel_rfl
  have hA0 : Duo ((w.alloc (.cells #[.int .i64 (n:Int), .int .i64 (s:Int)] 39)).alloc (.cells #[.int .i64 0, .int .i64 0] 39)) w.heap.size 39 (.int .i64 (n:Int)) (.int .i64 (s:Int)) ∧ Duo ((w.alloc (.cells #[.int .i64 (n:Int), .int .i64 (s:Int)] 39)).alloc (.cells #[.int .i64 0, .int .i64 0] 39)) (w.heap.size + 1) 39 (.int .i64 0) (.int .i64 0) := by
    constructor
    · exact (Duo.new w 39 (.int .i64 (n:Int)) (.int .i64 (s:Int))).alloc _
    · have h := Duo.new (w.alloc (.cells #[.int .i64 (n:Int), .int .i64 (s:Int)] 39)) 39 (.int .i64 0) (.int .i64 0)
      rwa [World.size_alloc] at h
  have hB0 : Below w.heap.size w ((w.alloc (.cells #[.int .i64 (n:Int), .int .i64 (s:Int)] 39)).alloc (.cells #[.int .i64 0, .int .i64 0] 39)) := ((Below.refl _ _).alloc (Nat.le_refl _) _).alloc (by simp) _
  have hz0 : w.heap.size + 2 ≤ ((w.alloc (.cells #[.int .i64 (n:Int), .int .i64 (s:Int)] 39)).alloc (.cells #[.int .i64 0, .int .i64 0] 39)).heap.size := by simp
  go_enter Try.func38, Try.ntmps38
  go_wp2_with fail
  obtain ⟨W0, hW0⟩ : ∃ W0, (w.alloc (.cells #[.int .i64 (n:Int), .int .i64 (s:Int)] 39)).alloc (.cells #[.int .i64 0, .int .i64 0] 39) = W0 := ⟨_, rfl⟩
  rw [hW0] at hA0 hB0 hz0 ⊢
  clear hW0
  have hA0 : Duo W0.drew w.heap.size 39 (.int .i64 (n:Int)) (.int .i64 (s:Int)) ∧ Duo W0.drew (w.heap.size + 1) 39 (.int .i64 0) (.int .i64 0) := hA0
  have hB0 : Below w.heap.size w W0.drew := hB0.drew
  have hz0 : w.heap.size + 2 ≤ W0.drew.heap.size := hz0
  refine wp_region_held_drew (S := fun W => Duo W w.heap.size 39 (.int .i64 (n:Int)) (.int .i64 (s:Int)) ∧ ∃ u v, Duo W (w.heap.size + 1) 39 u v) hmx ⟨hA0.1, _, _, hA0.2⟩ (fun _ => ?_)
  generalize W0.drew = W4 at *
  refine take1 0 (v := ?_) rfl (by kernel_rfl) (by kernel_rfl) (by kernel_rfl) (fun _ _ _ h => h) (by rfl) ?_ ⟨hA0.1, _, _, hA0.2⟩ ?_
  rotate_left
  · intro W9 hA
    have c0 := hA.1.cell0
    have c1 := hA.1.cell1
    clear hA
    go_simp
    try with_reducible rfl
  try simp only [Act.put, List.setIfInBounds_toArray, List.set_cons_zero, List.set_cons_succ]
  refine take1 1 (v := ?_) rfl (by kernel_rfl) (by kernel_rfl) (by kernel_rfl) (fun _ _ _ h => h) (by rfl) ?_ ⟨hA0.1, _, _, hA0.2⟩ ?_
  rotate_left
  · intro W9 hA
    have c0 := hA.1.cell0
    have c1 := hA.1.cell1
    clear hA
    go_simp
    try with_reducible rfl
  try simp only [Act.put, List.setIfInBounds_toArray, List.set_cons_zero, List.set_cons_succ]
  refine take1 2 (v := ?_) rfl (by kernel_rfl) (by kernel_rfl) (by kernel_rfl) (fun _ _ _ h => h) (by rfl) ?_ ⟨hA0.1, _, _, hA0.2⟩ ?_
  rotate_left
  · intro W9 hA
    have c0 := hA.1.cell0
    have c1 := hA.1.cell1
    clear hA
    go_simp
    try with_reducible rfl
  try simp only [Act.put, List.setIfInBounds_toArray, List.set_cons_zero, List.set_cons_succ]
  refine step1 3 (by kernel_rfl) rfl (fun K hK => ?_)
  go_simp
  refine (HC.out _).mono ?_
  rintro e Wt1 ⟨rfl, hbt⟩
  go_wp2_with fail
  have hA1 : Duo Wt1 w.heap.size 39 (.int .i64 (n:Int)) (.int .i64 (s:Int)) ∧ Duo Wt1 (w.heap.size + 1) 39 (.int .i64 0) (.int .i64 0) := ⟨duo_below hA0.1 hA0.1.lt hbt, duo_below hA0.2 hA0.2.lt hbt⟩
  have hB1 := hB0.trans (hbt.mono hB0.size)
  have hz1 : w.heap.size + 2 ≤ Wt1.heap.size := Nat.le_trans hz0 hbt.size
  clear hbt
  refine hK.out _ _ ⟨hA1.1, _, _, hA1.2⟩ ?_
  clear hK K
  try simp only [Act.put, List.setIfInBounds_toArray, List.set_cons_zero, List.set_cons_succ]
  refine step1 4 (by kernel_rfl) rfl (fun K hK => ?_)
  go_simp
  refine (HO.out _).mono ?_
  rintro e Wt2 ⟨rfl, hbt⟩
  go_wp2_with fail
  have hA2 : Duo Wt2 w.heap.size 39 (.int .i64 (n:Int)) (.int .i64 (s:Int)) ∧ Duo Wt2 (w.heap.size + 1) 39 (.int .i64 0) (.int .i64 0) := ⟨duo_below hA1.1 hA1.1.lt hbt, duo_below hA1.2 hA1.2.lt hbt⟩
  have hB2 := hB1.trans (hbt.mono hB1.size)
  have hz2 : w.heap.size + 2 ≤ Wt2.heap.size := Nat.le_trans hz1 hbt.size
  clear hbt
  refine hK.out _ _ ⟨hA2.1, _, _, hA2.2⟩ ?_
  clear hK K
  try simp only [Act.put, List.setIfInBounds_toArray, List.set_cons_zero, List.set_cons_succ]
  refine take1 5 (v := ?_) rfl (by kernel_rfl) (by kernel_rfl) (by kernel_rfl) (fun _ _ _ h => h) (by rfl) ?_ ⟨hA2.1, _, _, hA2.2⟩ ?_
  rotate_left
  · intro W9 hA
    have c0 := hA.1.cell0
    have c1 := hA.1.cell1
    clear hA
    go_simp
    try with_reducible rfl
  try simp only [Act.put, List.setIfInBounds_toArray, List.set_cons_zero, List.set_cons_succ]
  have g0 := hA2.2.cell0
  have g1 := hA2.2.cell1
  have k0 := duoFrozen hA2.2 0
  have k1 := duoFrozen hA2.2 1
  refine step1 6 (by kernel_rfl) rfl (fun K hK => ?_)
  go_simp
  have hA9 := duoSet2 hA2.2 (.int .i64 (n:Int)) (.int .i64 (q:Int))
  have hN9 : Duo ((Wt2.setCell ⟨w.heap.size + 1, 0, none⟩ (.int .i64 (n:Int))).setCell ⟨w.heap.size + 1, 1, none⟩ (.int .i64 (q:Int))) w.heap.size 39 (.int .i64 (n:Int)) (.int .i64 (s:Int)) :=
    ((Below.heap_setCell _ _ _ w.heap.size (by simp)).trans (Below.heap_setCell Wt2 _ _ w.heap.size (by simp))).trans hA2.1
  have hB9 := (hB2.setCell (p := ⟨w.heap.size + 1, 0, none⟩) (by simp) (.int .i64 (n:Int))).setCell (p := ⟨w.heap.size + 1, 1, none⟩) (by simp) (.int .i64 (q:Int))
  refine hK.out _ _ ⟨hN9, _, _, hA9⟩ ?_
  clear hK K
  try simp only [Act.put, List.setIfInBounds_toArray, List.set_cons_zero, List.set_cons_succ]
  have c0 := hA9.cell0
  have c1 := hA9.cell1
  refine stop1 (by kernel_rfl) ?_
  go_wp2
  refine bodyPost_ret (v := .agg #[.int .i64 (n:Int), .int .i64 (q:Int)]) ?_ rfl ⟨rfl, hB9⟩
  simp [results, Try.results38, go_sem, c0, c1]
end Go.Proofs.Ytcmobeeneleidaa
