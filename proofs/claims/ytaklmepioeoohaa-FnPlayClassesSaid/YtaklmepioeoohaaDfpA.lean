/- Differences, the program's side: tables. Written by gen76.py. -/
import Derived.Test.YtaklmepioeoohaaDfpM
import Derived.Test.YtaklmepioeoohaaCountsI
import Derived.Test.YtaklmepioeoohaaGB
import Derived.Test.YtaklmepioeoohaaRoA
namespace Go.Proofs.Ytaklmepioeoohaa
open Go.RowKit Go.Shelf
set_option linter.unusedVariables false
attribute [local go_sem] Oper.semAt_some
theorem differences_any (n s : Nat) (w : World) (h1 : 1 ≤ n) (h2 : n ≤ 12) (hs : s < 2 ^ n) :
    Calls Try.prog 85 #[.agg #[.int .i64 (n:Int)], .int .i64 (s:Int)] w fun e w' => ∃ g, e = .returned (.slice (some ⟨g, 0, none⟩) n n) ∧ Below w.heap.size w w' ∧ IsInts w' w.heap.size (.slice (some ⟨g, 0, none⟩) n n) (difL n s) := by
  have hd := counts_dif n s h1 h2 hs
  have ht := turnN_lt n s (-1) h1
  have HT := Lib.hid (fun W => turn_any n s (-1) W h1 h2 hs (by omega) (by omega))
  have hc := fun W => counts_any n s (turnN n s (-1)) W h1 h2 hs ht
  simp only [hd] at hc
  have HC := Lib.hid hc
  clear hc hd
  generalize turnN n s (-1) = t at *
  have hmx : Try.prog.follows .mixedOrders = true := by kernel_rfl
  have hA0 := Boxed.new w 42 (.int .i64 (n:Int))
  have hB0 : Below w.heap.size w (w.alloc (.cells #[.int .i64 (n:Int)] 42)) := (Below.refl _ _).alloc (Nat.le_refl _) _
  have hz0 : w.heap.size + 1 ≤ (w.alloc (.cells #[.int .i64 (n:Int)] 42)).heap.size := by simp
  go_enter Try.func85, Try.ntmps85
  go_wp2_with fail
  obtain ⟨W0, hW0⟩ : ∃ W0, w.alloc (.cells #[.int .i64 (n:Int)] 42) = W0 := ⟨_, rfl⟩
  rw [hW0] at hA0 hB0 hz0 ⊢
  clear hW0
  have hA0 : Boxed W0.drew w.heap.size 42 (.int .i64 (n:Int)) := hA0
  have hB0 : Below w.heap.size w W0.drew := hB0.drew
  have hz0 : w.heap.size + 1 ≤ W0.drew.heap.size := hz0
  refine wp_region_held_drew (S := fun W => Boxed W w.heap.size 42 (.int .i64 (n:Int))) hmx hA0 (fun _ => ?_)
  generalize W0.drew = W4 at *
  refine take1 0 (v := ?_) rfl (by kernel_rfl) (by kernel_rfl) (by kernel_rfl) (fun _ _ _ h => h) (by rfl) ?_ hA0 ?_
  rotate_left
  · intro W9 hA
    have c0 := hA.cell
    clear hA
    go_simp
    try with_reducible rfl
  try simp only [Act.put, List.setIfInBounds_toArray, List.set_cons_zero, List.set_cons_succ]
  refine take1 1 (v := ?_) rfl (by kernel_rfl) (by kernel_rfl) (by kernel_rfl) (fun _ _ _ h => h) (by rfl) ?_ hA0 ?_
  rotate_left
  · intro W9 hA
    have c0 := hA.cell
    clear hA
    go_simp
    try with_reducible rfl
  try simp only [Act.put, List.setIfInBounds_toArray, List.set_cons_zero, List.set_cons_succ]
  refine take1 2 (v := ?_) rfl (by kernel_rfl) (by kernel_rfl) (by kernel_rfl) (fun _ _ _ h => h) (by rfl) ?_ hA0 ?_
  rotate_left
  · intro W9 hA
    have c0 := hA.cell
    clear hA
    go_simp
    try with_reducible rfl
  try simp only [Act.put, List.setIfInBounds_toArray, List.set_cons_zero, List.set_cons_succ]
  refine take1 3 (v := ?_) rfl (by kernel_rfl) (by kernel_rfl) (by kernel_rfl) (fun _ _ _ h => h) (by rfl) ?_ hA0 ?_
  rotate_left
  · intro W9 hA
    have c0 := hA.cell
    clear hA
    go_simp
    try with_reducible rfl
  try simp only [Act.put, List.setIfInBounds_toArray, List.set_cons_zero, List.set_cons_succ]
  refine step1 4 (by kernel_rfl) rfl (fun K hK => ?_)
  go_simp
  refine (HT.out _).mono ?_
  rintro e Wt ⟨rfl, hbt⟩
  go_wp2_with fail
  have hA1 := boxed_below hA0 hA0.lt hbt
  have hB1 := hB0.trans (hbt.mono hB0.size)
  have hz1 : w.heap.size + 1 ≤ Wt.heap.size := Nat.le_trans hz0 hbt.size
  refine hK.out _ _ hA1 ?_
  clear hK K
  try simp only [Act.put, List.setIfInBounds_toArray, List.set_cons_zero, List.set_cons_succ]
  refine step1 5 (by kernel_rfl) rfl (fun K hK => ?_)
  go_simp
  refine (HC.out _).mono ?_
  rintro e Wu ⟨rfl, hbu, hIu⟩
  go_wp2_with fail
  have hA2 := boxed_below hA1 hA1.lt hbu
  have hB2 := hB1.trans (hbu.mono hB1.size)
  have HI := Lib.hid (hIu.base (Nat.le_trans (Nat.le_succ _) hz1))
  refine hK.out _ _ hA2 ?_
  clear hK K hIu
  try simp only [Act.put, List.setIfInBounds_toArray, List.set_cons_zero, List.set_cons_succ]
  refine take1 6 (v := ?_) rfl (by kernel_rfl) (by kernel_rfl) (by kernel_rfl) (fun _ _ _ h => h) (by rfl) ?_ hA2 ?_
  rotate_left
  · intro W9 hA
    have c0 := hA.cell
    clear hA
    go_simp
    try with_reducible rfl
  try simp only [Act.put, List.setIfInBounds_toArray, List.set_cons_zero, List.set_cons_succ]
  refine stop1 (by kernel_rfl) ?_
  go_wp2
  go_ret
  exact ⟨_, rfl, hB2, HI.out⟩
/-- The tail of a list that lies in memory: all but its first one. -/
def Tail (W : World) (g : Nat) (xs : List Int) : Prop := g < W.heap.size ∧ ∀ i, i < xs.length → W.cell? ⟨g, 1 + i, none⟩ = some (.int .i64 (xs.getD i 0))
theorem Tail.below {W W' : World} {g : Nat} {xs : List Int} {N : Nat} (h : Tail W g xs) (hN : g < N) (hb : Below N W W') : Tail W' g xs :=
  ⟨Nat.lt_of_lt_of_le h.1 hb.size, fun i hi => (hb.cell (p := ⟨g, 1 + i, none⟩) hN).trans (h.2 i hi)⟩
theorem tail_of {W : World} {b g n cp : Nat} {xs : List Int} (h : IsInts W b (.slice (some ⟨g, 0, none⟩) n cp) xs) (hl : xs.length = n) (hn : 1 ≤ n) : Tail W g (xs.drop 1) := by
  refine ⟨(World.ownsRow.lt h g rfl).2, fun i hi => ?_⟩
  rw [List.length_drop] at hi
  have h2 := h.cell (i := 1 + i) (by omega)
  rw [h2, List.getD_eq_getElem?_getD, List.getD_eq_getElem?_getD, List.getElem?_drop]
theorem behind_one (g : Nat) (w : World) :
    Calls Try.prog 86 #[.slice (some ⟨g, 0, none⟩) 1 1] w fun e w' => (∃ A, e = .returned (.slice A 0 0)) ∧ w = w' := by
  go_enter Try.func86, Try.ntmps86
  go_wp2
  go_ret
  exact ⟨⟨_, rfl⟩, rfl⟩
theorem behind_any (g n : Nat) (w : World) (h1 : 2 ≤ n) (h2 : n ≤ 12) :
    Calls Try.prog 86 #[.slice (some ⟨g, 0, none⟩) n n] w fun e w' => e = .returned (.slice (some ⟨g, 1, none⟩) (n - 1) (n - 1)) ∧ w = w' := by
  have i1 : (1 : Int) ≤ (n : Int) := by omega
  have i4 : 0 < n := by omega
  have i5 : (n = 1) = False := by simp; omega
  go_enter Try.func86, Try.ntmps86
  go_wp2
  go_ret
  exact ⟨rfl, rfl⟩
end Go.Proofs.Ytaklmepioeoohaa
