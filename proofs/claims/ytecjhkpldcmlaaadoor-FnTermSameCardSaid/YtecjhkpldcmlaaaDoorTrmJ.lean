/- Terms: the model makes terms tidy. Written by gen140.py. -/
import Derived.Test.YtecjhkpldcmlaaaDoorTrmI
namespace Go.Proofs.YtecjhkpldcmlaaaDoor
open Go.RowKit Go.Shelf
set_option linter.unusedVariables false
attribute [local go_sem] Oper.semAt_some
/-- The model makes a term tidy. -/
def TidySays (n : Nat) (t : Tm) : Prop := ∀ (v : Value) (w : World), IsTm w t v → Calls Tryd.prog 54 #[.int .i64 (n:Int), v] w fun e w' => e = .returned (.string (toB (showT (tidyT n t)))) ∧ Below w.heap.size w w'
theorem pair_text (k : UInt8) (a d : Tm) (ha : (showT a).length ≤ 1000) (hd : (showT d).length ≤ 1000) :
    (⟨#[40]⟩ : ByteArray).size + (toB (showT a)).size ≤ 9223372036854775807 ∧ ((⟨#[40]⟩ : ByteArray) ++ toB (showT a)).size + (⟨#[k]⟩ : ByteArray).size ≤ 9223372036854775807 ∧
    ((⟨#[40]⟩ : ByteArray) ++ toB (showT a) ++ ⟨#[k]⟩).size + (toB (showT d)).size ≤ 9223372036854775807 ∧ ((⟨#[40]⟩ : ByteArray) ++ toB (showT a) ++ ⟨#[k]⟩ ++ toB (showT d)).size + (⟨#[41]⟩ : ByteArray).size ≤ 9223372036854775807 ∧
    (⟨#[40]⟩ : ByteArray) ++ toB (showT a) ++ ⟨#[k]⟩ ++ toB (showT d) ++ ⟨#[41]⟩ = toB (showT (.two k a d)) := by
  have q40 : (⟨#[40]⟩ : ByteArray) = toB [40] := rfl
  have q41 : (⟨#[41]⟩ : ByteArray) = toB [41] := rfl
  have qk : (⟨#[k]⟩ : ByteArray) = toB [k] := rfl
  rw [q40, q41, qk]
  simp only [toB_append, toB_size]
  refine ⟨by simp; omega, by simp; omega, by simp; omega, by simp; omega, ?_⟩
  congr 1
  show _ = (40 : UInt8) :: (showT a ++ k :: (showT d ++ [41]))
  simp
theorem tidy_leaf (n : Nat) (c : UInt8) : TidySays n (.leaf c) := by
  rintro v w ⟨A, cap, rfl⟩
  have hb : ∀ W : World, (convert 22 9 (.slice (some ⟨W.heap.size, 0, none⟩) 1 1)).run Tryd.prog (W.alloc (.cells #[.int .u8 (c.toNat : Int)] 5)) = .ok (.string (toB [c])) (W.alloc (.cells #[.int .u8 (c.toNat : Int)] 5)) := fun W => byteT c W
  have hb2 := hb (w.alloc (.cells #[.int .u8 (c.toNat : Int), .slice A 0 cap] 50))
  simp only [World.size_alloc] at hb2
  show Calls Tryd.prog 54 #[.int .i64 (n:Int), .agg #[.int .u8 (c.toNat : Int), .slice A 0 cap]] w fun e w' => e = .returned (.string (toB [c])) ∧ Below w.heap.size w w'
  generalize toB [c] = X at *
  generalize c.toNat = x at *
  go_enter Tryd.func54, Tryd.ntmps54
  go_wp2
  go_ret
  exact ⟨rfl, ((Below.refl _ _).alloc (Nat.le_refl _) _).alloc (by simp) _⟩
set_option maxHeartbeats 2000000 in
theorem tidy_not (n : Nat) (a : Tm) (h1 : 1 ≤ n) (h2 : n ≤ 12) (ho : okT n a = true) (hl : (showT a).length ≤ 100) (ih : TidySays n a) : TidySays n (.one 33 a) := by
  have hmx : Tryd.prog.follows .mixedOrders = true := by kernel_rfl
  intro v w hI
  obtain ⟨b, z, A, l, q, rfl, hb, c0, c1, hK⟩ := hI.openOne
  have hc' : (((33 : UInt8).toNat : Nat) : Int) = 33 := rfl
  rw [hc']
  have HX := Lib.hid (fun W hb => ih _ W (hK.below hb a))
  have HFr := Lib.hid (fun W => front33_any n (tidyT n a) W (ok_tidy n a h1 h2 ho) (by have := len_tidy n a; omega))
  have HV : Hid (showT (tidyT n (.one 33 a)) = showT (front33 (tidyT n a))) := Lib.hid rfl
  rw [HV.out]
  clear ih hK hI HV ho hl
  generalize toB (showT (front33 (tidyT n a))) = R at *
  generalize toB (showT (tidyT n a)) = S at *
  go_enter Tryd.func54, Tryd.ntmps54
  go_wp2_with fail
  obtain ⟨W0, hW0⟩ : ∃ W0, w.alloc (.cells #[.int .u8 33, .slice (some ⟨b, 0, none⟩) 1 1] 50) = W0 := ⟨_, rfl⟩
  have HF : Hid (∀ W, Below W0.heap.size W0 W → W.cell? ⟨w.heap.size, 0, none⟩ = some (.int .u8 33) ∧ W.cell? ⟨w.heap.size, 1, none⟩ = some (.slice (some ⟨b, 0, none⟩) 1 1) ∧ W.cell? ⟨b, 0, none⟩ = some (.int .u8 z) ∧ W.cell? ⟨b, 1, none⟩ = some (.slice A l q) ∧ Below w.heap.size w W) := Lib.hid (fun W h => by
    obtain ⟨f0, f1, f2⟩ := box_facts w W0 _ _ _ hW0 W h
    exact ⟨f0, f1, kid_cell f2 hb c0, kid_cell f2 hb c1, f2⟩)
  rw [hW0]
  clear hW0 c0 c1
  have hA0 : Below W0.heap.size W0 W0.drew := (Below.refl _ _).drew
  refine wp_region_held_drew (S := fun V => Below W0.heap.size W0 V) hmx hA0 (fun _ => ?_)
  generalize W0.drew = V0 at *
  refine take1 0 (v := ?_) rfl (by kernel_rfl) (by kernel_rfl) (by kernel_rfl) (fun _ _ _ h => h) (by rfl) ?_ hA0 ?_
  rotate_left
  · intro V9 hA
    obtain ⟨f0, f1, f2, f3, f4⟩ := HF.out _ hA
    clear hA
    go_simp
    try with_reducible rfl
  try simp only [Act.put, List.setIfInBounds_toArray, List.set_cons_zero, List.set_cons_succ]
  refine take1 1 (v := ?_) rfl (by kernel_rfl) (by kernel_rfl) (by kernel_rfl) (fun _ _ _ h => h) (by rfl) ?_ hA0 ?_
  rotate_left
  · intro V9 hA
    obtain ⟨f0, f1, f2, f3, f4⟩ := HF.out _ hA
    clear hA
    go_simp
    try with_reducible rfl
  try simp only [Act.put, List.setIfInBounds_toArray, List.set_cons_zero, List.set_cons_succ]
  refine take1 2 (v := ?_) rfl (by kernel_rfl) (by kernel_rfl) (by kernel_rfl) (fun _ _ _ h => h) (by rfl) ?_ hA0 ?_
  rotate_left
  · intro V9 hA
    obtain ⟨f0, f1, f2, f3, f4⟩ := HF.out _ hA
    clear hA
    go_simp
    try with_reducible rfl
  try simp only [Act.put, List.setIfInBounds_toArray, List.set_cons_zero, List.set_cons_succ]
  refine take1 3 (v := ?_) rfl (by kernel_rfl) (by kernel_rfl) (by kernel_rfl) (fun _ _ _ h => h) (by rfl) ?_ hA0 ?_
  rotate_left
  · intro V9 hA
    obtain ⟨f0, f1, f2, f3, f4⟩ := HF.out _ hA
    clear hA
    go_simp
    try with_reducible rfl
  try simp only [Act.put, List.setIfInBounds_toArray, List.set_cons_zero, List.set_cons_succ]
  refine take1 4 (v := ?_) rfl (by kernel_rfl) (by kernel_rfl) (by kernel_rfl) (fun _ _ _ h => h) (by rfl) ?_ hA0 ?_
  rotate_left
  · intro V9 hA
    obtain ⟨f0, f1, f2, f3, f4⟩ := HF.out _ hA
    clear hA
    go_simp
    try with_reducible rfl
  try simp only [Act.put, List.setIfInBounds_toArray, List.set_cons_zero, List.set_cons_succ]
  refine take1 5 (v := ?_) rfl (by kernel_rfl) (by kernel_rfl) (by kernel_rfl) (fun _ _ _ h => h) (by rfl) ?_ hA0 ?_
  rotate_left
  · intro V9 hA
    obtain ⟨f0, f1, f2, f3, f4⟩ := HF.out _ hA
    clear hA
    go_simp
    try with_reducible rfl
  try simp only [Act.put, List.setIfInBounds_toArray, List.set_cons_zero, List.set_cons_succ]
  refine take1 6 (v := ?_) rfl (by kernel_rfl) (by kernel_rfl) (by kernel_rfl) (fun _ _ _ h => h) (by rfl) ?_ hA0 ?_
  rotate_left
  · intro V9 hA
    obtain ⟨f0, f1, f2, f3, f4⟩ := HF.out _ hA
    clear hA
    go_simp
    try with_reducible rfl
  try simp only [Act.put, List.setIfInBounds_toArray, List.set_cons_zero, List.set_cons_succ]
  refine take1 7 (v := ?_) rfl (by kernel_rfl) (by kernel_rfl) (by kernel_rfl) (fun _ _ _ h => h) (by rfl) ?_ hA0 ?_
  rotate_left
  · intro V9 hA
    obtain ⟨f0, f1, f2, f3, f4⟩ := HF.out _ hA
    clear hA
    go_simp
    try with_reducible rfl
  try simp only [Act.put, List.setIfInBounds_toArray, List.set_cons_zero, List.set_cons_succ]
  refine step1 8 (by kernel_rfl) rfl (fun K hK => ?_)
  go_simp
  refine (HX.out _ (HF.out _ hA0).2.2.2.2).mono ?_
  rintro e V1 ⟨rfl, hb1⟩
  go_wp2_with fail
  have hA1 := hA0.trans (hb1.mono hA0.size)
  refine hK.out _ _ hA1 ?_
  clear hK K
  try simp only [Act.put, List.setIfInBounds_toArray, List.set_cons_zero, List.set_cons_succ]
  refine step1 9 (by kernel_rfl) rfl (fun K hK => ?_)
  go_simp
  refine (HFr.out _).mono ?_
  rintro e V2 ⟨rfl, hb2⟩
  go_wp2_with fail
  have hA2 := hA1.trans (hb2.mono hA1.size)
  refine hK.out _ _ hA2 ?_
  clear hK K
  try simp only [Act.put, List.setIfInBounds_toArray, List.set_cons_zero, List.set_cons_succ]
  refine take1 10 (v := ?_) rfl (by kernel_rfl) (by kernel_rfl) (by kernel_rfl) (fun _ _ _ h => h) (by rfl) ?_ hA2 ?_
  rotate_left
  · intro V9 hA
    obtain ⟨f0, f1, f2, f3, f4⟩ := HF.out _ hA
    clear hA
    go_simp
    try with_reducible rfl
  try simp only [Act.put, List.setIfInBounds_toArray, List.set_cons_zero, List.set_cons_succ]
  refine stop1 (by kernel_rfl) ?_
  have hE := (HF.out _ hA2).2.2.2.2
  go_wp2
  go_ret
  exact ⟨rfl, hE⟩
set_option maxHeartbeats 2000000 in
theorem tidy_minus (n : Nat) (a : Tm) (h1 : 1 ≤ n) (h2 : n ≤ 12) (ho : okT n a = true) (hl : (showT a).length ≤ 100) (ih : TidySays n a) : TidySays n (.one 45 a) := by
  have hmx : Tryd.prog.follows .mixedOrders = true := by kernel_rfl
  intro v w hI
  obtain ⟨b, z, A, l, q, rfl, hb, c0, c1, hK⟩ := hI.openOne
  have hc' : (((45 : UInt8).toNat : Nat) : Int) = 45 := rfl
  rw [hc']
  have HX := Lib.hid (fun W hb => ih _ W (hK.below hb a))
  have HFr := Lib.hid (fun W => front45_any n h1 h2 (tidyT n a) (ok_tidy n a h1 h2 ho) (by have := len_tidy n a; omega) W)
  have HV : Hid (showT (tidyT n (.one 45 a)) = showT (front45 n (tidyT n a))) := Lib.hid rfl
  rw [HV.out]
  clear ih hK hI HV ho hl
  generalize toB (showT (front45 n (tidyT n a))) = R at *
  generalize toB (showT (tidyT n a)) = S at *
  go_enter Tryd.func54, Tryd.ntmps54
  go_wp2_with fail
  obtain ⟨W0, hW0⟩ : ∃ W0, w.alloc (.cells #[.int .u8 45, .slice (some ⟨b, 0, none⟩) 1 1] 50) = W0 := ⟨_, rfl⟩
  have HF : Hid (∀ W, Below W0.heap.size W0 W → W.cell? ⟨w.heap.size, 0, none⟩ = some (.int .u8 45) ∧ W.cell? ⟨w.heap.size, 1, none⟩ = some (.slice (some ⟨b, 0, none⟩) 1 1) ∧ W.cell? ⟨b, 0, none⟩ = some (.int .u8 z) ∧ W.cell? ⟨b, 1, none⟩ = some (.slice A l q) ∧ Below w.heap.size w W) := Lib.hid (fun W h => by
    obtain ⟨f0, f1, f2⟩ := box_facts w W0 _ _ _ hW0 W h
    exact ⟨f0, f1, kid_cell f2 hb c0, kid_cell f2 hb c1, f2⟩)
  rw [hW0]
  clear hW0 c0 c1
  have hA0 : Below W0.heap.size W0 W0.drew := (Below.refl _ _).drew
  refine wp_region_held_drew (S := fun V => Below W0.heap.size W0 V) hmx hA0 (fun _ => ?_)
  generalize W0.drew = V0 at *
  refine take1 0 (v := ?_) rfl (by kernel_rfl) (by kernel_rfl) (by kernel_rfl) (fun _ _ _ h => h) (by rfl) ?_ hA0 ?_
  rotate_left
  · intro V9 hA
    obtain ⟨f0, f1, f2, f3, f4⟩ := HF.out _ hA
    clear hA
    go_simp
    try with_reducible rfl
  try simp only [Act.put, List.setIfInBounds_toArray, List.set_cons_zero, List.set_cons_succ]
  refine take1 1 (v := ?_) rfl (by kernel_rfl) (by kernel_rfl) (by kernel_rfl) (fun _ _ _ h => h) (by rfl) ?_ hA0 ?_
  rotate_left
  · intro V9 hA
    obtain ⟨f0, f1, f2, f3, f4⟩ := HF.out _ hA
    clear hA
    go_simp
    try with_reducible rfl
  try simp only [Act.put, List.setIfInBounds_toArray, List.set_cons_zero, List.set_cons_succ]
  refine take1 2 (v := ?_) rfl (by kernel_rfl) (by kernel_rfl) (by kernel_rfl) (fun _ _ _ h => h) (by rfl) ?_ hA0 ?_
  rotate_left
  · intro V9 hA
    obtain ⟨f0, f1, f2, f3, f4⟩ := HF.out _ hA
    clear hA
    go_simp
    try with_reducible rfl
  try simp only [Act.put, List.setIfInBounds_toArray, List.set_cons_zero, List.set_cons_succ]
  refine take1 3 (v := ?_) rfl (by kernel_rfl) (by kernel_rfl) (by kernel_rfl) (fun _ _ _ h => h) (by rfl) ?_ hA0 ?_
  rotate_left
  · intro V9 hA
    obtain ⟨f0, f1, f2, f3, f4⟩ := HF.out _ hA
    clear hA
    go_simp
    try with_reducible rfl
  try simp only [Act.put, List.setIfInBounds_toArray, List.set_cons_zero, List.set_cons_succ]
  refine take1 4 (v := ?_) rfl (by kernel_rfl) (by kernel_rfl) (by kernel_rfl) (fun _ _ _ h => h) (by rfl) ?_ hA0 ?_
  rotate_left
  · intro V9 hA
    obtain ⟨f0, f1, f2, f3, f4⟩ := HF.out _ hA
    clear hA
    go_simp
    try with_reducible rfl
  try simp only [Act.put, List.setIfInBounds_toArray, List.set_cons_zero, List.set_cons_succ]
  refine take1 5 (v := ?_) rfl (by kernel_rfl) (by kernel_rfl) (by kernel_rfl) (fun _ _ _ h => h) (by rfl) ?_ hA0 ?_
  rotate_left
  · intro V9 hA
    obtain ⟨f0, f1, f2, f3, f4⟩ := HF.out _ hA
    clear hA
    go_simp
    try with_reducible rfl
  try simp only [Act.put, List.setIfInBounds_toArray, List.set_cons_zero, List.set_cons_succ]
  refine take1 6 (v := ?_) rfl (by kernel_rfl) (by kernel_rfl) (by kernel_rfl) (fun _ _ _ h => h) (by rfl) ?_ hA0 ?_
  rotate_left
  · intro V9 hA
    obtain ⟨f0, f1, f2, f3, f4⟩ := HF.out _ hA
    clear hA
    go_simp
    try with_reducible rfl
  try simp only [Act.put, List.setIfInBounds_toArray, List.set_cons_zero, List.set_cons_succ]
  refine take1 7 (v := ?_) rfl (by kernel_rfl) (by kernel_rfl) (by kernel_rfl) (fun _ _ _ h => h) (by rfl) ?_ hA0 ?_
  rotate_left
  · intro V9 hA
    obtain ⟨f0, f1, f2, f3, f4⟩ := HF.out _ hA
    clear hA
    go_simp
    try with_reducible rfl
  try simp only [Act.put, List.setIfInBounds_toArray, List.set_cons_zero, List.set_cons_succ]
  refine step1 8 (by kernel_rfl) rfl (fun K hK => ?_)
  go_simp
  refine (HX.out _ (HF.out _ hA0).2.2.2.2).mono ?_
  rintro e V1 ⟨rfl, hb1⟩
  go_wp2_with fail
  have hA1 := hA0.trans (hb1.mono hA0.size)
  refine hK.out _ _ hA1 ?_
  clear hK K
  try simp only [Act.put, List.setIfInBounds_toArray, List.set_cons_zero, List.set_cons_succ]
  refine step1 9 (by kernel_rfl) rfl (fun K hK => ?_)
  go_simp
  refine (HFr.out _).mono ?_
  rintro e V2 ⟨rfl, hb2⟩
  go_wp2_with fail
  have hA2 := hA1.trans (hb2.mono hA1.size)
  refine hK.out _ _ hA2 ?_
  clear hK K
  try simp only [Act.put, List.setIfInBounds_toArray, List.set_cons_zero, List.set_cons_succ]
  refine take1 10 (v := ?_) rfl (by kernel_rfl) (by kernel_rfl) (by kernel_rfl) (fun _ _ _ h => h) (by rfl) ?_ hA2 ?_
  rotate_left
  · intro V9 hA
    obtain ⟨f0, f1, f2, f3, f4⟩ := HF.out _ hA
    clear hA
    go_simp
    try with_reducible rfl
  try simp only [Act.put, List.setIfInBounds_toArray, List.set_cons_zero, List.set_cons_succ]
  refine stop1 (by kernel_rfl) ?_
  have hE := (HF.out _ hA2).2.2.2.2
  go_wp2
  go_ret
  exact ⟨rfl, hE⟩
set_option maxHeartbeats 4000000 in
theorem tidy_plus (n : Nat) (a d : Tm) (h1 : 1 ≤ n) (h2 : n ≤ 12) (hoa : okT n a = true) (hod : okT n d = true) (hla : (showT a).length ≤ 100) (hld : (showT d).length ≤ 100) (iha : TidySays n a) (ihd : TidySays n d) : TidySays n (.two 43 a d) := by
  intro v w hI
  obtain ⟨b, z, A, l, q, z2, A2, l2, q2, rfl, hb, c0, c1, c2, c3, hK, hK2⟩ := hI.openTwo
  have hc' : (((43 : UInt8).toNat : Nat) : Int) = 43 := rfl
  rw [hc']
  have HX := Lib.hid (fun W hb => iha _ W (hK.below hb a))
  have HY := Lib.hid (fun W hb => ihd _ W (hK2.below hb d))
  have hB0 : Below w.heap.size w (w.alloc (.cells #[.int .u8 43, .slice (some ⟨b, 0, none⟩) 2 2] 50)) := (Below.refl _ _).alloc (Nat.le_refl _) _
  have g0 := kid_cell hB0 hb c0
  have g1 := kid_cell hB0 hb c1
  have HF : Hid (∀ W, Below (w.alloc (.cells #[.int .u8 43, .slice (some ⟨b, 0, none⟩) 2 2] 50)).heap.size (w.alloc (.cells #[.int .u8 43, .slice (some ⟨b, 0, none⟩) 2 2] 50)) W → W.cell? ⟨w.heap.size, 0, none⟩ = some (.int .u8 43) ∧ W.cell? ⟨w.heap.size, 1, none⟩ = some (.slice (some ⟨b, 0, none⟩) 2 2) ∧ W.cell? ⟨b, 2, none⟩ = some (.int .u8 z2) ∧ W.cell? ⟨b, 3, none⟩ = some (.slice A2 l2 q2) ∧ Below w.heap.size w W) := Lib.hid (fun W h => by
    obtain ⟨f0, f1, f2⟩ := box_facts w _ _ _ _ rfl W h
    exact ⟨f0, f1, kid_cell f2 hb c2, kid_cell f2 hb c3, f2⟩)
  have oa := ok_tidy n a h1 h2 hoa
  have od := ok_tidy n d h1 h2 hod
  have la := len_tidy n a
  have ld := len_tidy n d
  have hV : showT (tidyT n (.two 43 a d)) = showT (midT 43 (tidyT n a) (tidyT n d)) := rfl
  rw [hV]
  generalize tidyT n a = ta at *
  generalize tidyT n d = td at *
  have ea : ((toB (showT ta)).toList == [101]) = decide (ta = .leaf 101) := by rw [eqS, decide_eq_decide]; exact show_leaf_eq ta 101 (by decide)
  have ed : ((toB (showT td)).toList == [101]) = decide (td = .leaf 101) := by rw [eqS, decide_eq_decide]; exact show_leaf_eq td 101 (by decide)
  have za : ((toB (showT ta)).toList == [48]) = decide (ta = .leaf 48) := by rw [eqS, decide_eq_decide]; exact show_leaf_eq ta 48 (by decide)
  have zd : ((toB (showT td)).toList == [48]) = decide (td = .leaf 48) := by rw [eqS, decide_eq_decide]; exact show_leaf_eq td 48 (by decide)
  have eq : ((toB (showT ta)).toList == (toB (showT td)).toList) = decide (ta = td) := by rw [toB_list (showT td), eqS, decide_eq_decide]; exact show_eq n ta td oa od
  clear hK hK2 hI iha ihd hV c0 c1 c2 c3 hoa hod
  by_cases pa : ta = .leaf 101
  · have HV : Hid (toB (showT (midT 43 ta td)) = toB (showT td)) := Lib.hid (by unfold midT; rw [if_neg (fun h => h.1 rfl), if_pos ⟨by decide, pa⟩])
    rw [HV.out]
    rw [decide_eq_true pa] at ea
    clear HV pa
    generalize toB (showT ta) = X at *
    generalize toB (showT td) = Y at *
    clear oa od la ld hla hld
    go_enter Tryd.func54, Tryd.ntmps54
    go_wp2_with fail
    refine (HX.out _ hB0).mono ?_
    rintro e w2 ⟨rfl, hb2⟩
    obtain ⟨f0, f1, f2, f3, f4⟩ := HF.out _ hb2
    go_wp2_with fail
    refine (HY.out _ f4).mono ?_
    rintro e w3 ⟨rfl, hb3⟩
    obtain ⟨f0, f1, f2, f3, hE⟩ := HF.out _ (hb2.trans (hb3.mono hb2.size))
    go_wp2
    go_ret
    exact ⟨rfl, hE⟩
  · rw [decide_eq_false pa] at ea
    by_cases pd : td = .leaf 101
    · have HV : Hid (toB (showT (midT 43 ta td)) = toB (showT ta)) := Lib.hid (by unfold midT; rw [if_neg (fun h => h.1 rfl), if_neg (fun h => pa h.2), if_pos ⟨by decide, pd⟩])
      rw [HV.out]
      rw [decide_eq_true pd] at ed
      clear HV pd pa
      generalize toB (showT ta) = X at *
      generalize toB (showT td) = Y at *
      clear oa od la ld hla hld
      go_enter Tryd.func54, Tryd.ntmps54
      go_wp2_with fail
      refine (HX.out _ hB0).mono ?_
      rintro e w2 ⟨rfl, hb2⟩
      obtain ⟨f0, f1, f2, f3, f4⟩ := HF.out _ hb2
      go_wp2_with fail
      refine (HY.out _ f4).mono ?_
      rintro e w3 ⟨rfl, hb3⟩
      obtain ⟨f0, f1, f2, f3, hE⟩ := HF.out _ (hb2.trans (hb3.mono hb2.size))
      go_wp2
      go_ret
      exact ⟨rfl, hE⟩
    · rw [decide_eq_false pd] at ed
      by_cases pq : ta = td
      · have HV : Hid (toB (showT (midT 43 ta td)) = toB (showT ta)) := Lib.hid (by unfold midT; rw [if_neg (fun h => h.1 rfl), if_neg (fun h => pa h.2), if_neg (fun h => pd h.2), if_pos ⟨by decide, pq⟩])
        rw [HV.out]
        rw [decide_eq_true pq] at eq
        clear HV pq pd pa
        generalize toB (showT ta) = X at *
        generalize toB (showT td) = Y at *
        clear oa od la ld hla hld
        go_enter Tryd.func54, Tryd.ntmps54
        go_wp2_with fail
        refine (HX.out _ hB0).mono ?_
        rintro e w2 ⟨rfl, hb2⟩
        obtain ⟨f0, f1, f2, f3, f4⟩ := HF.out _ hb2
        go_wp2_with fail
        refine (HY.out _ f4).mono ?_
        rintro e w3 ⟨rfl, hb3⟩
        obtain ⟨f0, f1, f2, f3, hE⟩ := HF.out _ (hb2.trans (hb3.mono hb2.size))
        go_wp2
        go_ret
        exact ⟨rfl, hE⟩
      · have HV : Hid (midT 43 ta td = .two 43 ta td) := Lib.hid (by unfold midT; rw [if_neg (fun h => h.1 rfl), if_neg (fun h => pa h.2), if_neg (fun h => pd h.2), if_neg (fun h => pq h.2)])
        rw [HV.out]
        rw [decide_eq_false pq] at eq
        clear HV pq pd pa
        have hbt : ∀ W : World, (convert 22 9 (.slice (some ⟨W.heap.size, 0, none⟩) 1 1)).run Tryd.prog (W.alloc (.cells #[.int .u8 43] 5)) = .ok (.string ⟨#[43]⟩) (W.alloc (.cells #[.int .u8 43] 5)) := fun W => byteT 43 W
        obtain ⟨hs1, hs2, hs3, hs4, hJ'⟩ := pair_text 43 ta td (by omega) (by omega)
        have hJ := Lib.hid hJ'
        clear hJ'
        generalize toB (showT ta) = X at *
        generalize toB (showT td) = Y at *
        clear oa od la ld hla hld
        go_enter Tryd.func54, Tryd.ntmps54
        go_wp2_with fail
        refine (HX.out _ hB0).mono ?_
        rintro e w2 ⟨rfl, hb2⟩
        obtain ⟨f0, f1, f2, f3, f4⟩ := HF.out _ hb2
        go_wp2_with fail
        refine (HY.out _ f4).mono ?_
        rintro e w3 ⟨rfl, hb3⟩
        obtain ⟨f0, f1, f2, f3, hE⟩ := HF.out _ (hb2.trans (hb3.mono hb2.size))
        go_wp2
        go_ret
        exact ⟨by rw [← hJ.out]; rfl, hE.alloc hE.size _⟩
set_option maxHeartbeats 4000000 in
theorem tidy_and (n : Nat) (a d : Tm) (h1 : 1 ≤ n) (h2 : n ≤ 12) (hoa : okT n a = true) (hod : okT n d = true) (hla : (showT a).length ≤ 100) (hld : (showT d).length ≤ 100) (iha : TidySays n a) (ihd : TidySays n d) : TidySays n (.two 38 a d) := by
  intro v w hI
  obtain ⟨b, z, A, l, q, z2, A2, l2, q2, rfl, hb, c0, c1, c2, c3, hK, hK2⟩ := hI.openTwo
  have hc' : (((38 : UInt8).toNat : Nat) : Int) = 38 := rfl
  rw [hc']
  have HX := Lib.hid (fun W hb => iha _ W (hK.below hb a))
  have HY := Lib.hid (fun W hb => ihd _ W (hK2.below hb d))
  have hB0 : Below w.heap.size w (w.alloc (.cells #[.int .u8 38, .slice (some ⟨b, 0, none⟩) 2 2] 50)) := (Below.refl _ _).alloc (Nat.le_refl _) _
  have g0 := kid_cell hB0 hb c0
  have g1 := kid_cell hB0 hb c1
  have HF : Hid (∀ W, Below (w.alloc (.cells #[.int .u8 38, .slice (some ⟨b, 0, none⟩) 2 2] 50)).heap.size (w.alloc (.cells #[.int .u8 38, .slice (some ⟨b, 0, none⟩) 2 2] 50)) W → W.cell? ⟨w.heap.size, 0, none⟩ = some (.int .u8 38) ∧ W.cell? ⟨w.heap.size, 1, none⟩ = some (.slice (some ⟨b, 0, none⟩) 2 2) ∧ W.cell? ⟨b, 2, none⟩ = some (.int .u8 z2) ∧ W.cell? ⟨b, 3, none⟩ = some (.slice A2 l2 q2) ∧ Below w.heap.size w W) := Lib.hid (fun W h => by
    obtain ⟨f0, f1, f2⟩ := box_facts w _ _ _ _ rfl W h
    exact ⟨f0, f1, kid_cell f2 hb c2, kid_cell f2 hb c3, f2⟩)
  have oa := ok_tidy n a h1 h2 hoa
  have od := ok_tidy n d h1 h2 hod
  have la := len_tidy n a
  have ld := len_tidy n d
  have hV : showT (tidyT n (.two 38 a d)) = showT (midT 38 (tidyT n a) (tidyT n d)) := rfl
  rw [hV]
  generalize tidyT n a = ta at *
  generalize tidyT n d = td at *
  have ea : ((toB (showT ta)).toList == [101]) = decide (ta = .leaf 101) := by rw [eqS, decide_eq_decide]; exact show_leaf_eq ta 101 (by decide)
  have ed : ((toB (showT td)).toList == [101]) = decide (td = .leaf 101) := by rw [eqS, decide_eq_decide]; exact show_leaf_eq td 101 (by decide)
  have za : ((toB (showT ta)).toList == [48]) = decide (ta = .leaf 48) := by rw [eqS, decide_eq_decide]; exact show_leaf_eq ta 48 (by decide)
  have zd : ((toB (showT td)).toList == [48]) = decide (td = .leaf 48) := by rw [eqS, decide_eq_decide]; exact show_leaf_eq td 48 (by decide)
  have eq : ((toB (showT ta)).toList == (toB (showT td)).toList) = decide (ta = td) := by rw [toB_list (showT td), eqS, decide_eq_decide]; exact show_eq n ta td oa od
  clear hK hK2 hI iha ihd hV c0 c1 c2 c3 hoa hod
  by_cases pe : ta = .leaf 101 ∨ td = .leaf 101
  · have HV : Hid (toB (showT (midT 38 ta td)) = toB [101]) := Lib.hid (by unfold midT; rw [if_pos ⟨by decide, pe⟩]; rfl)
    rw [HV.out]
    clear HV
    have q101 : toB [101] = ⟨#[101]⟩ := rfl
    rw [q101]
    by_cases pa : ta = .leaf 101
    · rw [decide_eq_true pa] at ea
      clear pa pe
      generalize toB (showT ta) = X at *
      generalize toB (showT td) = Y at *
      clear oa od la ld hla hld
      go_enter Tryd.func54, Tryd.ntmps54
      go_wp2_with fail
      refine (HX.out _ hB0).mono ?_
      rintro e w2 ⟨rfl, hb2⟩
      obtain ⟨f0, f1, f2, f3, f4⟩ := HF.out _ hb2
      go_wp2_with fail
      refine (HY.out _ f4).mono ?_
      rintro e w3 ⟨rfl, hb3⟩
      obtain ⟨f0, f1, f2, f3, hE⟩ := HF.out _ (hb2.trans (hb3.mono hb2.size))
      go_wp2
      go_ret
      exact ⟨rfl, hE⟩
    · rw [decide_eq_false pa] at ea
      rw [decide_eq_true (pe.resolve_left pa)] at ed
      clear pa pe
      generalize toB (showT ta) = X at *
      generalize toB (showT td) = Y at *
      clear oa od la ld hla hld
      go_enter Tryd.func54, Tryd.ntmps54
      go_wp2_with fail
      refine (HX.out _ hB0).mono ?_
      rintro e w2 ⟨rfl, hb2⟩
      obtain ⟨f0, f1, f2, f3, f4⟩ := HF.out _ hb2
      go_wp2_with fail
      refine (HY.out _ f4).mono ?_
      rintro e w3 ⟨rfl, hb3⟩
      obtain ⟨f0, f1, f2, f3, hE⟩ := HF.out _ (hb2.trans (hb3.mono hb2.size))
      go_wp2
      go_ret
      exact ⟨rfl, hE⟩
  · rw [decide_eq_false (fun e => pe (.inl e))] at ea
    rw [decide_eq_false (fun e => pe (.inr e))] at ed
    by_cases pq : ta = td
    · have HV : Hid (toB (showT (midT 38 ta td)) = toB (showT ta)) := Lib.hid (by unfold midT; rw [if_neg (fun h => pe h.2), if_neg (fun h => h.1 rfl), if_neg (fun h => h.1 rfl), if_pos ⟨by decide, pq⟩])
      rw [HV.out]
      rw [decide_eq_true pq] at eq
      clear HV pq pe
      generalize toB (showT ta) = X at *
      generalize toB (showT td) = Y at *
      clear oa od la ld hla hld
      go_enter Tryd.func54, Tryd.ntmps54
      go_wp2_with fail
      refine (HX.out _ hB0).mono ?_
      rintro e w2 ⟨rfl, hb2⟩
      obtain ⟨f0, f1, f2, f3, f4⟩ := HF.out _ hb2
      go_wp2_with fail
      refine (HY.out _ f4).mono ?_
      rintro e w3 ⟨rfl, hb3⟩
      obtain ⟨f0, f1, f2, f3, hE⟩ := HF.out _ (hb2.trans (hb3.mono hb2.size))
      go_wp2
      go_ret
      exact ⟨rfl, hE⟩
    · have HV : Hid (midT 38 ta td = .two 38 ta td) := Lib.hid (by unfold midT; rw [if_neg (fun h => pe h.2), if_neg (fun h => h.1 rfl), if_neg (fun h => h.1 rfl), if_neg (fun h => pq h.2)])
      rw [HV.out]
      rw [decide_eq_false pq] at eq
      clear HV pq pe
      have hbt : ∀ W : World, (convert 22 9 (.slice (some ⟨W.heap.size, 0, none⟩) 1 1)).run Tryd.prog (W.alloc (.cells #[.int .u8 38] 5)) = .ok (.string ⟨#[38]⟩) (W.alloc (.cells #[.int .u8 38] 5)) := fun W => byteT 38 W
      obtain ⟨hs1, hs2, hs3, hs4, hJ'⟩ := pair_text 38 ta td (by omega) (by omega)
      have hJ := Lib.hid hJ'
      clear hJ'
      generalize toB (showT ta) = X at *
      generalize toB (showT td) = Y at *
      clear oa od la ld hla hld
      go_enter Tryd.func54, Tryd.ntmps54
      go_wp2_with fail
      refine (HX.out _ hB0).mono ?_
      rintro e w2 ⟨rfl, hb2⟩
      obtain ⟨f0, f1, f2, f3, f4⟩ := HF.out _ hb2
      go_wp2_with fail
      refine (HY.out _ f4).mono ?_
      rintro e w3 ⟨rfl, hb3⟩
      obtain ⟨f0, f1, f2, f3, hE⟩ := HF.out _ (hb2.trans (hb3.mono hb2.size))
      go_wp2
      go_ret
      exact ⟨by rw [← hJ.out]; rfl, hE.alloc hE.size _⟩
set_option maxHeartbeats 4000000 in
theorem tidy_point (n : Nat) (a d : Tm) (h1 : 1 ≤ n) (h2 : n ≤ 12) (hoa : okT n a = true) (hod : okT n d = true) (hla : (showT a).length ≤ 100) (hld : (showT d).length ≤ 100) (iha : TidySays n a) (ihd : TidySays n d) : TidySays n (.two 46 a d) := by
  intro v w hI
  obtain ⟨b, z, A, l, q, z2, A2, l2, q2, rfl, hb, c0, c1, c2, c3, hK, hK2⟩ := hI.openTwo
  have hc' : (((46 : UInt8).toNat : Nat) : Int) = 46 := rfl
  rw [hc']
  have HX := Lib.hid (fun W hb => iha _ W (hK.below hb a))
  have HY := Lib.hid (fun W hb => ihd _ W (hK2.below hb d))
  have hB0 : Below w.heap.size w (w.alloc (.cells #[.int .u8 46, .slice (some ⟨b, 0, none⟩) 2 2] 50)) := (Below.refl _ _).alloc (Nat.le_refl _) _
  have g0 := kid_cell hB0 hb c0
  have g1 := kid_cell hB0 hb c1
  have HF : Hid (∀ W, Below (w.alloc (.cells #[.int .u8 46, .slice (some ⟨b, 0, none⟩) 2 2] 50)).heap.size (w.alloc (.cells #[.int .u8 46, .slice (some ⟨b, 0, none⟩) 2 2] 50)) W → W.cell? ⟨w.heap.size, 0, none⟩ = some (.int .u8 46) ∧ W.cell? ⟨w.heap.size, 1, none⟩ = some (.slice (some ⟨b, 0, none⟩) 2 2) ∧ W.cell? ⟨b, 2, none⟩ = some (.int .u8 z2) ∧ W.cell? ⟨b, 3, none⟩ = some (.slice A2 l2 q2) ∧ Below w.heap.size w W) := Lib.hid (fun W h => by
    obtain ⟨f0, f1, f2⟩ := box_facts w _ _ _ _ rfl W h
    exact ⟨f0, f1, kid_cell f2 hb c2, kid_cell f2 hb c3, f2⟩)
  have oa := ok_tidy n a h1 h2 hoa
  have od := ok_tidy n d h1 h2 hod
  have la := len_tidy n a
  have ld := len_tidy n d
  have hV : showT (tidyT n (.two 46 a d)) = showT (midT 46 (tidyT n a) (tidyT n d)) := rfl
  rw [hV]
  generalize tidyT n a = ta at *
  generalize tidyT n d = td at *
  have ea : ((toB (showT ta)).toList == [101]) = decide (ta = .leaf 101) := by rw [eqS, decide_eq_decide]; exact show_leaf_eq ta 101 (by decide)
  have ed : ((toB (showT td)).toList == [101]) = decide (td = .leaf 101) := by rw [eqS, decide_eq_decide]; exact show_leaf_eq td 101 (by decide)
  have za : ((toB (showT ta)).toList == [48]) = decide (ta = .leaf 48) := by rw [eqS, decide_eq_decide]; exact show_leaf_eq ta 48 (by decide)
  have zd : ((toB (showT td)).toList == [48]) = decide (td = .leaf 48) := by rw [eqS, decide_eq_decide]; exact show_leaf_eq td 48 (by decide)
  have eq : ((toB (showT ta)).toList == (toB (showT td)).toList) = decide (ta = td) := by rw [toB_list (showT td), eqS, decide_eq_decide]; exact show_eq n ta td oa od
  clear hK hK2 hI iha ihd hV c0 c1 c2 c3 hoa hod
  by_cases pe : ta = .leaf 101 ∨ td = .leaf 101
  · have HV : Hid (toB (showT (midT 46 ta td)) = toB [101]) := Lib.hid (by unfold midT; rw [if_pos ⟨by decide, pe⟩]; rfl)
    rw [HV.out]
    clear HV
    have q101 : toB [101] = ⟨#[101]⟩ := rfl
    rw [q101]
    by_cases pa : ta = .leaf 101
    · rw [decide_eq_true pa] at ea
      clear pa pe
      generalize toB (showT ta) = X at *
      generalize toB (showT td) = Y at *
      clear oa od la ld hla hld
      go_enter Tryd.func54, Tryd.ntmps54
      go_wp2_with fail
      refine (HX.out _ hB0).mono ?_
      rintro e w2 ⟨rfl, hb2⟩
      obtain ⟨f0, f1, f2, f3, f4⟩ := HF.out _ hb2
      go_wp2_with fail
      refine (HY.out _ f4).mono ?_
      rintro e w3 ⟨rfl, hb3⟩
      obtain ⟨f0, f1, f2, f3, hE⟩ := HF.out _ (hb2.trans (hb3.mono hb2.size))
      go_wp2
      go_ret
      exact ⟨rfl, hE⟩
    · rw [decide_eq_false pa] at ea
      rw [decide_eq_true (pe.resolve_left pa)] at ed
      clear pa pe
      generalize toB (showT ta) = X at *
      generalize toB (showT td) = Y at *
      clear oa od la ld hla hld
      go_enter Tryd.func54, Tryd.ntmps54
      go_wp2_with fail
      refine (HX.out _ hB0).mono ?_
      rintro e w2 ⟨rfl, hb2⟩
      obtain ⟨f0, f1, f2, f3, f4⟩ := HF.out _ hb2
      go_wp2_with fail
      refine (HY.out _ f4).mono ?_
      rintro e w3 ⟨rfl, hb3⟩
      obtain ⟨f0, f1, f2, f3, hE⟩ := HF.out _ (hb2.trans (hb3.mono hb2.size))
      go_wp2
      go_ret
      exact ⟨rfl, hE⟩
  · rw [decide_eq_false (fun e => pe (.inl e))] at ea
    rw [decide_eq_false (fun e => pe (.inr e))] at ed
    by_cases pa : ta = .leaf 48
    · have HV : Hid (toB (showT (midT 46 ta td)) = toB (showT td)) := Lib.hid (by unfold midT; rw [if_neg (fun h => pe h.2), if_pos ⟨by decide, pa⟩])
      rw [HV.out]
      rw [decide_eq_true pa] at za
      clear HV pa pe
      generalize toB (showT ta) = X at *
      generalize toB (showT td) = Y at *
      clear oa od la ld hla hld
      go_enter Tryd.func54, Tryd.ntmps54
      go_wp2_with fail
      refine (HX.out _ hB0).mono ?_
      rintro e w2 ⟨rfl, hb2⟩
      obtain ⟨f0, f1, f2, f3, f4⟩ := HF.out _ hb2
      go_wp2_with fail
      refine (HY.out _ f4).mono ?_
      rintro e w3 ⟨rfl, hb3⟩
      obtain ⟨f0, f1, f2, f3, hE⟩ := HF.out _ (hb2.trans (hb3.mono hb2.size))
      go_wp2
      go_ret
      exact ⟨rfl, hE⟩
    · rw [decide_eq_false pa] at za
      by_cases pd : td = .leaf 48
      · have HV : Hid (toB (showT (midT 46 ta td)) = toB (showT ta)) := Lib.hid (by unfold midT; rw [if_neg (fun h => pe h.2), if_neg (fun h => pa h.2), if_pos ⟨by decide, pd⟩])
        rw [HV.out]
        rw [decide_eq_true pd] at zd
        clear HV pa pe pd
        generalize toB (showT ta) = X at *
        generalize toB (showT td) = Y at *
        clear oa od la ld hla hld
        go_enter Tryd.func54, Tryd.ntmps54
        go_wp2_with fail
        refine (HX.out _ hB0).mono ?_
        rintro e w2 ⟨rfl, hb2⟩
        obtain ⟨f0, f1, f2, f3, f4⟩ := HF.out _ hb2
        go_wp2_with fail
        refine (HY.out _ f4).mono ?_
        rintro e w3 ⟨rfl, hb3⟩
        obtain ⟨f0, f1, f2, f3, hE⟩ := HF.out _ (hb2.trans (hb3.mono hb2.size))
        go_wp2
        go_ret
        exact ⟨rfl, hE⟩
      · have HV : Hid (midT 46 ta td = .two 46 ta td) := Lib.hid (by unfold midT; rw [if_neg (fun h => pe h.2), if_neg (fun h => pa h.2), if_neg (fun h => pd h.2), if_neg (fun h => h.1 rfl)])
        rw [HV.out]
        rw [decide_eq_false pd] at zd
        clear HV pa pe pd
        have hbt : ∀ W : World, (convert 22 9 (.slice (some ⟨W.heap.size, 0, none⟩) 1 1)).run Tryd.prog (W.alloc (.cells #[.int .u8 46] 5)) = .ok (.string ⟨#[46]⟩) (W.alloc (.cells #[.int .u8 46] 5)) := fun W => byteT 46 W
        obtain ⟨hs1, hs2, hs3, hs4, hJ'⟩ := pair_text 46 ta td (by omega) (by omega)
        have hJ := Lib.hid hJ'
        clear hJ'
        generalize toB (showT ta) = X at *
        generalize toB (showT td) = Y at *
        clear oa od la ld hla hld
        go_enter Tryd.func54, Tryd.ntmps54
        go_wp2_with fail
        refine (HX.out _ hB0).mono ?_
        rintro e w2 ⟨rfl, hb2⟩
        obtain ⟨f0, f1, f2, f3, f4⟩ := HF.out _ hb2
        go_wp2_with fail
        refine (HY.out _ f4).mono ?_
        rintro e w3 ⟨rfl, hb3⟩
        obtain ⟨f0, f1, f2, f3, hE⟩ := HF.out _ (hb2.trans (hb3.mono hb2.size))
        go_wp2
        go_ret
        exact ⟨by rw [← hJ.out]; rfl, hE.alloc hE.size _⟩
/-- The model makes any term tidy. -/
theorem l11Tidy_any (n : Nat) (h1 : 1 ≤ n) (h2 : n ≤ 12) (t : Tm) (ho : okT n t = true) (hl : (showT t).length ≤ 100) : TidySays n t := by
  induction t with
  | leaf c => exact tidy_leaf n c
  | one c a ih =>
    have h' : (isFront c && okT n a) = true := ho
    rw [Bool.and_eq_true] at h'
    have hc := h'.1
    have hl' : (showT a).length + 1 ≤ 100 := hl
    unfold isFront at hc
    rw [Bool.or_eq_true, beq_iff_eq, beq_iff_eq] at hc
    rcases hc with rfl | rfl
    · exact tidy_not n a h1 h2 h'.2 (by omega) (ih h'.2 (by omega))
    · exact tidy_minus n a h1 h2 h'.2 (by omega) (ih h'.2 (by omega))
  | two c a d iha ihd =>
    have h' : (isMid c && okT n a && okT n d) = true := ho
    rw [Bool.and_eq_true, Bool.and_eq_true] at h'
    have hc := h'.1.1
    rw [len_two] at hl
    unfold isMid at hc
    rw [Bool.or_eq_true, Bool.or_eq_true, beq_iff_eq, beq_iff_eq, beq_iff_eq] at hc
    rcases hc with (rfl | rfl) | rfl
    · exact tidy_plus n a d h1 h2 h'.1.2 h'.2 (by omega) (by omega) (iha h'.1.2 (by omega)) (ihd h'.2 (by omega))
    · exact tidy_and n a d h1 h2 h'.1.2 h'.2 (by omega) (by omega) (iha h'.1.2 (by omega)) (ihd h'.2 (by omega))
    · exact tidy_point n a d h1 h2 h'.1.2 h'.2 (by omega) (by omega) (iha h'.1.2 (by omega)) (ihd h'.2 (by omega))
end Go.Proofs.YtecjhkpldcmlaaaDoor
