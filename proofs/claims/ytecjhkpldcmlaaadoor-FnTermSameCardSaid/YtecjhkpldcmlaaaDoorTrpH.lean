/- Terms, the program's side: texts of terms. Written by gen141.py. -/
import Derived.Test.YtecjhkpldcmlaaaDoorTrpE
import Derived.Test.YtecjhkpldcmlaaaDoorTrmB
namespace Go.Proofs.YtecjhkpldcmlaaaDoor
open Go.RowKit Go.Shelf
set_option linter.unusedVariables false
attribute [local go_sem] Oper.semAt_some
/-- The program writes the text of a term. -/
def Texts (t : Tm) : Prop := ∀ w, Calls Tryd.prog (k_text t) #[payT t] w fun e w' => e = .returned (.string (toB (showT t))) ∧ Below w.heap.size w w'
theorem text_face (t : Tm) (h : Texts t) : ∃ T p k, tyT t = T ∧ payT t = p ∧ (∀ W, (Go.method 286 T p "loop.example/ringsofsteps/impl.text").run Tryd.prog W = .ok (k, p) W) ∧ (∀ args W, (callFunc k args).run Tryd.prog W = .ok (.enter k args) W) ∧
    ∀ W, Calls Tryd.prog k #[p] W fun e w' => e = .returned (.string (toB (showT t))) ∧ Below W.heap.size W w' := ⟨_, _, _, rfl, rfl, m_text t, c_text t, h⟩
theorem texts_leaf (n : Nat) (h2 : n ≤ 12) (c : UInt8) (ho : okT n (.leaf c) = true) : Texts (.leaf c) := by
  intro w
  rcases leaf_is n c ho with rfl | ⟨hc, p0, p1⟩
  · show Calls Tryd.prog 126 #[.agg #[]] w fun e w' => e = .returned (.string ⟨#[101]⟩) ∧ Below w.heap.size w w'
    go_enter Tryd.func126, Tryd.ntmps126
    go_wp2
    go_ret
    exact ⟨rfl, (Below.refl _ _).alloc (Nat.le_refl _) _⟩
  · have hs := (place_sign c p0).2
    rw [show k_text (.leaf c) = 130 from if_neg hc, show payT (.leaf c) = .int .i64 (placeB c) from if_neg hc]
    show Calls Tryd.prog 130 #[.int .i64 (placeB c)] w fun e w' => e = .returned (.string (toB [c])) ∧ Below w.heap.size w w'
    obtain ⟨p, hp⟩ : ∃ p : Nat, placeB c = (p : Int) := ⟨(placeB c).toNat, by omega⟩
    rw [hp] at hs p1 ⊢
    rw [Int.toNat_natCast] at hs
    have hp12 : p < 12 := by omega
    rw [← hs]
    clear hs hp p0 p1 hc ho
    obtain rfl | rfl | rfl | rfl | rfl | rfl | rfl | rfl | rfl | rfl | rfl | rfl : p = 0 ∨ p = 1 ∨ p = 2 ∨ p = 3 ∨ p = 4 ∨ p = 5 ∨ p = 6 ∨ p = 7 ∨ p = 8 ∨ p = 9 ∨ p = 10 ∨ p = 11 := by omega
    all_goals
      clear hp12
      go_enter Tryd.func130, Tryd.ntmps130
      go_wp2
      go_ret
      exact ⟨rfl, Below.refl _ _⟩
theorem texts_not (a : Tm) (hl : (showT a).length ≤ 1000) (ih : Texts a) : Texts (.one 33 a) := by
  intro w
  obtain ⟨T, p, k, hT, hp, hm, hcf, hX⟩ := text_face a ih
  show Calls Tryd.prog 154 #[.agg #[.iface (tyT a) (payT a)]] w _
  rw [hT, hp]
  have HX := Lib.hid hX
  have happ : (⟨#[33]⟩ : ByteArray) ++ toB (showT a) = toB (showT (.one 33 a)) := toB_append [33] (showT a)
  have hsz : (⟨#[33]⟩ : ByteArray).size + (toB (showT a)).size ≤ 9223372036854775807 := by rw [toB_size, show (⟨#[33]⟩ : ByteArray).size = 1 from rfl]; omega
  clear hT hp hX ih hl
  generalize toB (showT (.one 33 a)) = R at *
  generalize toB (showT a) = X at *
  have hB0 : Below w.heap.size w (w.alloc (.cells #[.iface T p] 152)) := (Below.refl _ _).alloc (Nat.le_refl _) _
  go_enter Tryd.func154, Tryd.ntmps154
  go_wp2_with fail
  refine (HX.out _).mono ?_
  rintro e w1 ⟨rfl, hb1⟩
  go_wp2
  go_ret
  exact ⟨by first | rfl | rw [happ], hB0.trans (hb1.mono hB0.size)⟩
theorem texts_minus (a : Tm) (hl : (showT a).length ≤ 1000) (ih : Texts a) : Texts (.one 45 a) := by
  intro w
  obtain ⟨T, p, k, hT, hp, hm, hcf, hX⟩ := text_face a ih
  show Calls Tryd.prog 159 #[.agg #[.iface (tyT a) (payT a)]] w _
  rw [hT, hp]
  have HX := Lib.hid hX
  have happ : (⟨#[45]⟩ : ByteArray) ++ toB (showT a) = toB (showT (.one 45 a)) := toB_append [45] (showT a)
  have hsz : (⟨#[45]⟩ : ByteArray).size + (toB (showT a)).size ≤ 9223372036854775807 := by rw [toB_size, show (⟨#[45]⟩ : ByteArray).size = 1 from rfl]; omega
  clear hT hp hX ih hl
  generalize toB (showT (.one 45 a)) = R at *
  generalize toB (showT a) = X at *
  have hB0 : Below w.heap.size w (w.alloc (.cells #[.iface T p] 153)) := (Below.refl _ _).alloc (Nat.le_refl _) _
  go_enter Tryd.func159, Tryd.ntmps159
  go_wp2_with fail
  refine (HX.out _).mono ?_
  rintro e w1 ⟨rfl, hb1⟩
  go_wp2
  go_ret
  exact ⟨by first | rfl | rw [happ], hB0.trans (hb1.mono hB0.size)⟩
theorem pair_txt (k : UInt8) (a d : Tm) (ha : (showT a).length ≤ 1000) (hd : (showT d).length ≤ 1000) :
    (⟨#[40]⟩ : ByteArray).size + (toB (showT a)).size ≤ 9223372036854775807 ∧ ((⟨#[40]⟩ : ByteArray) ++ toB (showT a)).size + (⟨#[k]⟩ : ByteArray).size ≤ 9223372036854775807 ∧
    ((⟨#[40]⟩ : ByteArray) ++ toB (showT a) ++ ⟨#[k]⟩).size + (toB (showT d)).size ≤ 9223372036854775807 ∧ ((⟨#[40]⟩ : ByteArray) ++ toB (showT a) ++ ⟨#[k]⟩ ++ toB (showT d)).size + (⟨#[41]⟩ : ByteArray).size ≤ 9223372036854775807 ∧
    (⟨#[40]⟩ : ByteArray) ++ toB (showT a) ++ ⟨#[k]⟩ ++ toB (showT d) ++ ⟨#[41]⟩ = toB (showT (.two k a d)) := by
  have q40 : (⟨#[40]⟩ : ByteArray) = toB [40] := rfl
  have q41 : (⟨#[41]⟩ : ByteArray) = toB [41] := rfl
  have qk : (⟨#[k]⟩ : ByteArray) = toB [k] := rfl
  rw [q40, q41, qk]
  simp only [toB_append, toB_size]
  refine ⟨by simp; omega, by simp; omega, by simp; omega, by simp; omega, ?_⟩
  congr 1
  show _ = (40 : UInt8) :: (showT a ++ k :: (showT d ++ [41]))
  simp
/-- A box of three cells, as all that only makes memory leaves it. -/
theorem trio_box (w W0 : World) (ta : TypeId) (a b c : Value) (h : w.alloc (.cells #[a, b, c] ta) = W0) (V : World) (hb : Below W0.heap.size W0 V) :
    V.cell? ⟨w.heap.size, 0, none⟩ = some a ∧ V.cell? ⟨w.heap.size, 1, none⟩ = some b ∧ V.cell? ⟨w.heap.size, 2, none⟩ = some c ∧ Below w.heap.size w V := by
  subst h
  have e0 : (w.alloc (.cells #[a, b, c] ta)).heap[w.heap.size]? = some (.cells #[a, b, c] ta (0, 0)) := World.alloc_heap_new w _
  have h2 : Below w.heap.size w V := ((Below.refl _ w).alloc (Nat.le_refl _) (.cells #[a, b, c] ta)).trans (hb.mono (by simp))
  have e2 : V.heap[w.heap.size]? = some (.cells #[a, b, c] ta (0, 0)) := (hb.block _ (by simp)).trans e0
  exact ⟨by simp [World.cell?, e2], by simp [World.cell?, e2], by simp [World.cell?, e2], h2⟩
set_option maxHeartbeats 2000000 in
theorem texts_plus (a d : Tm) (hla : (showT a).length ≤ 1000) (hld : (showT d).length ≤ 1000) (iha : Texts a) (ihd : Texts d) : Texts (.two 43 a d) := by
  have hmx : Tryd.prog.follows .mixedOrders = true := by kernel_rfl
  intro w
  obtain ⟨T, p, k, hT, hp, hm, hcf, hX⟩ := text_face a iha
  obtain ⟨T2, p2, k2, hT2, hp2, hm2, hcf2, hX2⟩ := text_face d ihd
  show Calls Tryd.prog 135 #[.agg #[.int .u8 (((43 : UInt8).toNat : Nat) : Int), .iface (tyT a) (payT a), .iface (tyT d) (payT d)]] w _
  have hc' : (((43 : UInt8).toNat : Nat) : Int) = 43 := rfl
  rw [hc', hT, hp, hT2, hp2]
  have HX := Lib.hid hX
  have HX2 := Lib.hid hX2
  have HS := Lib.hid (pair_txt 43 a d hla hld)
  have hcv : ∀ W : World, (convert 5 9 (.int .u8 43)).run Tryd.prog W = .ok (.string ⟨#[43]⟩) W := fun W => by kernel_rfl
  have HR : Hid ((⟨#[40]⟩ : ByteArray) ++ toB (showT a) ++ ⟨#[43]⟩ ++ toB (showT d) ++ ⟨#[41]⟩ = toB (showT (.two 43 a d))) := Lib.hid HS.out.2.2.2.2
  have hxs : (toB (showT a)).size ≤ 1000 := by rw [toB_size]; exact hla
  have hys : (toB (showT d)).size ≤ 1000 := by rw [toB_size]; exact hld
  have HN : Hid (¬ (9223372036854775807 < 1 + (toB (showT a)).size) ∧ ¬ (9223372036854775807 < 1 + (toB (showT a)).size + 1) ∧ ¬ (9223372036854775807 < 1 + (toB (showT a)).size + 1 + (toB (showT d)).size) ∧ ¬ (9223372036854775807 < 1 + (toB (showT a)).size + 1 + (toB (showT d)).size + 1)) := Lib.hid ⟨by omega, by omega, by omega, by omega⟩
  clear hT hp hT2 hp2 hX hX2 iha ihd hc' hla hld hxs hys
  generalize toB (showT (.two 43 a d)) = R at *
  generalize toB (showT a) = X at *
  generalize toB (showT d) = Y at *
  go_enter Tryd.func135, Tryd.ntmps135
  go_wp2_with fail
  obtain ⟨W0, hW0⟩ : ∃ W0, w.alloc (.cells #[.int .u8 43, .iface T p, .iface T2 p2] 111) = W0 := ⟨_, rfl⟩
  have HF := Lib.hid (fun V hb => trio_box w W0 _ _ _ _ hW0 V hb)
  rw [hW0]
  clear hW0
  have hA0 : Below W0.heap.size W0 W0.drew := (Below.refl _ _).drew
  refine wp_region_held_drew (S := fun V => Below W0.heap.size W0 V) hmx hA0 (fun _ => ?_)
  generalize W0.drew = V0 at *
  refine take1 0 (v := ?_) rfl (by kernel_rfl) (by kernel_rfl) (by kernel_rfl) (fun _ _ _ h => h) (by rfl) ?_ hA0 ?_
  rotate_left
  · intro V9 hA
    obtain ⟨f0, f1, f2, f3⟩ := HF.out _ hA
    clear hA
    go_simp
    try with_reducible rfl
  try simp only [Act.put, List.setIfInBounds_toArray, List.set_cons_zero, List.set_cons_succ]
  refine take1 1 (v := ?_) rfl (by kernel_rfl) (by kernel_rfl) (by kernel_rfl) (fun _ _ _ h => h) (by rfl) ?_ hA0 ?_
  rotate_left
  · intro V9 hA
    obtain ⟨f0, f1, f2, f3⟩ := HF.out _ hA
    clear hA
    go_simp
    try with_reducible rfl
  try simp only [Act.put, List.setIfInBounds_toArray, List.set_cons_zero, List.set_cons_succ]
  refine take1 4 (v := ?_) rfl (by kernel_rfl) (by kernel_rfl) (by kernel_rfl) (fun _ _ _ h => h) (by rfl) ?_ hA0 ?_
  rotate_left
  · intro V9 hA
    obtain ⟨f0, f1, f2, f3⟩ := HF.out _ hA
    clear hA
    go_simp
    try with_reducible rfl
  try simp only [Act.put, List.setIfInBounds_toArray, List.set_cons_zero, List.set_cons_succ]
  refine take1 5 (v := ?_) rfl (by kernel_rfl) (by kernel_rfl) (by kernel_rfl) (fun _ _ _ h => h) (by rfl) ?_ hA0 ?_
  rotate_left
  · intro V9 hA
    obtain ⟨f0, f1, f2, f3⟩ := HF.out _ hA
    clear hA
    go_simp
    try with_reducible rfl
  try simp only [Act.put, List.setIfInBounds_toArray, List.set_cons_zero, List.set_cons_succ]
  refine take1 6 (v := ?_) rfl (by kernel_rfl) (by kernel_rfl) (by kernel_rfl) (fun _ _ _ h => h) (by rfl) ?_ hA0 ?_
  rotate_left
  · intro V9 hA
    obtain ⟨f0, f1, f2, f3⟩ := HF.out _ hA
    clear hA
    go_simp
    try with_reducible rfl
  try simp only [Act.put, List.setIfInBounds_toArray, List.set_cons_zero, List.set_cons_succ]
  refine take1 8 (v := ?_) rfl (by kernel_rfl) (by kernel_rfl) (by kernel_rfl) (fun _ _ _ h => h) (by rfl) ?_ hA0 ?_
  rotate_left
  · intro V9 hA
    obtain ⟨f0, f1, f2, f3⟩ := HF.out _ hA
    clear hA
    go_simp
    try with_reducible rfl
  try simp only [Act.put, List.setIfInBounds_toArray, List.set_cons_zero, List.set_cons_succ]
  refine take1 9 (v := ?_) rfl (by kernel_rfl) (by kernel_rfl) (by kernel_rfl) (fun _ _ _ h => h) (by rfl) ?_ hA0 ?_
  rotate_left
  · intro V9 hA
    obtain ⟨f0, f1, f2, f3⟩ := HF.out _ hA
    clear hA
    go_simp
    try with_reducible rfl
  try simp only [Act.put, List.setIfInBounds_toArray, List.set_cons_zero, List.set_cons_succ]
  refine step1 2 (by kernel_rfl) rfl (fun K hK => ?_)
  go_simp
  refine (HX.out _).mono ?_
  rintro e V1 ⟨rfl, hb1⟩
  go_wp2_with fail
  have hA1 := hA0.trans (hb1.mono hA0.size)
  refine hK.out _ _ hA1 ?_
  clear hK K
  try simp only [Act.put, List.setIfInBounds_toArray, List.set_cons_zero, List.set_cons_succ]
  refine take1 3 (v := ?_) rfl (by kernel_rfl) (by kernel_rfl) (by kernel_rfl) (fun _ _ _ h => h) (by rfl) ?_ hA1 ?_
  rotate_left
  · intro V9 hA
    obtain ⟨f0, f1, f2, f3⟩ := HF.out _ hA
    obtain ⟨s1, s2, s3, s4⟩ := HN.out
    clear hA
    go_simp
    try with_reducible rfl
  try simp only [Act.put, List.setIfInBounds_toArray, List.set_cons_zero, List.set_cons_succ]
  refine take1 7 (v := ?_) rfl (by kernel_rfl) (by kernel_rfl) (by kernel_rfl) (fun _ _ _ h => h) (by rfl) ?_ hA1 ?_
  rotate_left
  · intro V9 hA
    obtain ⟨f0, f1, f2, f3⟩ := HF.out _ hA
    obtain ⟨s1, s2, s3, s4⟩ := HN.out
    clear hA
    go_simp
    try with_reducible rfl
  try simp only [Act.put, List.setIfInBounds_toArray, List.set_cons_zero, List.set_cons_succ]
  refine step1 10 (by kernel_rfl) rfl (fun K hK => ?_)
  go_simp
  refine (HX2.out _).mono ?_
  rintro e V2 ⟨rfl, hb2⟩
  go_wp2_with fail
  have hA2 := hA1.trans (hb2.mono hA1.size)
  refine hK.out _ _ hA2 ?_
  clear hK K
  try simp only [Act.put, List.setIfInBounds_toArray, List.set_cons_zero, List.set_cons_succ]
  refine take1 11 (v := ?_) rfl (by kernel_rfl) (by kernel_rfl) (by kernel_rfl) (fun _ _ _ h => h) (by rfl) ?_ hA2 ?_
  rotate_left
  · intro V9 hA
    obtain ⟨f0, f1, f2, f3⟩ := HF.out _ hA
    obtain ⟨s1, s2, s3, s4⟩ := HN.out
    clear hA
    go_simp
    try with_reducible rfl
  try simp only [Act.put, List.setIfInBounds_toArray, List.set_cons_zero, List.set_cons_succ]
  refine take1 12 (v := ?_) rfl (by kernel_rfl) (by kernel_rfl) (by kernel_rfl) (fun _ _ _ h => h) (by rfl) ?_ hA2 ?_
  rotate_left
  · intro V9 hA
    obtain ⟨f0, f1, f2, f3⟩ := HF.out _ hA
    obtain ⟨s1, s2, s3, s4⟩ := HN.out
    clear hA
    go_simp
    try with_reducible rfl
  try simp only [Act.put, List.setIfInBounds_toArray, List.set_cons_zero, List.set_cons_succ]
  refine take1 13 (v := ?_) rfl (by kernel_rfl) (by kernel_rfl) (by kernel_rfl) (fun _ _ _ h => h) (by rfl) ?_ hA2 ?_
  rotate_left
  · intro V9 hA
    obtain ⟨f0, f1, f2, f3⟩ := HF.out _ hA
    clear hA
    go_simp
    try with_reducible rfl
  try simp only [Act.put, List.setIfInBounds_toArray, List.set_cons_zero, List.set_cons_succ]
  refine stop1 (by kernel_rfl) ?_
  have hE := (HF.out _ hA2).2.2.2
  go_wp2
  go_ret
  exact ⟨by rw [← HR.out]; rfl, hE⟩
set_option maxHeartbeats 2000000 in
theorem texts_and (a d : Tm) (hla : (showT a).length ≤ 1000) (hld : (showT d).length ≤ 1000) (iha : Texts a) (ihd : Texts d) : Texts (.two 38 a d) := by
  have hmx : Tryd.prog.follows .mixedOrders = true := by kernel_rfl
  intro w
  obtain ⟨T, p, k, hT, hp, hm, hcf, hX⟩ := text_face a iha
  obtain ⟨T2, p2, k2, hT2, hp2, hm2, hcf2, hX2⟩ := text_face d ihd
  show Calls Tryd.prog 135 #[.agg #[.int .u8 (((38 : UInt8).toNat : Nat) : Int), .iface (tyT a) (payT a), .iface (tyT d) (payT d)]] w _
  have hc' : (((38 : UInt8).toNat : Nat) : Int) = 38 := rfl
  rw [hc', hT, hp, hT2, hp2]
  have HX := Lib.hid hX
  have HX2 := Lib.hid hX2
  have HS := Lib.hid (pair_txt 38 a d hla hld)
  have hcv : ∀ W : World, (convert 5 9 (.int .u8 38)).run Tryd.prog W = .ok (.string ⟨#[38]⟩) W := fun W => by kernel_rfl
  have HR : Hid ((⟨#[40]⟩ : ByteArray) ++ toB (showT a) ++ ⟨#[38]⟩ ++ toB (showT d) ++ ⟨#[41]⟩ = toB (showT (.two 38 a d))) := Lib.hid HS.out.2.2.2.2
  have hxs : (toB (showT a)).size ≤ 1000 := by rw [toB_size]; exact hla
  have hys : (toB (showT d)).size ≤ 1000 := by rw [toB_size]; exact hld
  have HN : Hid (¬ (9223372036854775807 < 1 + (toB (showT a)).size) ∧ ¬ (9223372036854775807 < 1 + (toB (showT a)).size + 1) ∧ ¬ (9223372036854775807 < 1 + (toB (showT a)).size + 1 + (toB (showT d)).size) ∧ ¬ (9223372036854775807 < 1 + (toB (showT a)).size + 1 + (toB (showT d)).size + 1)) := Lib.hid ⟨by omega, by omega, by omega, by omega⟩
  clear hT hp hT2 hp2 hX hX2 iha ihd hc' hla hld hxs hys
  generalize toB (showT (.two 38 a d)) = R at *
  generalize toB (showT a) = X at *
  generalize toB (showT d) = Y at *
  go_enter Tryd.func135, Tryd.ntmps135
  go_wp2_with fail
  obtain ⟨W0, hW0⟩ : ∃ W0, w.alloc (.cells #[.int .u8 38, .iface T p, .iface T2 p2] 111) = W0 := ⟨_, rfl⟩
  have HF := Lib.hid (fun V hb => trio_box w W0 _ _ _ _ hW0 V hb)
  rw [hW0]
  clear hW0
  have hA0 : Below W0.heap.size W0 W0.drew := (Below.refl _ _).drew
  refine wp_region_held_drew (S := fun V => Below W0.heap.size W0 V) hmx hA0 (fun _ => ?_)
  generalize W0.drew = V0 at *
  refine take1 0 (v := ?_) rfl (by kernel_rfl) (by kernel_rfl) (by kernel_rfl) (fun _ _ _ h => h) (by rfl) ?_ hA0 ?_
  rotate_left
  · intro V9 hA
    obtain ⟨f0, f1, f2, f3⟩ := HF.out _ hA
    clear hA
    go_simp
    try with_reducible rfl
  try simp only [Act.put, List.setIfInBounds_toArray, List.set_cons_zero, List.set_cons_succ]
  refine take1 1 (v := ?_) rfl (by kernel_rfl) (by kernel_rfl) (by kernel_rfl) (fun _ _ _ h => h) (by rfl) ?_ hA0 ?_
  rotate_left
  · intro V9 hA
    obtain ⟨f0, f1, f2, f3⟩ := HF.out _ hA
    clear hA
    go_simp
    try with_reducible rfl
  try simp only [Act.put, List.setIfInBounds_toArray, List.set_cons_zero, List.set_cons_succ]
  refine take1 4 (v := ?_) rfl (by kernel_rfl) (by kernel_rfl) (by kernel_rfl) (fun _ _ _ h => h) (by rfl) ?_ hA0 ?_
  rotate_left
  · intro V9 hA
    obtain ⟨f0, f1, f2, f3⟩ := HF.out _ hA
    clear hA
    go_simp
    try with_reducible rfl
  try simp only [Act.put, List.setIfInBounds_toArray, List.set_cons_zero, List.set_cons_succ]
  refine take1 5 (v := ?_) rfl (by kernel_rfl) (by kernel_rfl) (by kernel_rfl) (fun _ _ _ h => h) (by rfl) ?_ hA0 ?_
  rotate_left
  · intro V9 hA
    obtain ⟨f0, f1, f2, f3⟩ := HF.out _ hA
    clear hA
    go_simp
    try with_reducible rfl
  try simp only [Act.put, List.setIfInBounds_toArray, List.set_cons_zero, List.set_cons_succ]
  refine take1 6 (v := ?_) rfl (by kernel_rfl) (by kernel_rfl) (by kernel_rfl) (fun _ _ _ h => h) (by rfl) ?_ hA0 ?_
  rotate_left
  · intro V9 hA
    obtain ⟨f0, f1, f2, f3⟩ := HF.out _ hA
    clear hA
    go_simp
    try with_reducible rfl
  try simp only [Act.put, List.setIfInBounds_toArray, List.set_cons_zero, List.set_cons_succ]
  refine take1 8 (v := ?_) rfl (by kernel_rfl) (by kernel_rfl) (by kernel_rfl) (fun _ _ _ h => h) (by rfl) ?_ hA0 ?_
  rotate_left
  · intro V9 hA
    obtain ⟨f0, f1, f2, f3⟩ := HF.out _ hA
    clear hA
    go_simp
    try with_reducible rfl
  try simp only [Act.put, List.setIfInBounds_toArray, List.set_cons_zero, List.set_cons_succ]
  refine take1 9 (v := ?_) rfl (by kernel_rfl) (by kernel_rfl) (by kernel_rfl) (fun _ _ _ h => h) (by rfl) ?_ hA0 ?_
  rotate_left
  · intro V9 hA
    obtain ⟨f0, f1, f2, f3⟩ := HF.out _ hA
    clear hA
    go_simp
    try with_reducible rfl
  try simp only [Act.put, List.setIfInBounds_toArray, List.set_cons_zero, List.set_cons_succ]
  refine step1 2 (by kernel_rfl) rfl (fun K hK => ?_)
  go_simp
  refine (HX.out _).mono ?_
  rintro e V1 ⟨rfl, hb1⟩
  go_wp2_with fail
  have hA1 := hA0.trans (hb1.mono hA0.size)
  refine hK.out _ _ hA1 ?_
  clear hK K
  try simp only [Act.put, List.setIfInBounds_toArray, List.set_cons_zero, List.set_cons_succ]
  refine take1 3 (v := ?_) rfl (by kernel_rfl) (by kernel_rfl) (by kernel_rfl) (fun _ _ _ h => h) (by rfl) ?_ hA1 ?_
  rotate_left
  · intro V9 hA
    obtain ⟨f0, f1, f2, f3⟩ := HF.out _ hA
    obtain ⟨s1, s2, s3, s4⟩ := HN.out
    clear hA
    go_simp
    try with_reducible rfl
  try simp only [Act.put, List.setIfInBounds_toArray, List.set_cons_zero, List.set_cons_succ]
  refine take1 7 (v := ?_) rfl (by kernel_rfl) (by kernel_rfl) (by kernel_rfl) (fun _ _ _ h => h) (by rfl) ?_ hA1 ?_
  rotate_left
  · intro V9 hA
    obtain ⟨f0, f1, f2, f3⟩ := HF.out _ hA
    obtain ⟨s1, s2, s3, s4⟩ := HN.out
    clear hA
    go_simp
    try with_reducible rfl
  try simp only [Act.put, List.setIfInBounds_toArray, List.set_cons_zero, List.set_cons_succ]
  refine step1 10 (by kernel_rfl) rfl (fun K hK => ?_)
  go_simp
  refine (HX2.out _).mono ?_
  rintro e V2 ⟨rfl, hb2⟩
  go_wp2_with fail
  have hA2 := hA1.trans (hb2.mono hA1.size)
  refine hK.out _ _ hA2 ?_
  clear hK K
  try simp only [Act.put, List.setIfInBounds_toArray, List.set_cons_zero, List.set_cons_succ]
  refine take1 11 (v := ?_) rfl (by kernel_rfl) (by kernel_rfl) (by kernel_rfl) (fun _ _ _ h => h) (by rfl) ?_ hA2 ?_
  rotate_left
  · intro V9 hA
    obtain ⟨f0, f1, f2, f3⟩ := HF.out _ hA
    obtain ⟨s1, s2, s3, s4⟩ := HN.out
    clear hA
    go_simp
    try with_reducible rfl
  try simp only [Act.put, List.setIfInBounds_toArray, List.set_cons_zero, List.set_cons_succ]
  refine take1 12 (v := ?_) rfl (by kernel_rfl) (by kernel_rfl) (by kernel_rfl) (fun _ _ _ h => h) (by rfl) ?_ hA2 ?_
  rotate_left
  · intro V9 hA
    obtain ⟨f0, f1, f2, f3⟩ := HF.out _ hA
    obtain ⟨s1, s2, s3, s4⟩ := HN.out
    clear hA
    go_simp
    try with_reducible rfl
  try simp only [Act.put, List.setIfInBounds_toArray, List.set_cons_zero, List.set_cons_succ]
  refine take1 13 (v := ?_) rfl (by kernel_rfl) (by kernel_rfl) (by kernel_rfl) (fun _ _ _ h => h) (by rfl) ?_ hA2 ?_
  rotate_left
  · intro V9 hA
    obtain ⟨f0, f1, f2, f3⟩ := HF.out _ hA
    clear hA
    go_simp
    try with_reducible rfl
  try simp only [Act.put, List.setIfInBounds_toArray, List.set_cons_zero, List.set_cons_succ]
  refine stop1 (by kernel_rfl) ?_
  have hE := (HF.out _ hA2).2.2.2
  go_wp2
  go_ret
  exact ⟨by rw [← HR.out]; rfl, hE⟩
set_option maxHeartbeats 2000000 in
theorem texts_point (a d : Tm) (hla : (showT a).length ≤ 1000) (hld : (showT d).length ≤ 1000) (iha : Texts a) (ihd : Texts d) : Texts (.two 46 a d) := by
  have hmx : Tryd.prog.follows .mixedOrders = true := by kernel_rfl
  intro w
  obtain ⟨T, p, k, hT, hp, hm, hcf, hX⟩ := text_face a iha
  obtain ⟨T2, p2, k2, hT2, hp2, hm2, hcf2, hX2⟩ := text_face d ihd
  show Calls Tryd.prog 135 #[.agg #[.int .u8 (((46 : UInt8).toNat : Nat) : Int), .iface (tyT a) (payT a), .iface (tyT d) (payT d)]] w _
  have hc' : (((46 : UInt8).toNat : Nat) : Int) = 46 := rfl
  rw [hc', hT, hp, hT2, hp2]
  have HX := Lib.hid hX
  have HX2 := Lib.hid hX2
  have HS := Lib.hid (pair_txt 46 a d hla hld)
  have hcv : ∀ W : World, (convert 5 9 (.int .u8 46)).run Tryd.prog W = .ok (.string ⟨#[46]⟩) W := fun W => by kernel_rfl
  have HR : Hid ((⟨#[40]⟩ : ByteArray) ++ toB (showT a) ++ ⟨#[46]⟩ ++ toB (showT d) ++ ⟨#[41]⟩ = toB (showT (.two 46 a d))) := Lib.hid HS.out.2.2.2.2
  have hxs : (toB (showT a)).size ≤ 1000 := by rw [toB_size]; exact hla
  have hys : (toB (showT d)).size ≤ 1000 := by rw [toB_size]; exact hld
  have HN : Hid (¬ (9223372036854775807 < 1 + (toB (showT a)).size) ∧ ¬ (9223372036854775807 < 1 + (toB (showT a)).size + 1) ∧ ¬ (9223372036854775807 < 1 + (toB (showT a)).size + 1 + (toB (showT d)).size) ∧ ¬ (9223372036854775807 < 1 + (toB (showT a)).size + 1 + (toB (showT d)).size + 1)) := Lib.hid ⟨by omega, by omega, by omega, by omega⟩
  clear hT hp hT2 hp2 hX hX2 iha ihd hc' hla hld hxs hys
  generalize toB (showT (.two 46 a d)) = R at *
  generalize toB (showT a) = X at *
  generalize toB (showT d) = Y at *
  go_enter Tryd.func135, Tryd.ntmps135
  go_wp2_with fail
  obtain ⟨W0, hW0⟩ : ∃ W0, w.alloc (.cells #[.int .u8 46, .iface T p, .iface T2 p2] 111) = W0 := ⟨_, rfl⟩
  have HF := Lib.hid (fun V hb => trio_box w W0 _ _ _ _ hW0 V hb)
  rw [hW0]
  clear hW0
  have hA0 : Below W0.heap.size W0 W0.drew := (Below.refl _ _).drew
  refine wp_region_held_drew (S := fun V => Below W0.heap.size W0 V) hmx hA0 (fun _ => ?_)
  generalize W0.drew = V0 at *
  refine take1 0 (v := ?_) rfl (by kernel_rfl) (by kernel_rfl) (by kernel_rfl) (fun _ _ _ h => h) (by rfl) ?_ hA0 ?_
  rotate_left
  · intro V9 hA
    obtain ⟨f0, f1, f2, f3⟩ := HF.out _ hA
    clear hA
    go_simp
    try with_reducible rfl
  try simp only [Act.put, List.setIfInBounds_toArray, List.set_cons_zero, List.set_cons_succ]
  refine take1 1 (v := ?_) rfl (by kernel_rfl) (by kernel_rfl) (by kernel_rfl) (fun _ _ _ h => h) (by rfl) ?_ hA0 ?_
  rotate_left
  · intro V9 hA
    obtain ⟨f0, f1, f2, f3⟩ := HF.out _ hA
    clear hA
    go_simp
    try with_reducible rfl
  try simp only [Act.put, List.setIfInBounds_toArray, List.set_cons_zero, List.set_cons_succ]
  refine take1 4 (v := ?_) rfl (by kernel_rfl) (by kernel_rfl) (by kernel_rfl) (fun _ _ _ h => h) (by rfl) ?_ hA0 ?_
  rotate_left
  · intro V9 hA
    obtain ⟨f0, f1, f2, f3⟩ := HF.out _ hA
    clear hA
    go_simp
    try with_reducible rfl
  try simp only [Act.put, List.setIfInBounds_toArray, List.set_cons_zero, List.set_cons_succ]
  refine take1 5 (v := ?_) rfl (by kernel_rfl) (by kernel_rfl) (by kernel_rfl) (fun _ _ _ h => h) (by rfl) ?_ hA0 ?_
  rotate_left
  · intro V9 hA
    obtain ⟨f0, f1, f2, f3⟩ := HF.out _ hA
    clear hA
    go_simp
    try with_reducible rfl
  try simp only [Act.put, List.setIfInBounds_toArray, List.set_cons_zero, List.set_cons_succ]
  refine take1 6 (v := ?_) rfl (by kernel_rfl) (by kernel_rfl) (by kernel_rfl) (fun _ _ _ h => h) (by rfl) ?_ hA0 ?_
  rotate_left
  · intro V9 hA
    obtain ⟨f0, f1, f2, f3⟩ := HF.out _ hA
    clear hA
    go_simp
    try with_reducible rfl
  try simp only [Act.put, List.setIfInBounds_toArray, List.set_cons_zero, List.set_cons_succ]
  refine take1 8 (v := ?_) rfl (by kernel_rfl) (by kernel_rfl) (by kernel_rfl) (fun _ _ _ h => h) (by rfl) ?_ hA0 ?_
  rotate_left
  · intro V9 hA
    obtain ⟨f0, f1, f2, f3⟩ := HF.out _ hA
    clear hA
    go_simp
    try with_reducible rfl
  try simp only [Act.put, List.setIfInBounds_toArray, List.set_cons_zero, List.set_cons_succ]
  refine take1 9 (v := ?_) rfl (by kernel_rfl) (by kernel_rfl) (by kernel_rfl) (fun _ _ _ h => h) (by rfl) ?_ hA0 ?_
  rotate_left
  · intro V9 hA
    obtain ⟨f0, f1, f2, f3⟩ := HF.out _ hA
    clear hA
    go_simp
    try with_reducible rfl
  try simp only [Act.put, List.setIfInBounds_toArray, List.set_cons_zero, List.set_cons_succ]
  refine step1 2 (by kernel_rfl) rfl (fun K hK => ?_)
  go_simp
  refine (HX.out _).mono ?_
  rintro e V1 ⟨rfl, hb1⟩
  go_wp2_with fail
  have hA1 := hA0.trans (hb1.mono hA0.size)
  refine hK.out _ _ hA1 ?_
  clear hK K
  try simp only [Act.put, List.setIfInBounds_toArray, List.set_cons_zero, List.set_cons_succ]
  refine take1 3 (v := ?_) rfl (by kernel_rfl) (by kernel_rfl) (by kernel_rfl) (fun _ _ _ h => h) (by rfl) ?_ hA1 ?_
  rotate_left
  · intro V9 hA
    obtain ⟨f0, f1, f2, f3⟩ := HF.out _ hA
    obtain ⟨s1, s2, s3, s4⟩ := HN.out
    clear hA
    go_simp
    try with_reducible rfl
  try simp only [Act.put, List.setIfInBounds_toArray, List.set_cons_zero, List.set_cons_succ]
  refine take1 7 (v := ?_) rfl (by kernel_rfl) (by kernel_rfl) (by kernel_rfl) (fun _ _ _ h => h) (by rfl) ?_ hA1 ?_
  rotate_left
  · intro V9 hA
    obtain ⟨f0, f1, f2, f3⟩ := HF.out _ hA
    obtain ⟨s1, s2, s3, s4⟩ := HN.out
    clear hA
    go_simp
    try with_reducible rfl
  try simp only [Act.put, List.setIfInBounds_toArray, List.set_cons_zero, List.set_cons_succ]
  refine step1 10 (by kernel_rfl) rfl (fun K hK => ?_)
  go_simp
  refine (HX2.out _).mono ?_
  rintro e V2 ⟨rfl, hb2⟩
  go_wp2_with fail
  have hA2 := hA1.trans (hb2.mono hA1.size)
  refine hK.out _ _ hA2 ?_
  clear hK K
  try simp only [Act.put, List.setIfInBounds_toArray, List.set_cons_zero, List.set_cons_succ]
  refine take1 11 (v := ?_) rfl (by kernel_rfl) (by kernel_rfl) (by kernel_rfl) (fun _ _ _ h => h) (by rfl) ?_ hA2 ?_
  rotate_left
  · intro V9 hA
    obtain ⟨f0, f1, f2, f3⟩ := HF.out _ hA
    obtain ⟨s1, s2, s3, s4⟩ := HN.out
    clear hA
    go_simp
    try with_reducible rfl
  try simp only [Act.put, List.setIfInBounds_toArray, List.set_cons_zero, List.set_cons_succ]
  refine take1 12 (v := ?_) rfl (by kernel_rfl) (by kernel_rfl) (by kernel_rfl) (fun _ _ _ h => h) (by rfl) ?_ hA2 ?_
  rotate_left
  · intro V9 hA
    obtain ⟨f0, f1, f2, f3⟩ := HF.out _ hA
    obtain ⟨s1, s2, s3, s4⟩ := HN.out
    clear hA
    go_simp
    try with_reducible rfl
  try simp only [Act.put, List.setIfInBounds_toArray, List.set_cons_zero, List.set_cons_succ]
  refine take1 13 (v := ?_) rfl (by kernel_rfl) (by kernel_rfl) (by kernel_rfl) (fun _ _ _ h => h) (by rfl) ?_ hA2 ?_
  rotate_left
  · intro V9 hA
    obtain ⟨f0, f1, f2, f3⟩ := HF.out _ hA
    clear hA
    go_simp
    try with_reducible rfl
  try simp only [Act.put, List.setIfInBounds_toArray, List.set_cons_zero, List.set_cons_succ]
  refine stop1 (by kernel_rfl) ?_
  have hE := (HF.out _ hA2).2.2.2
  go_wp2
  go_ret
  exact ⟨by rw [← HR.out]; rfl, hE⟩
/-- The program writes the text of any term. -/
theorem texts_any (n : Nat) (h2 : n ≤ 12) (t : Tm) (ho : okT n t = true) (hl : (showT t).length ≤ 1000) : Texts t := by
  induction t with
  | leaf c => exact texts_leaf n h2 c ho
  | one c a ih =>
    have h' : (isFront c && okT n a) = true := ho
    rw [Bool.and_eq_true] at h'
    have hc := h'.1
    have hl' : (showT a).length + 1 ≤ 1000 := hl
    unfold isFront at hc
    rw [Bool.or_eq_true, beq_iff_eq, beq_iff_eq] at hc
    rcases hc with rfl | rfl
    · exact texts_not a (by omega) (ih h'.2 (by omega))
    · exact texts_minus a (by omega) (ih h'.2 (by omega))
  | two c a d iha ihd =>
    have h' : (isMid c && okT n a && okT n d) = true := ho
    rw [Bool.and_eq_true, Bool.and_eq_true] at h'
    have hc := h'.1.1
    rw [len_two] at hl
    unfold isMid at hc
    rw [Bool.or_eq_true, Bool.or_eq_true, beq_iff_eq, beq_iff_eq, beq_iff_eq] at hc
    rcases hc with (rfl | rfl) | rfl
    · exact texts_plus a d (by omega) (by omega) (iha h'.1.2 (by omega)) (ihd h'.2 (by omega))
    · exact texts_and a d (by omega) (by omega) (iha h'.1.2 (by omega)) (ihd h'.2 (by omega))
    · exact texts_point a d (by omega) (by omega) (iha h'.1.2 (by omega)) (ihd h'.2 (by omega))
end Go.Proofs.YtecjhkpldcmlaaaDoor
