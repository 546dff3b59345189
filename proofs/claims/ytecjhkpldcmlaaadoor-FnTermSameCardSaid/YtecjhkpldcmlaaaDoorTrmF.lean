/- Terms: the model asks terms for places. Written by gen135.py. -/
import Derived.Test.YtecjhkpldcmlaaaDoorTrmE
namespace Go.Proofs.YtecjhkpldcmlaaaDoor
open Go.RowKit Go.Shelf
set_option linter.unusedVariables false
attribute [local go_sem] Oper.semAt_some
/-- The model tells whether a term has a place. -/
def HasSays (n : Nat) (t : Tm) : Prop := ∀ (k : Nat), k < n → ∀ (v : Value) (w : World), IsTm w t v → Calls Tryd.prog 53 #[.int .i64 (n:Int), v, .int .i64 (k:Int)] w fun e w' => e = .returned (.bool (hasT n t k)) ∧ Below w.heap.size w w'
theorem leaf_signs {n : Nat} {c : UInt8} (hc : c ≠ 101) (h : isLeaf n c = true) : ∃ p : Nat, placeB c = (p : Int) ∧ p < n ∧ c.toNat ≠ 101 ∧ c.toNat ≠ 33 ∧ c.toNat ≠ 45 ∧ c.toNat ≠ 43 ∧ c.toNat ≠ 38 ∧ c.toNat ≠ 46 ∧ c.toNat ≠ 40 := by
  rcases leaf_is n c h with rfl | ⟨_, p0, p1⟩
  · exact absurd rfl hc
  · refine ⟨(placeB c).toNat, by omega, by omega, ?_⟩
    have hpp : 0 ≤ placeX c.toNat := by rw [← place_x]; exact p0
    refine ⟨fun e => ?_, fun e => ?_, fun e => ?_, fun e => ?_, fun e => ?_, fun e => ?_, fun e => ?_⟩ <;> (rw [e] at hpp; exact absurd hpp (by decide))
theorem neg_wraps (k : Nat) (h : k < 4096) : IntKind.i64.wrap (-(k : Int)) = -(k : Int) ∧ wrap64 (-(k : Int)) = -(k : Int) := ⟨IntWalk.i64_in _ ⟨by omega, by omega⟩, IntWalk.wrap64_in _ ⟨by omega, by omega⟩⟩
theorem sub_wraps (k i : Nat) (h : k < 4096) (hi : i < 4096) : IntKind.i64.wrap ((k : Int) - (i : Int)) = (k : Int) - (i : Int) ∧ wrap64 ((k : Int) - (i : Int)) = (k : Int) - (i : Int) := ⟨IntWalk.i64_in _ ⟨by omega, by omega⟩, IntWalk.wrap64_in _ ⟨by omega, by omega⟩⟩
set_option maxHeartbeats 1000000 in
theorem has_leaf (n : Nat) (c : UInt8) (h1 : 1 ≤ n) (h2 : n ≤ 12) (ho : okT n (.leaf c) = true) : HasSays n (.leaf c) := by
  intro k hk v w hI
  obtain ⟨A, cap, rfl⟩ := hI
  by_cases hc : c = 101
  · subst hc
    go_enter Tryd.func53, Tryd.ntmps53
    go_wp2
    go_ret
    exact ⟨rfl, (Below.refl _ _).alloc (Nat.le_refl _) _⟩
  · have HP := Lib.hid (fun W => l11Place_any c W)
    have HV : Hid (hasT n (.leaf c) k = decide (placeB c = (k : Int))) := Lib.hid (by show (if c = 101 then false else decide (placeB c = (k : Int))) = _; rw [if_neg hc])
    obtain ⟨p, hp, p1, k0, k1, k2, k3, k4, k5, _⟩ := leaf_signs hc ho
    rw [hp] at HP HV
    generalize c.toNat = x at *
    have d0 : ((x : Int) == 101) = false := by simp; omega
    have d1 : ((x : Int) == 33) = false := by simp; omega
    have d2 : ((x : Int) == 45) = false := by simp; omega
    have d3 : ((x : Int) == 43) = false := by simp; omega
    have d4 : ((x : Int) == 38) = false := by simp; omega
    have d5 : ((x : Int) == 46) = false := by simp; omega
    have e9 : ((p : Int) == (k : Int)) = decide ((p : Int) = (k : Int)) := rfl
    clear k0 k1 k2 k3 k4 k5 p1 hp hc ho
    rw [HV.out]
    clear HV
    generalize decide ((p : Int) = (k : Int)) = r at *
    go_enter Tryd.func53, Tryd.ntmps53
    go_wp2_with (go_at_call 60; refine (HP.out _).mono ?_; rintro e w2 ⟨rfl, rfl⟩)
    go_ret
    exact ⟨by first | rfl | (simp; done), (Below.refl _ _).alloc (Nat.le_refl _) _⟩
set_option maxHeartbeats 2000000 in
theorem has_not (n : Nat) (a : Tm) (h1 : 1 ≤ n) (h2 : n ≤ 12) (ih : HasSays n a) : HasSays n (.one 33 a) := by
  intro k hk v w hI
  obtain ⟨b, z, A, l, q, rfl, hb, c0, c1, hK⟩ := hI.openOne
  have hc' : (((33 : UInt8).toNat : Nat) : Int) = 33 := rfl
  rw [hc']
  have HX := Lib.hid (fun W hb => ih k hk _ W (hK.below hb a))
  clear ih hK hI
  have HV : Hid (hasT n (.one 33 a) k = !hasT n a k) := Lib.hid rfl
  rw [HV.out]
  clear HV
  generalize hasT n a k = r at *
  have hB0 : Below w.heap.size w (w.alloc (.cells #[.int .u8 33, .slice (some ⟨b, 0, none⟩) 1 1] 50)) := (Below.refl _ _).alloc (Nat.le_refl _) _
  have g0 := kid_cell hB0 hb c0
  have g1 := kid_cell hB0 hb c1
  go_enter Tryd.func53, Tryd.ntmps53
  go_wp2_with fail
  refine (HX.out _ hB0).mono ?_
  rintro e w2 ⟨rfl, hb2⟩
  go_wp2
  go_ret
  exact ⟨rfl, hB0.trans (hb2.mono hB0.size)⟩
set_option maxHeartbeats 2000000 in
theorem has_minus (n : Nat) (a : Tm) (h1 : 1 ≤ n) (h2 : n ≤ 12) (ih : HasSays n a) : HasSays n (.one 45 a) := by
  have hmx : Tryd.prog.follows .mixedOrders = true := by kernel_rfl
  intro k hk v w hI
  obtain ⟨b, z, A, l, q, rfl, hb, c0, c1, hK⟩ := hI.openOne
  have hc' : (((45 : UInt8).toNat : Nat) : Int) = 45 := rfl
  rw [hc']
  have HX := Lib.hid (fun W hb => ih (neg n k) (neg_lt n k h1) _ W (hK.below hb a))
  have HR := Lib.hid (fun W => l1Rest_any n (-(k : Int)) W h1 h2 (by omega))
  have HN : Hid (rest n (-(k : Int)) = neg n k) := Lib.hid rfl
  rw [HN.out] at HR
  clear ih hK hI
  have HV : Hid (hasT n (.one 45 a) k = hasT n a (neg n k)) := Lib.hid rfl
  rw [HV.out]
  clear HV HN
  generalize hasT n a (neg n k) = r at *
  generalize neg n k = m at *
  have HW := Lib.hid (neg_wraps k (by omega))
  go_enter Tryd.func53, Tryd.ntmps53
  go_wp2_with fail
  obtain ⟨W0, hW0⟩ : ∃ W0, w.alloc (.cells #[.int .u8 45, .slice (some ⟨b, 0, none⟩) 1 1] 50) = W0 := ⟨_, rfl⟩
  have HF : Hid (∀ W, Below W0.heap.size W0 W → W.cell? ⟨w.heap.size, 1, none⟩ = some (.slice (some ⟨b, 0, none⟩) 1 1) ∧ W.cell? ⟨b, 0, none⟩ = some (.int .u8 z) ∧ W.cell? ⟨b, 1, none⟩ = some (.slice A l q) ∧ Below w.heap.size w W) := Lib.hid (fun W h => by
    obtain ⟨_, f1, f2⟩ := box_facts w W0 _ _ _ hW0 W h
    exact ⟨f1, kid_cell f2 hb c0, kid_cell f2 hb c1, f2⟩)
  rw [hW0]
  clear hW0 c0 c1
  have hA0 : Below W0.heap.size W0 W0.drew := (Below.refl _ _).drew
  refine wp_region_held_drew (S := fun V => Below W0.heap.size W0 V) hmx hA0 (fun _ => ?_)
  generalize W0.drew = V0 at *
  refine take1 0 (v := ?_) rfl (by kernel_rfl) (by kernel_rfl) (by kernel_rfl) (fun _ _ _ h => h) (by rfl) ?_ hA0 ?_
  rotate_left
  · intro V9 hA
    obtain ⟨f1, f2, f3, f4⟩ := HF.out _ hA
    clear hA
    go_simp
    try with_reducible rfl
  try simp only [Act.put, List.setIfInBounds_toArray, List.set_cons_zero, List.set_cons_succ]
  refine take1 1 (v := ?_) rfl (by kernel_rfl) (by kernel_rfl) (by kernel_rfl) (fun _ _ _ h => h) (by rfl) ?_ hA0 ?_
  rotate_left
  · intro V9 hA
    obtain ⟨f1, f2, f3, f4⟩ := HF.out _ hA
    clear hA
    go_simp
    try with_reducible rfl
  try simp only [Act.put, List.setIfInBounds_toArray, List.set_cons_zero, List.set_cons_succ]
  refine take1 2 (v := ?_) rfl (by kernel_rfl) (by kernel_rfl) (by kernel_rfl) (fun _ _ _ h => h) (by rfl) ?_ hA0 ?_
  rotate_left
  · intro V9 hA
    obtain ⟨f1, f2, f3, f4⟩ := HF.out _ hA
    clear hA
    go_simp
    try with_reducible rfl
  try simp only [Act.put, List.setIfInBounds_toArray, List.set_cons_zero, List.set_cons_succ]
  refine take1 3 (v := ?_) rfl (by kernel_rfl) (by kernel_rfl) (by kernel_rfl) (fun _ _ _ h => h) (by rfl) ?_ hA0 ?_
  rotate_left
  · intro V9 hA
    obtain ⟨f1, f2, f3, f4⟩ := HF.out _ hA
    clear hA
    go_simp
    try with_reducible rfl
  try simp only [Act.put, List.setIfInBounds_toArray, List.set_cons_zero, List.set_cons_succ]
  refine take1 4 (v := ?_) rfl (by kernel_rfl) (by kernel_rfl) (by kernel_rfl) (fun _ _ _ h => h) (by rfl) ?_ hA0 ?_
  rotate_left
  · intro V9 hA
    obtain ⟨f1, f2, f3, f4⟩ := HF.out _ hA
    clear hA
    go_simp
    try with_reducible rfl
  try simp only [Act.put, List.setIfInBounds_toArray, List.set_cons_zero, List.set_cons_succ]
  refine take1 5 (v := ?_) rfl (by kernel_rfl) (by kernel_rfl) (by kernel_rfl) (fun _ _ _ h => h) (by rfl) ?_ hA0 ?_
  rotate_left
  · intro V9 hA
    obtain ⟨f1, f2, f3, f4⟩ := HF.out _ hA
    clear hA
    go_simp
    try with_reducible rfl
  try simp only [Act.put, List.setIfInBounds_toArray, List.set_cons_zero, List.set_cons_succ]
  refine take1 6 (v := ?_) rfl (by kernel_rfl) (by kernel_rfl) (by kernel_rfl) (fun _ _ _ h => h) (by rfl) ?_ hA0 ?_
  rotate_left
  · intro V9 hA
    obtain ⟨f1, f2, f3, f4⟩ := HF.out _ hA
    obtain ⟨u1, u2⟩ := HW.out
    clear hA
    go_simp
    try with_reducible rfl
  try simp only [Act.put, List.setIfInBounds_toArray, List.set_cons_zero, List.set_cons_succ]
  refine take1 7 (v := ?_) rfl (by kernel_rfl) (by kernel_rfl) (by kernel_rfl) (fun _ _ _ h => h) (by rfl) ?_ hA0 ?_
  rotate_left
  · intro V9 hA
    obtain ⟨f1, f2, f3, f4⟩ := HF.out _ hA
    clear hA
    go_simp
    try with_reducible rfl
  try simp only [Act.put, List.setIfInBounds_toArray, List.set_cons_zero, List.set_cons_succ]
  refine step1 8 (by kernel_rfl) rfl (fun K hK => ?_)
  go_simp
  refine (HR.out _).mono ?_
  rintro e V9 ⟨rfl, rfl⟩
  go_wp2_with fail
  refine hK.out _ _ hA0 ?_
  clear hK K
  try simp only [Act.put, List.setIfInBounds_toArray, List.set_cons_zero, List.set_cons_succ]
  refine step1 9 (by kernel_rfl) rfl (fun K hK => ?_)
  go_simp
  refine (HX.out _ (HF.out _ hA0).2.2.2).mono ?_
  rintro e V1 ⟨rfl, hb1⟩
  go_wp2_with fail
  have hA1 := hA0.trans (hb1.mono hA0.size)
  refine hK.out _ _ hA1 ?_
  clear hK K
  try simp only [Act.put, List.setIfInBounds_toArray, List.set_cons_zero, List.set_cons_succ]
  refine take1 10 (v := ?_) rfl (by kernel_rfl) (by kernel_rfl) (by kernel_rfl) (fun _ _ _ h => h) (by rfl) ?_ hA1 ?_
  rotate_left
  · intro V9 hA
    obtain ⟨f1, f2, f3, f4⟩ := HF.out _ hA
    clear hA
    go_simp
    try with_reducible rfl
  try simp only [Act.put, List.setIfInBounds_toArray, List.set_cons_zero, List.set_cons_succ]
  refine stop1 (by kernel_rfl) ?_
  have hE := (HF.out _ hA1).2.2.2
  go_wp2
  go_ret
  exact ⟨rfl, hE⟩
set_option maxHeartbeats 2000000 in
theorem has_or (n : Nat) (a d : Tm) (h1 : 1 ≤ n) (h2 : n ≤ 12) (iha : HasSays n a) (ihd : HasSays n d) : HasSays n (.two 43 a d) := by
  intro k hk v w hI
  obtain ⟨b, z, A, l, q, z2, A2, l2, q2, rfl, hb, c0, c1, c2, c3, hK, hK2⟩ := hI.openTwo
  have hc' : (((43 : UInt8).toNat : Nat) : Int) = 43 := rfl
  rw [hc']
  have HX := Lib.hid (fun W hb => iha k hk _ W (hK.below hb a))
  have HY := Lib.hid (fun W hb => ihd k hk _ W (hK2.below hb d))
  clear iha ihd hK hK2 hI
  have HV : Hid (hasT n (.two 43 a d) k = (hasT n a k || hasT n d k)) := Lib.hid rfl
  rw [HV.out]
  clear HV
  generalize hasT n a k = r at *
  generalize hasT n d k = s at *
  have hB0 : Below w.heap.size w (w.alloc (.cells #[.int .u8 43, .slice (some ⟨b, 0, none⟩) 2 2] 50)) := (Below.refl _ _).alloc (Nat.le_refl _) _
  have g0 := kid_cell hB0 hb c0
  have g1 := kid_cell hB0 hb c1
  have HF : Hid (∀ W, Below (w.alloc (.cells #[.int .u8 43, .slice (some ⟨b, 0, none⟩) 2 2] 50)).heap.size (w.alloc (.cells #[.int .u8 43, .slice (some ⟨b, 0, none⟩) 2 2] 50)) W → W.cell? ⟨w.heap.size, 1, none⟩ = some (.slice (some ⟨b, 0, none⟩) 2 2) ∧ W.cell? ⟨b, 2, none⟩ = some (.int .u8 z2) ∧ W.cell? ⟨b, 3, none⟩ = some (.slice A2 l2 q2) ∧ Below w.heap.size w W) := Lib.hid (fun W h => by
    obtain ⟨_, f1, f2⟩ := box_facts w _ _ _ _ rfl W h
    exact ⟨f1, kid_cell f2 hb c2, kid_cell f2 hb c3, f2⟩)
  cases r
  · go_enter Tryd.func53, Tryd.ntmps53
    go_wp2_with fail
    refine (HX.out _ hB0).mono ?_
    rintro e w2 ⟨rfl, hb2⟩
    obtain ⟨f1, f2, f3, f4⟩ := HF.out _ hb2
    go_wp2_with fail
    refine (HY.out _ f4).mono ?_
    rintro e w3 ⟨rfl, hb3⟩
    go_wp2
    go_ret
    exact ⟨rfl, f4.trans (hb3.mono f4.size)⟩
  · go_enter Tryd.func53, Tryd.ntmps53
    go_wp2_with fail
    refine (HX.out _ hB0).mono ?_
    rintro e w2 ⟨rfl, hb2⟩
    obtain ⟨f1, f2, f3, f4⟩ := HF.out _ hb2
    go_wp2
    go_ret
    exact ⟨rfl, f4⟩
set_option maxHeartbeats 2000000 in
theorem has_and (n : Nat) (a d : Tm) (h1 : 1 ≤ n) (h2 : n ≤ 12) (iha : HasSays n a) (ihd : HasSays n d) : HasSays n (.two 38 a d) := by
  intro k hk v w hI
  obtain ⟨b, z, A, l, q, z2, A2, l2, q2, rfl, hb, c0, c1, c2, c3, hK, hK2⟩ := hI.openTwo
  have hc' : (((38 : UInt8).toNat : Nat) : Int) = 38 := rfl
  rw [hc']
  have HX := Lib.hid (fun W hb => iha k hk _ W (hK.below hb a))
  have HY := Lib.hid (fun W hb => ihd k hk _ W (hK2.below hb d))
  clear iha ihd hK hK2 hI
  have HV : Hid (hasT n (.two 38 a d) k = (hasT n a k && hasT n d k)) := Lib.hid rfl
  rw [HV.out]
  clear HV
  generalize hasT n a k = r at *
  generalize hasT n d k = s at *
  have hB0 : Below w.heap.size w (w.alloc (.cells #[.int .u8 38, .slice (some ⟨b, 0, none⟩) 2 2] 50)) := (Below.refl _ _).alloc (Nat.le_refl _) _
  have g0 := kid_cell hB0 hb c0
  have g1 := kid_cell hB0 hb c1
  have HF : Hid (∀ W, Below (w.alloc (.cells #[.int .u8 38, .slice (some ⟨b, 0, none⟩) 2 2] 50)).heap.size (w.alloc (.cells #[.int .u8 38, .slice (some ⟨b, 0, none⟩) 2 2] 50)) W → W.cell? ⟨w.heap.size, 1, none⟩ = some (.slice (some ⟨b, 0, none⟩) 2 2) ∧ W.cell? ⟨b, 2, none⟩ = some (.int .u8 z2) ∧ W.cell? ⟨b, 3, none⟩ = some (.slice A2 l2 q2) ∧ Below w.heap.size w W) := Lib.hid (fun W h => by
    obtain ⟨_, f1, f2⟩ := box_facts w _ _ _ _ rfl W h
    exact ⟨f1, kid_cell f2 hb c2, kid_cell f2 hb c3, f2⟩)
  cases r
  · go_enter Tryd.func53, Tryd.ntmps53
    go_wp2_with fail
    refine (HX.out _ hB0).mono ?_
    rintro e w2 ⟨rfl, hb2⟩
    obtain ⟨f1, f2, f3, f4⟩ := HF.out _ hb2
    go_wp2
    go_ret
    exact ⟨rfl, f4⟩
  · go_enter Tryd.func53, Tryd.ntmps53
    go_wp2_with fail
    refine (HX.out _ hB0).mono ?_
    rintro e w2 ⟨rfl, hb2⟩
    obtain ⟨f1, f2, f3, f4⟩ := HF.out _ hb2
    go_wp2_with fail
    refine (HY.out _ f4).mono ?_
    rintro e w3 ⟨rfl, hb3⟩
    go_wp2
    go_ret
    exact ⟨rfl, f4.trans (hb3.mono f4.size)⟩
theorem any_up (n : Nat) (p : Nat → Bool) (i : Nat) (hi : i < n) (h : p i = true) : (List.range n).any p = true := List.any_eq_true.2 ⟨i, List.mem_range.2 hi, h⟩
theorem any_none (n : Nat) (p : Nat → Bool) (h : ∀ i, i < n → p i = false) : (List.range n).any p = false := by
  rw [List.any_eq_false]
  intro i hi
  rw [h i (List.mem_range.1 hi)]
  exact Bool.false_ne_true
set_option maxHeartbeats 4000000 in
theorem has_point (n : Nat) (a d : Tm) (h1 : 1 ≤ n) (h2 : n ≤ 12) (iha : HasSays n a) (ihd : HasSays n d) : HasSays n (.two 46 a d) := by
  have hmx : Tryd.prog.follows .mixedOrders = true := by kernel_rfl
  intro k hk v w hI
  obtain ⟨b, z, A, l, q, z2, A2, l2, q2, rfl, hb, c0, c1, c2, c3, hK, hK2⟩ := hI.openTwo
  have hc' : (((46 : UInt8).toNat : Nat) : Int) = 46 := rfl
  rw [hc']
  have HX := Lib.hid (fun i (hi : i < n) W hb => iha i hi _ W (hK.below hb a))
  have HY := Lib.hid (fun i (hi : i < n) W hb => ihd i hi _ W (hK2.below hb d))
  have HR := Lib.hid (fun (i : Nat) (hi : i < n) W => l1Rest_any n ((k : Int) - (i : Int)) W h1 h2 (by omega))
  have HRl := Lib.hid (fun (i : Nat) => rest_lt n ((k : Int) - (i : Int)) h1)
  clear iha ihd hK hK2 hI
  have HV : Hid (hasT n (.two 46 a d) k = (List.range n).any fun i => hasT n a i && hasT n d (rest n ((k : Int) - (i : Int)))) := Lib.hid rfl
  have HW := Lib.hid (fun (i : Nat) (hi : i < n) => sub_wraps k i (by omega) (by omega))
  rw [HV.out]
  clear HV
  go_enter Tryd.func53, Tryd.ntmps53
  go_wp2_with fail
  obtain ⟨W0, hW0⟩ : ∃ W0, w.alloc (.cells #[.int .u8 46, .slice (some ⟨b, 0, none⟩) 2 2] 50) = W0 := ⟨_, rfl⟩
  have HF : Hid (∀ W, Below W0.heap.size W0 W → W.cell? ⟨w.heap.size, 1, none⟩ = some (.slice (some ⟨b, 0, none⟩) 2 2) ∧ W.cell? ⟨b, 0, none⟩ = some (.int .u8 z) ∧ W.cell? ⟨b, 1, none⟩ = some (.slice A l q) ∧ W.cell? ⟨b, 2, none⟩ = some (.int .u8 z2) ∧ W.cell? ⟨b, 3, none⟩ = some (.slice A2 l2 q2) ∧ Below w.heap.size w W) := Lib.hid (fun W h => by
    obtain ⟨_, f1, f2⟩ := box_facts w W0 _ _ _ hW0 W h
    exact ⟨f1, kid_cell f2 hb c0, kid_cell f2 hb c1, kid_cell f2 hb c2, kid_cell f2 hb c3, f2⟩)
  rw [hW0]
  clear hW0 c0 c1 c2 c3
  go_loopw [7] (fun u wr => ∃ i : Nat, i ≤ n ∧ u = .int .i64 (i : Int) ∧ Below W0.heap.size W0 wr ∧ Hid (∀ j, j < i → (hasT n a j && hasT n d (rest n ((k : Int) - (j : Int)))) = false)) (fun u _ => n - (intOf u).toNat)
  case atStart => exact ⟨0, Nat.zero_le _, rfl, Below.refl _ _, Lib.hid (fun j hj => absurd hj (by omega))⟩
  case round =>
    obtain ⟨i, hi, rfl, hB, HA⟩ := hrel
    by_cases hlt : i < n
    · have HXi := Lib.hid (HX.out i hlt)
      have HRi := Lib.hid (HR.out i hlt)
      have HYi := Lib.hid (HY.out _ (HRl.out i))
      have HWi := Lib.hid (HW.out i hlt)
      have HUp := Lib.hid (any_up n (fun i => hasT n a i && hasT n d (rest n ((k : Int) - (i : Int)))) i hlt)
      have HAn : Hid ((hasT n a i && hasT n d (rest n ((k : Int) - (i : Int)))) = false → ∀ j, j < i + 1 → (hasT n a j && hasT n d (rest n ((k : Int) - (j : Int)))) = false) := Lib.hid (fun h j hj => by
        by_cases e : j = i
        · subst e; exact h
        · exact HA.out j (by omega))
      obtain ⟨r, hr⟩ : ∃ r, hasT n a i = r := ⟨_, rfl⟩
      obtain ⟨s, hs⟩ : ∃ s, hasT n d (rest n ((k : Int) - (i : Int))) = s := ⟨_, rfl⟩
      have HUq : Hid ((r && s) = true → ((List.range n).any fun i => hasT n a i && hasT n d (rest n ((k : Int) - (i : Int)))) = true) := Lib.hid (fun h => HUp.out (by show (hasT n a i && hasT n d (rest n ((k : Int) - (i : Int)))) = true; rw [hr, hs]; exact h))
      rw [hr, hs] at HAn
      rw [hr] at HXi
      rw [hs] at HYi
      clear hr hs HUp HA
      generalize rest n ((k : Int) - (i : Int)) = m at HRi HYi
      have l1 : (i : Int) < (n : Int) := by omega
      have l2 := decide_eq_true l1
      cases r
      · have HA2 := Lib.hid (HAn.out rfl)
        clear HAn HUq
        go_wp2_with fail
        have hA0 : Below W0.heap.size W0 wr.drew := hB.drew
        refine wp_region_held_drew (S := fun V => Below W0.heap.size W0 V) hmx hA0 (fun _ => ?_)
        generalize wr.drew = V0 at *
        refine take1 0 (v := ?_) rfl (by kernel_rfl) (by kernel_rfl) (by kernel_rfl) (fun _ _ _ h => h) (by rfl) ?_ hA0 ?_
        rotate_left
        · intro V9 hA
          obtain ⟨f1, f2, f3, f4, f5, f6⟩ := HF.out _ hA
          clear hA
          go_simp
          try with_reducible rfl
        try simp only [Act.put, List.setIfInBounds_toArray, List.set_cons_zero, List.set_cons_succ]
        refine take1 1 (v := ?_) rfl (by kernel_rfl) (by kernel_rfl) (by kernel_rfl) (fun _ _ _ h => h) (by rfl) ?_ hA0 ?_
        rotate_left
        · intro V9 hA
          obtain ⟨f1, f2, f3, f4, f5, f6⟩ := HF.out _ hA
          clear hA
          go_simp
          try with_reducible rfl
        try simp only [Act.put, List.setIfInBounds_toArray, List.set_cons_zero, List.set_cons_succ]
        refine take1 2 (v := ?_) rfl (by kernel_rfl) (by kernel_rfl) (by kernel_rfl) (fun _ _ _ h => h) (by rfl) ?_ hA0 ?_
        rotate_left
        · intro V9 hA
          obtain ⟨f1, f2, f3, f4, f5, f6⟩ := HF.out _ hA
          clear hA
          go_simp
          try with_reducible rfl
        try simp only [Act.put, List.setIfInBounds_toArray, List.set_cons_zero, List.set_cons_succ]
        refine take1 3 (v := ?_) rfl (by kernel_rfl) (by kernel_rfl) (by kernel_rfl) (fun _ _ _ h => h) (by rfl) ?_ hA0 ?_
        rotate_left
        · intro V9 hA
          obtain ⟨f1, f2, f3, f4, f5, f6⟩ := HF.out _ hA
          clear hA
          go_simp
          try with_reducible rfl
        try simp only [Act.put, List.setIfInBounds_toArray, List.set_cons_zero, List.set_cons_succ]
        refine take1 4 (v := ?_) rfl (by kernel_rfl) (by kernel_rfl) (by kernel_rfl) (fun _ _ _ h => h) (by rfl) ?_ hA0 ?_
        rotate_left
        · intro V9 hA
          obtain ⟨f1, f2, f3, f4, f5, f6⟩ := HF.out _ hA
          clear hA
          go_simp
          try with_reducible rfl
        try simp only [Act.put, List.setIfInBounds_toArray, List.set_cons_zero, List.set_cons_succ]
        refine take1 5 (v := ?_) rfl (by kernel_rfl) (by kernel_rfl) (by kernel_rfl) (fun _ _ _ h => h) (by rfl) ?_ hA0 ?_
        rotate_left
        · intro V9 hA
          obtain ⟨f1, f2, f3, f4, f5, f6⟩ := HF.out _ hA
          clear hA
          go_simp
          try with_reducible rfl
        try simp only [Act.put, List.setIfInBounds_toArray, List.set_cons_zero, List.set_cons_succ]
        refine step1 6 (by kernel_rfl) rfl (fun K hK => ?_)
        go_simp
        refine (HXi.out _ (HF.out _ hA0).2.2.2.2.2).mono ?_
        rintro e V1 ⟨rfl, hb1⟩
        go_wp2_with fail
        have hA1 := hA0.trans (hb1.mono hA0.size)
        refine hK.out _ _ hA1 ?_
        clear hK K
        try simp only [Act.put, List.setIfInBounds_toArray, List.set_cons_zero, List.set_cons_succ]
        refine take1 7 (v := ?_) rfl (by kernel_rfl) (by kernel_rfl) (by kernel_rfl) (fun _ _ _ h => h) (by rfl) ?_ hA1 ?_
        rotate_left
        · intro V9 hA
          obtain ⟨f1, f2, f3, f4, f5, f6⟩ := HF.out _ hA
          clear hA
          go_simp
          try with_reducible rfl
        try simp only [Act.put, List.setIfInBounds_toArray, List.set_cons_zero, List.set_cons_succ]
        refine take0m 8 rfl (by kernel_rfl) (by kernel_rfl) (by kernel_rfl) (fun _ _ _ h => h) (by rfl) hA1 ?_
        try simp only [Act.put, List.setIfInBounds_toArray, List.set_cons_zero, List.set_cons_succ]
        refine take0m 9 rfl (by kernel_rfl) (by kernel_rfl) (by kernel_rfl) (fun _ _ _ h => h) (by rfl) hA1 ?_
        try simp only [Act.put, List.setIfInBounds_toArray, List.set_cons_zero, List.set_cons_succ]
        refine take0m 10 rfl (by kernel_rfl) (by kernel_rfl) (by kernel_rfl) (fun _ _ _ h => h) (by rfl) hA1 ?_
        try simp only [Act.put, List.setIfInBounds_toArray, List.set_cons_zero, List.set_cons_succ]
        refine take0m 11 rfl (by kernel_rfl) (by kernel_rfl) (by kernel_rfl) (fun _ _ _ h => h) (by rfl) hA1 ?_
        try simp only [Act.put, List.setIfInBounds_toArray, List.set_cons_zero, List.set_cons_succ]
        refine take0m 12 rfl (by kernel_rfl) (by kernel_rfl) (by kernel_rfl) (fun _ _ _ h => h) (by rfl) hA1 ?_
        try simp only [Act.put, List.setIfInBounds_toArray, List.set_cons_zero, List.set_cons_succ]
        refine take0m 13 rfl (by kernel_rfl) (by kernel_rfl) (by kernel_rfl) (fun _ _ _ h => h) (by rfl) hA1 ?_
        try simp only [Act.put, List.setIfInBounds_toArray, List.set_cons_zero, List.set_cons_succ]
        refine take0m 14 rfl (by kernel_rfl) (by kernel_rfl) (by kernel_rfl) (fun _ _ _ h => h) (by rfl) hA1 ?_
        try simp only [Act.put, List.setIfInBounds_toArray, List.set_cons_zero, List.set_cons_succ]
        refine take0m 15 rfl (by kernel_rfl) (by kernel_rfl) (by kernel_rfl) (fun _ _ _ h => h) (by rfl) hA1 ?_
        try simp only [Act.put, List.setIfInBounds_toArray, List.set_cons_zero, List.set_cons_succ]
        refine take0m 16 rfl (by kernel_rfl) (by kernel_rfl) (by kernel_rfl) (fun _ _ _ h => h) (by rfl) hA1 ?_
        try simp only [Act.put, List.setIfInBounds_toArray, List.set_cons_zero, List.set_cons_succ]
        refine take0m 17 rfl (by kernel_rfl) (by kernel_rfl) (by kernel_rfl) (fun _ _ _ h => h) (by rfl) hA1 ?_
        try simp only [Act.put, List.setIfInBounds_toArray, List.set_cons_zero, List.set_cons_succ]
        refine take0m 18 rfl (by kernel_rfl) (by kernel_rfl) (by kernel_rfl) (fun _ _ _ h => h) (by rfl) hA1 ?_
        try simp only [Act.put, List.setIfInBounds_toArray, List.set_cons_zero, List.set_cons_succ]
        refine take1 19 (v := ?_) rfl (by kernel_rfl) (by kernel_rfl) (by kernel_rfl) (fun _ _ _ h => h) (by rfl) ?_ hA1 ?_
        rotate_left
        · intro V9 hA
          obtain ⟨f1, f2, f3, f4, f5, f6⟩ := HF.out _ hA
          clear hA
          go_simp
          try with_reducible rfl
        try simp only [Act.put, List.setIfInBounds_toArray, List.set_cons_zero, List.set_cons_succ]
        refine stop1 (by kernel_rfl) ?_
        go_wp2
        go_roundw
        case rel => exact ⟨i + 1, by omega, by go_num, hA1, HA2⟩
        case measure => simp [intOf]; omega
      · cases s
        · have HA2 := Lib.hid (HAn.out rfl)
          clear HAn HUq
          go_wp2_with fail
          have hA0 : Below W0.heap.size W0 wr.drew := hB.drew
          refine wp_region_held_drew (S := fun V => Below W0.heap.size W0 V) hmx hA0 (fun _ => ?_)
          generalize wr.drew = V0 at *
          refine take1 0 (v := ?_) rfl (by kernel_rfl) (by kernel_rfl) (by kernel_rfl) (fun _ _ _ h => h) (by rfl) ?_ hA0 ?_
          rotate_left
          · intro V9 hA
            obtain ⟨f1, f2, f3, f4, f5, f6⟩ := HF.out _ hA
            clear hA
            go_simp
            try with_reducible rfl
          try simp only [Act.put, List.setIfInBounds_toArray, List.set_cons_zero, List.set_cons_succ]
          refine take1 1 (v := ?_) rfl (by kernel_rfl) (by kernel_rfl) (by kernel_rfl) (fun _ _ _ h => h) (by rfl) ?_ hA0 ?_
          rotate_left
          · intro V9 hA
            obtain ⟨f1, f2, f3, f4, f5, f6⟩ := HF.out _ hA
            clear hA
            go_simp
            try with_reducible rfl
          try simp only [Act.put, List.setIfInBounds_toArray, List.set_cons_zero, List.set_cons_succ]
          refine take1 2 (v := ?_) rfl (by kernel_rfl) (by kernel_rfl) (by kernel_rfl) (fun _ _ _ h => h) (by rfl) ?_ hA0 ?_
          rotate_left
          · intro V9 hA
            obtain ⟨f1, f2, f3, f4, f5, f6⟩ := HF.out _ hA
            clear hA
            go_simp
            try with_reducible rfl
          try simp only [Act.put, List.setIfInBounds_toArray, List.set_cons_zero, List.set_cons_succ]
          refine take1 3 (v := ?_) rfl (by kernel_rfl) (by kernel_rfl) (by kernel_rfl) (fun _ _ _ h => h) (by rfl) ?_ hA0 ?_
          rotate_left
          · intro V9 hA
            obtain ⟨f1, f2, f3, f4, f5, f6⟩ := HF.out _ hA
            clear hA
            go_simp
            try with_reducible rfl
          try simp only [Act.put, List.setIfInBounds_toArray, List.set_cons_zero, List.set_cons_succ]
          refine take1 4 (v := ?_) rfl (by kernel_rfl) (by kernel_rfl) (by kernel_rfl) (fun _ _ _ h => h) (by rfl) ?_ hA0 ?_
          rotate_left
          · intro V9 hA
            obtain ⟨f1, f2, f3, f4, f5, f6⟩ := HF.out _ hA
            clear hA
            go_simp
            try with_reducible rfl
          try simp only [Act.put, List.setIfInBounds_toArray, List.set_cons_zero, List.set_cons_succ]
          refine take1 5 (v := ?_) rfl (by kernel_rfl) (by kernel_rfl) (by kernel_rfl) (fun _ _ _ h => h) (by rfl) ?_ hA0 ?_
          rotate_left
          · intro V9 hA
            obtain ⟨f1, f2, f3, f4, f5, f6⟩ := HF.out _ hA
            clear hA
            go_simp
            try with_reducible rfl
          try simp only [Act.put, List.setIfInBounds_toArray, List.set_cons_zero, List.set_cons_succ]
          refine step1 6 (by kernel_rfl) rfl (fun K hK => ?_)
          go_simp
          refine (HXi.out _ (HF.out _ hA0).2.2.2.2.2).mono ?_
          rintro e V1 ⟨rfl, hb1⟩
          go_wp2_with fail
          have hA1 := hA0.trans (hb1.mono hA0.size)
          refine hK.out _ _ hA1 ?_
          clear hK K
          try simp only [Act.put, List.setIfInBounds_toArray, List.set_cons_zero, List.set_cons_succ]
          refine take1 7 (v := ?_) rfl (by kernel_rfl) (by kernel_rfl) (by kernel_rfl) (fun _ _ _ h => h) (by rfl) ?_ hA1 ?_
          rotate_left
          · intro V9 hA
            obtain ⟨f1, f2, f3, f4, f5, f6⟩ := HF.out _ hA
            clear hA
            go_simp
            try with_reducible rfl
          try simp only [Act.put, List.setIfInBounds_toArray, List.set_cons_zero, List.set_cons_succ]
          refine take1 8 (v := ?_) rfl (by kernel_rfl) (by kernel_rfl) (by kernel_rfl) (fun _ _ _ h => h) (by rfl) ?_ hA1 ?_
          rotate_left
          · intro V9 hA
            obtain ⟨f1, f2, f3, f4, f5, f6⟩ := HF.out _ hA
            clear hA
            go_simp
            try with_reducible rfl
          try simp only [Act.put, List.setIfInBounds_toArray, List.set_cons_zero, List.set_cons_succ]
          refine take1 9 (v := ?_) rfl (by kernel_rfl) (by kernel_rfl) (by kernel_rfl) (fun _ _ _ h => h) (by rfl) ?_ hA1 ?_
          rotate_left
          · intro V9 hA
            obtain ⟨f1, f2, f3, f4, f5, f6⟩ := HF.out _ hA
            clear hA
            go_simp
            try with_reducible rfl
          try simp only [Act.put, List.setIfInBounds_toArray, List.set_cons_zero, List.set_cons_succ]
          refine take1 10 (v := ?_) rfl (by kernel_rfl) (by kernel_rfl) (by kernel_rfl) (fun _ _ _ h => h) (by rfl) ?_ hA1 ?_
          rotate_left
          · intro V9 hA
            obtain ⟨f1, f2, f3, f4, f5, f6⟩ := HF.out _ hA
            clear hA
            go_simp
            try with_reducible rfl
          try simp only [Act.put, List.setIfInBounds_toArray, List.set_cons_zero, List.set_cons_succ]
          refine take1 11 (v := ?_) rfl (by kernel_rfl) (by kernel_rfl) (by kernel_rfl) (fun _ _ _ h => h) (by rfl) ?_ hA1 ?_
          rotate_left
          · intro V9 hA
            obtain ⟨f1, f2, f3, f4, f5, f6⟩ := HF.out _ hA
            clear hA
            go_simp
            try with_reducible rfl
          try simp only [Act.put, List.setIfInBounds_toArray, List.set_cons_zero, List.set_cons_succ]
          refine take1 12 (v := ?_) rfl (by kernel_rfl) (by kernel_rfl) (by kernel_rfl) (fun _ _ _ h => h) (by rfl) ?_ hA1 ?_
          rotate_left
          · intro V9 hA
            obtain ⟨f1, f2, f3, f4, f5, f6⟩ := HF.out _ hA
            clear hA
            go_simp
            try with_reducible rfl
          try simp only [Act.put, List.setIfInBounds_toArray, List.set_cons_zero, List.set_cons_succ]
          refine take1 13 (v := ?_) rfl (by kernel_rfl) (by kernel_rfl) (by kernel_rfl) (fun _ _ _ h => h) (by rfl) ?_ hA1 ?_
          rotate_left
          · intro V9 hA
            obtain ⟨f1, f2, f3, f4, f5, f6⟩ := HF.out _ hA
            clear hA
            go_simp
            try with_reducible rfl
          try simp only [Act.put, List.setIfInBounds_toArray, List.set_cons_zero, List.set_cons_succ]
          refine take1 14 (v := ?_) rfl (by kernel_rfl) (by kernel_rfl) (by kernel_rfl) (fun _ _ _ h => h) (by rfl) ?_ hA1 ?_
          rotate_left
          · intro V9 hA
            obtain ⟨f1, f2, f3, f4, f5, f6⟩ := HF.out _ hA
            clear hA
            go_simp
            try with_reducible rfl
          try simp only [Act.put, List.setIfInBounds_toArray, List.set_cons_zero, List.set_cons_succ]
          refine take1 15 (v := ?_) rfl (by kernel_rfl) (by kernel_rfl) (by kernel_rfl) (fun _ _ _ h => h) (by rfl) ?_ hA1 ?_
          rotate_left
          · intro V9 hA
            obtain ⟨f1, f2, f3, f4, f5, f6⟩ := HF.out _ hA
            obtain ⟨u1, u2⟩ := HWi.out
            clear hA
            go_simp
            try with_reducible rfl
          try simp only [Act.put, List.setIfInBounds_toArray, List.set_cons_zero, List.set_cons_succ]
          refine take1 16 (v := ?_) rfl (by kernel_rfl) (by kernel_rfl) (by kernel_rfl) (fun _ _ _ h => h) (by rfl) ?_ hA1 ?_
          rotate_left
          · intro V9 hA
            obtain ⟨f1, f2, f3, f4, f5, f6⟩ := HF.out _ hA
            clear hA
            go_simp
            try with_reducible rfl
          try simp only [Act.put, List.setIfInBounds_toArray, List.set_cons_zero, List.set_cons_succ]
          refine step1 17 (by kernel_rfl) rfl (fun K hK => ?_)
          go_simp
          refine (HRi.out _).mono ?_
          rintro e V9 ⟨rfl, rfl⟩
          go_wp2_with fail
          refine hK.out _ _ hA1 ?_
          clear hK K
          try simp only [Act.put, List.setIfInBounds_toArray, List.set_cons_zero, List.set_cons_succ]
          refine step1 18 (by kernel_rfl) rfl (fun K hK => ?_)
          go_simp
          refine (HYi.out _ (HF.out _ hA1).2.2.2.2.2).mono ?_
          rintro e V2 ⟨rfl, hb2⟩
          go_wp2_with fail
          have hA2 := hA1.trans (hb2.mono hA1.size)
          refine hK.out _ _ hA2 ?_
          clear hK K
          try simp only [Act.put, List.setIfInBounds_toArray, List.set_cons_zero, List.set_cons_succ]
          refine take1 19 (v := ?_) rfl (by kernel_rfl) (by kernel_rfl) (by kernel_rfl) (fun _ _ _ h => h) (by rfl) ?_ hA2 ?_
          rotate_left
          · intro V9 hA
            obtain ⟨f1, f2, f3, f4, f5, f6⟩ := HF.out _ hA
            clear hA
            go_simp
            try with_reducible rfl
          try simp only [Act.put, List.setIfInBounds_toArray, List.set_cons_zero, List.set_cons_succ]
          refine stop1 (by kernel_rfl) ?_
          go_wp2
          go_roundw
          case rel => exact ⟨i + 1, by omega, by go_num, hA2, HA2⟩
          case measure => simp [intOf]; omega
        · have HV2 := Lib.hid (HUq.out rfl)
          clear HAn HUq
          go_wp2_with fail
          have hA0 : Below W0.heap.size W0 wr.drew := hB.drew
          refine wp_region_held_drew (S := fun V => Below W0.heap.size W0 V) hmx hA0 (fun _ => ?_)
          generalize wr.drew = V0 at *
          refine take1 0 (v := ?_) rfl (by kernel_rfl) (by kernel_rfl) (by kernel_rfl) (fun _ _ _ h => h) (by rfl) ?_ hA0 ?_
          rotate_left
          · intro V9 hA
            obtain ⟨f1, f2, f3, f4, f5, f6⟩ := HF.out _ hA
            clear hA
            go_simp
            try with_reducible rfl
          try simp only [Act.put, List.setIfInBounds_toArray, List.set_cons_zero, List.set_cons_succ]
          refine take1 1 (v := ?_) rfl (by kernel_rfl) (by kernel_rfl) (by kernel_rfl) (fun _ _ _ h => h) (by rfl) ?_ hA0 ?_
          rotate_left
          · intro V9 hA
            obtain ⟨f1, f2, f3, f4, f5, f6⟩ := HF.out _ hA
            clear hA
            go_simp
            try with_reducible rfl
          try simp only [Act.put, List.setIfInBounds_toArray, List.set_cons_zero, List.set_cons_succ]
          refine take1 2 (v := ?_) rfl (by kernel_rfl) (by kernel_rfl) (by kernel_rfl) (fun _ _ _ h => h) (by rfl) ?_ hA0 ?_
          rotate_left
          · intro V9 hA
            obtain ⟨f1, f2, f3, f4, f5, f6⟩ := HF.out _ hA
            clear hA
            go_simp
            try with_reducible rfl
          try simp only [Act.put, List.setIfInBounds_toArray, List.set_cons_zero, List.set_cons_succ]
          refine take1 3 (v := ?_) rfl (by kernel_rfl) (by kernel_rfl) (by kernel_rfl) (fun _ _ _ h => h) (by rfl) ?_ hA0 ?_
          rotate_left
          · intro V9 hA
            obtain ⟨f1, f2, f3, f4, f5, f6⟩ := HF.out _ hA
            clear hA
            go_simp
            try with_reducible rfl
          try simp only [Act.put, List.setIfInBounds_toArray, List.set_cons_zero, List.set_cons_succ]
          refine take1 4 (v := ?_) rfl (by kernel_rfl) (by kernel_rfl) (by kernel_rfl) (fun _ _ _ h => h) (by rfl) ?_ hA0 ?_
          rotate_left
          · intro V9 hA
            obtain ⟨f1, f2, f3, f4, f5, f6⟩ := HF.out _ hA
            clear hA
            go_simp
            try with_reducible rfl
          try simp only [Act.put, List.setIfInBounds_toArray, List.set_cons_zero, List.set_cons_succ]
          refine take1 5 (v := ?_) rfl (by kernel_rfl) (by kernel_rfl) (by kernel_rfl) (fun _ _ _ h => h) (by rfl) ?_ hA0 ?_
          rotate_left
          · intro V9 hA
            obtain ⟨f1, f2, f3, f4, f5, f6⟩ := HF.out _ hA
            clear hA
            go_simp
            try with_reducible rfl
          try simp only [Act.put, List.setIfInBounds_toArray, List.set_cons_zero, List.set_cons_succ]
          refine step1 6 (by kernel_rfl) rfl (fun K hK => ?_)
          go_simp
          refine (HXi.out _ (HF.out _ hA0).2.2.2.2.2).mono ?_
          rintro e V1 ⟨rfl, hb1⟩
          go_wp2_with fail
          have hA1 := hA0.trans (hb1.mono hA0.size)
          refine hK.out _ _ hA1 ?_
          clear hK K
          try simp only [Act.put, List.setIfInBounds_toArray, List.set_cons_zero, List.set_cons_succ]
          refine take1 7 (v := ?_) rfl (by kernel_rfl) (by kernel_rfl) (by kernel_rfl) (fun _ _ _ h => h) (by rfl) ?_ hA1 ?_
          rotate_left
          · intro V9 hA
            obtain ⟨f1, f2, f3, f4, f5, f6⟩ := HF.out _ hA
            clear hA
            go_simp
            try with_reducible rfl
          try simp only [Act.put, List.setIfInBounds_toArray, List.set_cons_zero, List.set_cons_succ]
          refine take1 8 (v := ?_) rfl (by kernel_rfl) (by kernel_rfl) (by kernel_rfl) (fun _ _ _ h => h) (by rfl) ?_ hA1 ?_
          rotate_left
          · intro V9 hA
            obtain ⟨f1, f2, f3, f4, f5, f6⟩ := HF.out _ hA
            clear hA
            go_simp
            try with_reducible rfl
          try simp only [Act.put, List.setIfInBounds_toArray, List.set_cons_zero, List.set_cons_succ]
          refine take1 9 (v := ?_) rfl (by kernel_rfl) (by kernel_rfl) (by kernel_rfl) (fun _ _ _ h => h) (by rfl) ?_ hA1 ?_
          rotate_left
          · intro V9 hA
            obtain ⟨f1, f2, f3, f4, f5, f6⟩ := HF.out _ hA
            clear hA
            go_simp
            try with_reducible rfl
          try simp only [Act.put, List.setIfInBounds_toArray, List.set_cons_zero, List.set_cons_succ]
          refine take1 10 (v := ?_) rfl (by kernel_rfl) (by kernel_rfl) (by kernel_rfl) (fun _ _ _ h => h) (by rfl) ?_ hA1 ?_
          rotate_left
          · intro V9 hA
            obtain ⟨f1, f2, f3, f4, f5, f6⟩ := HF.out _ hA
            clear hA
            go_simp
            try with_reducible rfl
          try simp only [Act.put, List.setIfInBounds_toArray, List.set_cons_zero, List.set_cons_succ]
          refine take1 11 (v := ?_) rfl (by kernel_rfl) (by kernel_rfl) (by kernel_rfl) (fun _ _ _ h => h) (by rfl) ?_ hA1 ?_
          rotate_left
          · intro V9 hA
            obtain ⟨f1, f2, f3, f4, f5, f6⟩ := HF.out _ hA
            clear hA
            go_simp
            try with_reducible rfl
          try simp only [Act.put, List.setIfInBounds_toArray, List.set_cons_zero, List.set_cons_succ]
          refine take1 12 (v := ?_) rfl (by kernel_rfl) (by kernel_rfl) (by kernel_rfl) (fun _ _ _ h => h) (by rfl) ?_ hA1 ?_
          rotate_left
          · intro V9 hA
            obtain ⟨f1, f2, f3, f4, f5, f6⟩ := HF.out _ hA
            clear hA
            go_simp
            try with_reducible rfl
          try simp only [Act.put, List.setIfInBounds_toArray, List.set_cons_zero, List.set_cons_succ]
          refine take1 13 (v := ?_) rfl (by kernel_rfl) (by kernel_rfl) (by kernel_rfl) (fun _ _ _ h => h) (by rfl) ?_ hA1 ?_
          rotate_left
          · intro V9 hA
            obtain ⟨f1, f2, f3, f4, f5, f6⟩ := HF.out _ hA
            clear hA
            go_simp
            try with_reducible rfl
          try simp only [Act.put, List.setIfInBounds_toArray, List.set_cons_zero, List.set_cons_succ]
          refine take1 14 (v := ?_) rfl (by kernel_rfl) (by kernel_rfl) (by kernel_rfl) (fun _ _ _ h => h) (by rfl) ?_ hA1 ?_
          rotate_left
          · intro V9 hA
            obtain ⟨f1, f2, f3, f4, f5, f6⟩ := HF.out _ hA
            clear hA
            go_simp
            try with_reducible rfl
          try simp only [Act.put, List.setIfInBounds_toArray, List.set_cons_zero, List.set_cons_succ]
          refine take1 15 (v := ?_) rfl (by kernel_rfl) (by kernel_rfl) (by kernel_rfl) (fun _ _ _ h => h) (by rfl) ?_ hA1 ?_
          rotate_left
          · intro V9 hA
            obtain ⟨f1, f2, f3, f4, f5, f6⟩ := HF.out _ hA
            obtain ⟨u1, u2⟩ := HWi.out
            clear hA
            go_simp
            try with_reducible rfl
          try simp only [Act.put, List.setIfInBounds_toArray, List.set_cons_zero, List.set_cons_succ]
          refine take1 16 (v := ?_) rfl (by kernel_rfl) (by kernel_rfl) (by kernel_rfl) (fun _ _ _ h => h) (by rfl) ?_ hA1 ?_
          rotate_left
          · intro V9 hA
            obtain ⟨f1, f2, f3, f4, f5, f6⟩ := HF.out _ hA
            clear hA
            go_simp
            try with_reducible rfl
          try simp only [Act.put, List.setIfInBounds_toArray, List.set_cons_zero, List.set_cons_succ]
          refine step1 17 (by kernel_rfl) rfl (fun K hK => ?_)
          go_simp
          refine (HRi.out _).mono ?_
          rintro e V9 ⟨rfl, rfl⟩
          go_wp2_with fail
          refine hK.out _ _ hA1 ?_
          clear hK K
          try simp only [Act.put, List.setIfInBounds_toArray, List.set_cons_zero, List.set_cons_succ]
          refine step1 18 (by kernel_rfl) rfl (fun K hK => ?_)
          go_simp
          refine (HYi.out _ (HF.out _ hA1).2.2.2.2.2).mono ?_
          rintro e V2 ⟨rfl, hb2⟩
          go_wp2_with fail
          have hA2 := hA1.trans (hb2.mono hA1.size)
          refine hK.out _ _ hA2 ?_
          clear hK K
          try simp only [Act.put, List.setIfInBounds_toArray, List.set_cons_zero, List.set_cons_succ]
          refine take1 19 (v := ?_) rfl (by kernel_rfl) (by kernel_rfl) (by kernel_rfl) (fun _ _ _ h => h) (by rfl) ?_ hA2 ?_
          rotate_left
          · intro V9 hA
            obtain ⟨f1, f2, f3, f4, f5, f6⟩ := HF.out _ hA
            clear hA
            go_simp
            try with_reducible rfl
          try simp only [Act.put, List.setIfInBounds_toArray, List.set_cons_zero, List.set_cons_succ]
          refine stop1 (by kernel_rfl) ?_
          have hE := (HF.out _ hA2).2.2.2.2.2
          go_wp2
          go_ret
          exact ⟨by rw [HV2.out]; rfl, hE⟩
    · obtain rfl : i = n := by omega
      have HV2 := Lib.hid (any_none i _ HA.out)
      have hE := (HF.out _ hB).2.2.2.2.2
      clear HA hlt hi
      go_wp2
      go_ret
      exact ⟨by rw [HV2.out]; rfl, hE⟩
/-- The model asks any term. -/
theorem l11Has_any (n : Nat) (h1 : 1 ≤ n) (h2 : n ≤ 12) (t : Tm) (ho : okT n t = true) : HasSays n t := by
  induction t with
  | leaf c => exact has_leaf n c h1 h2 ho
  | one c a ih =>
    have h' : (isFront c && okT n a) = true := ho
    rw [Bool.and_eq_true] at h'
    have hc := h'.1
    unfold isFront at hc
    rw [Bool.or_eq_true, beq_iff_eq, beq_iff_eq] at hc
    rcases hc with rfl | rfl
    · exact has_not n a h1 h2 (ih h'.2)
    · exact has_minus n a h1 h2 (ih h'.2)
  | two c a d iha ihd =>
    have h' : (isMid c && okT n a && okT n d) = true := ho
    rw [Bool.and_eq_true, Bool.and_eq_true] at h'
    have hc := h'.1.1
    unfold isMid at hc
    rw [Bool.or_eq_true, Bool.or_eq_true, beq_iff_eq, beq_iff_eq, beq_iff_eq] at hc
    rcases hc with (rfl | rfl) | rfl
    · exact has_or n a d h1 h2 (iha h'.1.2) (ihd h'.2)
    · exact has_and n a d h1 h2 (iha h'.1.2) (ihd h'.2)
    · exact has_point n a d h1 h2 (iha h'.1.2) (ihd h'.2)
end Go.Proofs.YtecjhkpldcmlaaaDoor
