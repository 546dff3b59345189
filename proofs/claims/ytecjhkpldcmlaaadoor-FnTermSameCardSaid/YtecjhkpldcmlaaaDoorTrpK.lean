/- Terms, the program's side: terms made tidy; TermTidy by the model and by the program. Written by gen143.py. -/
import Derived.Test.YtecjhkpldcmlaaaDoorTrpJ
import Derived.Test.YtecjhkpldcmlaaaDoorTrmJ
import Derived.Test.YtecjhkpldcmlaaaDoorTrpM
namespace Go.Proofs.YtecjhkpldcmlaaaDoor
open Go.RowKit Go.Shelf
set_option linter.unusedVariables false
attribute [local go_sem] Oper.semAt_some
/-- The program makes a term tidy. -/
def Tidies (n : Nat) (t : Tm) : Prop := ∀ w, Calls Tryd.prog (k_tidy t) #[payT t, .agg #[.int .i64 (n : Int)]] w fun e w' => e = .returned (.iface (tyT (tidyT n t)) (payT (tidyT n t))) ∧ Below w.heap.size w w'
theorem tidy_face (n : Nat) (t : Tm) (h : Tidies n t) : ∃ T p k, tyT t = T ∧ payT t = p ∧ (∀ W, (Go.method 286 T p "loop.example/ringsofsteps/impl.tidy").run Tryd.prog W = .ok (k, p) W) ∧ (∀ args W, (callFunc k args).run Tryd.prog W = .ok (.enter k args) W) ∧
    ∀ W, Calls Tryd.prog k #[p, .agg #[.int .i64 (n : Int)]] W fun e w' => e = .returned (.iface (tyT (tidyT n t)) (payT (tidyT n t))) ∧ Below W.heap.size W w' := ⟨_, _, _, rfl, rfl, m_tidy t, c_tidy t, h⟩
theorem tidies_leaf (n : Nat) (c : UInt8) : Tidies n (.leaf c) := by
  intro w
  show Calls Tryd.prog (k_tidy (.leaf c)) #[payT (.leaf c), .agg #[.int .i64 (n : Int)]] w fun e w' => e = .returned (.iface (tyT (.leaf c)) (payT (.leaf c))) ∧ Below w.heap.size w w'
  by_cases hc : c = 101
  · subst hc
    show Calls Tryd.prog 127 #[.agg #[], .agg #[.int .i64 (n : Int)]] w fun e w' => e = .returned (.iface 106 (.agg #[])) ∧ Below w.heap.size w w'
    go_enter Tryd.func127, Tryd.ntmps127
    go_wp2
    go_ret
    exact ⟨rfl, ((Below.refl _ _).alloc (Nat.le_refl _) _).alloc (by simp) _⟩
  · rw [show k_tidy (.leaf c) = 131 from if_neg hc, tyT_pl c hc, payT_pl c hc]
    generalize placeB c = p
    go_enter Tryd.func131, Tryd.ntmps131
    go_wp2
    go_ret
    exact ⟨rfl, (Below.refl _ _).alloc (Nat.le_refl _) _⟩
set_option maxHeartbeats 2000000 in
theorem tidies_not (n : Nat) (a : Tm) (ih : Tidies n a) : Tidies n (.one 33 a) := by
  intro w
  obtain ⟨T, p, k, hT, hp, hm, hcf, hX⟩ := tidy_face n a ih
  show Calls Tryd.prog 155 #[.agg #[.iface (tyT a) (payT a)], .agg #[.int .i64 (n : Int)]] w fun e w' => e = .returned (.iface (tyT (front33 (tidyT n a))) (payT (front33 (tidyT n a)))) ∧ Below w.heap.size w w'
  rw [hT, hp]
  have HX := Lib.hid hX
  have HO := Lib.hid (fun W => othersOf_any (tidyT n a) W)
  clear hT hp hX ih
  generalize tyT (front33 (tidyT n a)) = T3 at *
  generalize payT (front33 (tidyT n a)) = p3 at *
  generalize tyT (tidyT n a) = T2 at *
  generalize payT (tidyT n a) = p2 at *
  have hB0 : Below w.heap.size w ((w.alloc (.cells #[.iface T p] 152)).alloc (.cells #[.int .i64 (n : Int)] 43)) := ((Below.refl _ _).alloc (Nat.le_refl _) _).alloc (by simp) _
  go_enter Tryd.func155, Tryd.ntmps155
  go_wp2_with fail
  refine (HX.out _).mono ?_
  rintro e w1 ⟨rfl, hb1⟩
  go_wp2_with fail
  refine (HO.out _).mono ?_
  rintro e w2 ⟨rfl, hb2⟩
  go_wp2
  go_ret
  have hB1 := hB0.trans (hb1.mono hB0.size)
  exact ⟨rfl, hB1.trans (hb2.mono hB1.size)⟩
set_option maxHeartbeats 2000000 in
theorem tidies_minus (n : Nat) (a : Tm) (h1 : 1 ≤ n) (h2 : n ≤ 12) (ho : okT n a = true) (ih : Tidies n a) : Tidies n (.one 45 a) := by
  have hmx : Tryd.prog.follows .mixedOrders = true := by kernel_rfl
  intro w
  obtain ⟨T, p, k, hT, hp, hm, hcf, hX⟩ := tidy_face n a ih
  show Calls Tryd.prog 160 #[.agg #[.iface (tyT a) (payT a)], .agg #[.int .i64 (n : Int)]] w fun e w' => e = .returned (.iface (tyT (front45 n (tidyT n a))) (payT (front45 n (tidyT n a)))) ∧ Below w.heap.size w w'
  rw [hT, hp]
  have HX := Lib.hid hX
  have HO := Lib.hid (fun W => turnedTidy_any n h1 h2 (tidyT n a) (ok_tidy n a h1 h2 ho) W)
  clear hT hp hX ih ho
  generalize tyT (front45 n (tidyT n a)) = T3 at *
  generalize payT (front45 n (tidyT n a)) = p3 at *
  generalize tyT (tidyT n a) = T2 at *
  generalize payT (tidyT n a) = p2 at *
  go_enter Tryd.func160, Tryd.ntmps160
  go_wp2_with fail
  obtain ⟨W0, hW0⟩ : ∃ W0, (w.alloc (.cells #[.iface T p] 153)).alloc (.cells #[.int .i64 (n : Int)] 43) = W0 := ⟨_, rfl⟩
  have HF := Lib.hid (fun V hb => two_boxes w W0 _ _ _ _ hW0 V hb)
  rw [hW0]
  clear hW0
  have hA0 : Below W0.heap.size W0 W0.drew := (Below.refl _ _).drew
  refine wp_region_held_drew (S := fun V => Below W0.heap.size W0 V) hmx hA0 (fun _ => ?_)
  generalize W0.drew = V0 at *
  refine take1 0 (v := ?_) rfl (by kernel_rfl) (by kernel_rfl) (by kernel_rfl) (fun _ _ _ h => h) (by rfl) ?_ hA0 ?_
  rotate_left
  · intro V9 hA
    obtain ⟨f1, f2, f3⟩ := HF.out _ hA
    clear hA
    go_simp
    try with_reducible rfl
  try simp only [Act.put, List.setIfInBounds_toArray, List.set_cons_zero, List.set_cons_succ]
  refine take1 1 (v := ?_) rfl (by kernel_rfl) (by kernel_rfl) (by kernel_rfl) (fun _ _ _ h => h) (by rfl) ?_ hA0 ?_
  rotate_left
  · intro V9 hA
    obtain ⟨f1, f2, f3⟩ := HF.out _ hA
    clear hA
    go_simp
    try with_reducible rfl
  try simp only [Act.put, List.setIfInBounds_toArray, List.set_cons_zero, List.set_cons_succ]
  refine take1 2 (v := ?_) rfl (by kernel_rfl) (by kernel_rfl) (by kernel_rfl) (fun _ _ _ h => h) (by rfl) ?_ hA0 ?_
  rotate_left
  · intro V9 hA
    obtain ⟨f1, f2, f3⟩ := HF.out _ hA
    clear hA
    go_simp
    try with_reducible rfl
  try simp only [Act.put, List.setIfInBounds_toArray, List.set_cons_zero, List.set_cons_succ]
  refine take1 3 (v := ?_) rfl (by kernel_rfl) (by kernel_rfl) (by kernel_rfl) (fun _ _ _ h => h) (by rfl) ?_ hA0 ?_
  rotate_left
  · intro V9 hA
    obtain ⟨f1, f2, f3⟩ := HF.out _ hA
    clear hA
    go_simp
    try with_reducible rfl
  try simp only [Act.put, List.setIfInBounds_toArray, List.set_cons_zero, List.set_cons_succ]
  refine step1 4 (by kernel_rfl) rfl (fun K hK => ?_)
  go_simp
  refine (HX.out _).mono ?_
  rintro e V1 ⟨rfl, hb1⟩
  go_wp2_with fail
  have hA1 := hA0.trans (hb1.mono hA0.size)
  refine hK.out _ _ hA1 ?_
  clear hK K
  try simp only [Act.put, List.setIfInBounds_toArray, List.set_cons_zero, List.set_cons_succ]
  refine step1 5 (by kernel_rfl) rfl (fun K hK => ?_)
  go_simp
  refine (HO.out _).mono ?_
  rintro e V2 ⟨rfl, hb2⟩
  go_wp2_with fail
  have hA2 := hA1.trans (hb2.mono hA1.size)
  refine hK.out _ _ hA2 ?_
  clear hK K
  try simp only [Act.put, List.setIfInBounds_toArray, List.set_cons_zero, List.set_cons_succ]
  refine take1 6 (v := ?_) rfl (by kernel_rfl) (by kernel_rfl) (by kernel_rfl) (fun _ _ _ h => h) (by rfl) ?_ hA2 ?_
  rotate_left
  · intro V9 hA
    obtain ⟨f1, f2, f3⟩ := HF.out _ hA
    clear hA
    go_simp
    try with_reducible rfl
  try simp only [Act.put, List.setIfInBounds_toArray, List.set_cons_zero, List.set_cons_succ]
  refine stop1 (by kernel_rfl) ?_
  have hE := (HF.out _ hA2).2.2
  go_wp2
  go_ret
  exact ⟨rfl, hE⟩
set_option maxHeartbeats 2000000 in
theorem tidies_plus (n : Nat) (a d : Tm) (h1 : 1 ≤ n) (h2 : n ≤ 12) (hoa : okT n a = true) (hod : okT n d = true) (hla : (showT a).length ≤ 100) (hld : (showT d).length ≤ 100) (iha : Tidies n a) (ihd : Tidies n d) : Tidies n (.two 43 a d) := by
  have hmx : Tryd.prog.follows .mixedOrders = true := by kernel_rfl
  intro w
  obtain ⟨T, p, k, hT, hp, hm, hcf, hX⟩ := tidy_face n a iha
  obtain ⟨T2, p2, k2, hT2, hp2, hm2, hcf2, hX2⟩ := tidy_face n d ihd
  show Calls Tryd.prog 136 #[.agg #[.int .u8 (((43 : UInt8).toNat : Nat) : Int), .iface (tyT a) (payT a), .iface (tyT d) (payT d)], .agg #[.int .i64 (n : Int)]] w fun e w' => e = .returned (.iface (tyT (midT 43 (tidyT n a) (tidyT n d))) (payT (midT 43 (tidyT n a) (tidyT n d)))) ∧ Below w.heap.size w w'
  have hc' : (((43 : UInt8).toNat : Nat) : Int) = 43 := rfl
  rw [hc', hT, hp, hT2, hp2]
  have HX := Lib.hid hX
  have HX2 := Lib.hid hX2
  have HB := Lib.hid (fun W => rules_plus n h2 (tidyT n a) (tidyT n d) (ok_tidy n a h1 h2 hoa) (ok_tidy n d h1 h2 hod) (by have := len_tidy n a; omega) (by have := len_tidy n d; omega) W)
  clear hT hp hT2 hp2 hX hX2 iha ihd hc' hoa hod hla hld
  generalize tyT (midT 43 (tidyT n a) (tidyT n d)) = T5 at *
  generalize payT (midT 43 (tidyT n a) (tidyT n d)) = p5 at *
  generalize tyT (tidyT n a) = T3 at *
  generalize payT (tidyT n a) = p3 at *
  generalize tyT (tidyT n d) = T4 at *
  generalize payT (tidyT n d) = p4 at *
  go_enter Tryd.func136, Tryd.ntmps136
  go_wp2_with fail
  obtain ⟨W0, hW0⟩ : ∃ W0, (w.alloc (.cells #[.int .u8 43, .iface T p, .iface T2 p2] 111)).alloc (.cells #[.int .i64 (n : Int)] 43) = W0 := ⟨_, rfl⟩
  have HF := Lib.hid (fun V hb => pair_boxes w W0 _ _ _ _ _ _ hW0 V hb)
  rw [hW0]
  clear hW0
  have hA0 : Below W0.heap.size W0 W0.drew := (Below.refl _ _).drew
  refine wp_region_held_drew (S := fun V => Below W0.heap.size W0 V) hmx hA0 (fun _ => ?_)
  generalize W0.drew = V0 at *
  refine take1 0 (v := ?_) rfl (by kernel_rfl) (by kernel_rfl) (by kernel_rfl) (fun _ _ _ h => h) (by rfl) ?_ hA0 ?_
  rotate_left
  · intro V9 hA
    obtain ⟨f0, f1, f2, f3, f4⟩ := HF.out _ hA
    clear hA
    go_simp
    try with_reducible rfl
  try simp only [Act.put, List.setIfInBounds_toArray, List.set_cons_zero, List.set_cons_succ]
  refine take1 1 (v := ?_) rfl (by kernel_rfl) (by kernel_rfl) (by kernel_rfl) (fun _ _ _ h => h) (by rfl) ?_ hA0 ?_
  rotate_left
  · intro V9 hA
    obtain ⟨f0, f1, f2, f3, f4⟩ := HF.out _ hA
    clear hA
    go_simp
    try with_reducible rfl
  try simp only [Act.put, List.setIfInBounds_toArray, List.set_cons_zero, List.set_cons_succ]
  refine take1 2 (v := ?_) rfl (by kernel_rfl) (by kernel_rfl) (by kernel_rfl) (fun _ _ _ h => h) (by rfl) ?_ hA0 ?_
  rotate_left
  · intro V9 hA
    obtain ⟨f0, f1, f2, f3, f4⟩ := HF.out _ hA
    clear hA
    go_simp
    try with_reducible rfl
  try simp only [Act.put, List.setIfInBounds_toArray, List.set_cons_zero, List.set_cons_succ]
  refine take1 3 (v := ?_) rfl (by kernel_rfl) (by kernel_rfl) (by kernel_rfl) (fun _ _ _ h => h) (by rfl) ?_ hA0 ?_
  rotate_left
  · intro V9 hA
    obtain ⟨f0, f1, f2, f3, f4⟩ := HF.out _ hA
    clear hA
    go_simp
    try with_reducible rfl
  try simp only [Act.put, List.setIfInBounds_toArray, List.set_cons_zero, List.set_cons_succ]
  refine take1 4 (v := ?_) rfl (by kernel_rfl) (by kernel_rfl) (by kernel_rfl) (fun _ _ _ h => h) (by rfl) ?_ hA0 ?_
  rotate_left
  · intro V9 hA
    obtain ⟨f0, f1, f2, f3, f4⟩ := HF.out _ hA
    clear hA
    go_simp
    try with_reducible rfl
  try simp only [Act.put, List.setIfInBounds_toArray, List.set_cons_zero, List.set_cons_succ]
  refine take1 6 (v := ?_) rfl (by kernel_rfl) (by kernel_rfl) (by kernel_rfl) (fun _ _ _ h => h) (by rfl) ?_ hA0 ?_
  rotate_left
  · intro V9 hA
    obtain ⟨f0, f1, f2, f3, f4⟩ := HF.out _ hA
    clear hA
    go_simp
    try with_reducible rfl
  try simp only [Act.put, List.setIfInBounds_toArray, List.set_cons_zero, List.set_cons_succ]
  refine take1 7 (v := ?_) rfl (by kernel_rfl) (by kernel_rfl) (by kernel_rfl) (fun _ _ _ h => h) (by rfl) ?_ hA0 ?_
  rotate_left
  · intro V9 hA
    obtain ⟨f0, f1, f2, f3, f4⟩ := HF.out _ hA
    clear hA
    go_simp
    try with_reducible rfl
  try simp only [Act.put, List.setIfInBounds_toArray, List.set_cons_zero, List.set_cons_succ]
  refine take1 8 (v := ?_) rfl (by kernel_rfl) (by kernel_rfl) (by kernel_rfl) (fun _ _ _ h => h) (by rfl) ?_ hA0 ?_
  rotate_left
  · intro V9 hA
    obtain ⟨f0, f1, f2, f3, f4⟩ := HF.out _ hA
    clear hA
    go_simp
    try with_reducible rfl
  try simp only [Act.put, List.setIfInBounds_toArray, List.set_cons_zero, List.set_cons_succ]
  refine step1 5 (by kernel_rfl) rfl (fun K hK => ?_)
  go_simp
  refine (HX.out _).mono ?_
  rintro e V1 ⟨rfl, hb1⟩
  go_wp2_with fail
  have hA1 := hA0.trans (hb1.mono hA0.size)
  refine hK.out _ _ hA1 ?_
  clear hK K
  try simp only [Act.put, List.setIfInBounds_toArray, List.set_cons_zero, List.set_cons_succ]
  refine step1 9 (by kernel_rfl) rfl (fun K hK => ?_)
  go_simp
  refine (HX2.out _).mono ?_
  rintro e V2 ⟨rfl, hb2⟩
  go_wp2_with fail
  have hA2 := hA1.trans (hb2.mono hA1.size)
  refine hK.out _ _ hA2 ?_
  clear hK K
  try simp only [Act.put, List.setIfInBounds_toArray, List.set_cons_zero, List.set_cons_succ]
  refine take1 10 (v := ?_) rfl (by kernel_rfl) (by kernel_rfl) (by kernel_rfl) (fun _ _ _ h => h) (by rfl) ?_ hA2 ?_
  rotate_left
  · intro V9 hA
    obtain ⟨f0, f1, f2, f3, f4⟩ := HF.out _ hA
    clear hA
    go_simp
    try with_reducible rfl
  try simp only [Act.put, List.setIfInBounds_toArray, List.set_cons_zero, List.set_cons_succ]
  refine step1 11 (by kernel_rfl) rfl (fun K hK => ?_)
  go_simp
  refine (HB.out _).mono ?_
  rintro e V3 ⟨rfl, hb3⟩
  go_wp2_with fail
  have hA3 := hA2.trans (hb3.mono hA2.size)
  refine hK.out _ _ hA3 ?_
  clear hK K
  try simp only [Act.put, List.setIfInBounds_toArray, List.set_cons_zero, List.set_cons_succ]
  refine take1 12 (v := ?_) rfl (by kernel_rfl) (by kernel_rfl) (by kernel_rfl) (fun _ _ _ h => h) (by rfl) ?_ hA3 ?_
  rotate_left
  · intro V9 hA
    obtain ⟨f0, f1, f2, f3, f4⟩ := HF.out _ hA
    clear hA
    go_simp
    try with_reducible rfl
  try simp only [Act.put, List.setIfInBounds_toArray, List.set_cons_zero, List.set_cons_succ]
  refine stop1 (by kernel_rfl) ?_
  have hE := (HF.out _ hA3).2.2.2.2
  go_wp2
  go_ret
  exact ⟨rfl, hE⟩
set_option maxHeartbeats 2000000 in
theorem tidies_and (n : Nat) (a d : Tm) (h1 : 1 ≤ n) (h2 : n ≤ 12) (hoa : okT n a = true) (hod : okT n d = true) (hla : (showT a).length ≤ 100) (hld : (showT d).length ≤ 100) (iha : Tidies n a) (ihd : Tidies n d) : Tidies n (.two 38 a d) := by
  have hmx : Tryd.prog.follows .mixedOrders = true := by kernel_rfl
  intro w
  obtain ⟨T, p, k, hT, hp, hm, hcf, hX⟩ := tidy_face n a iha
  obtain ⟨T2, p2, k2, hT2, hp2, hm2, hcf2, hX2⟩ := tidy_face n d ihd
  show Calls Tryd.prog 136 #[.agg #[.int .u8 (((38 : UInt8).toNat : Nat) : Int), .iface (tyT a) (payT a), .iface (tyT d) (payT d)], .agg #[.int .i64 (n : Int)]] w fun e w' => e = .returned (.iface (tyT (midT 38 (tidyT n a) (tidyT n d))) (payT (midT 38 (tidyT n a) (tidyT n d)))) ∧ Below w.heap.size w w'
  have hc' : (((38 : UInt8).toNat : Nat) : Int) = 38 := rfl
  rw [hc', hT, hp, hT2, hp2]
  have HX := Lib.hid hX
  have HX2 := Lib.hid hX2
  have HB := Lib.hid (fun W => rules_and n h2 (tidyT n a) (tidyT n d) (ok_tidy n a h1 h2 hoa) (ok_tidy n d h1 h2 hod) (by have := len_tidy n a; omega) (by have := len_tidy n d; omega) W)
  clear hT hp hT2 hp2 hX hX2 iha ihd hc' hoa hod hla hld
  generalize tyT (midT 38 (tidyT n a) (tidyT n d)) = T5 at *
  generalize payT (midT 38 (tidyT n a) (tidyT n d)) = p5 at *
  generalize tyT (tidyT n a) = T3 at *
  generalize payT (tidyT n a) = p3 at *
  generalize tyT (tidyT n d) = T4 at *
  generalize payT (tidyT n d) = p4 at *
  go_enter Tryd.func136, Tryd.ntmps136
  go_wp2_with fail
  obtain ⟨W0, hW0⟩ : ∃ W0, (w.alloc (.cells #[.int .u8 38, .iface T p, .iface T2 p2] 111)).alloc (.cells #[.int .i64 (n : Int)] 43) = W0 := ⟨_, rfl⟩
  have HF := Lib.hid (fun V hb => pair_boxes w W0 _ _ _ _ _ _ hW0 V hb)
  rw [hW0]
  clear hW0
  have hA0 : Below W0.heap.size W0 W0.drew := (Below.refl _ _).drew
  refine wp_region_held_drew (S := fun V => Below W0.heap.size W0 V) hmx hA0 (fun _ => ?_)
  generalize W0.drew = V0 at *
  refine take1 0 (v := ?_) rfl (by kernel_rfl) (by kernel_rfl) (by kernel_rfl) (fun _ _ _ h => h) (by rfl) ?_ hA0 ?_
  rotate_left
  · intro V9 hA
    obtain ⟨f0, f1, f2, f3, f4⟩ := HF.out _ hA
    clear hA
    go_simp
    try with_reducible rfl
  try simp only [Act.put, List.setIfInBounds_toArray, List.set_cons_zero, List.set_cons_succ]
  refine take1 1 (v := ?_) rfl (by kernel_rfl) (by kernel_rfl) (by kernel_rfl) (fun _ _ _ h => h) (by rfl) ?_ hA0 ?_
  rotate_left
  · intro V9 hA
    obtain ⟨f0, f1, f2, f3, f4⟩ := HF.out _ hA
    clear hA
    go_simp
    try with_reducible rfl
  try simp only [Act.put, List.setIfInBounds_toArray, List.set_cons_zero, List.set_cons_succ]
  refine take1 2 (v := ?_) rfl (by kernel_rfl) (by kernel_rfl) (by kernel_rfl) (fun _ _ _ h => h) (by rfl) ?_ hA0 ?_
  rotate_left
  · intro V9 hA
    obtain ⟨f0, f1, f2, f3, f4⟩ := HF.out _ hA
    clear hA
    go_simp
    try with_reducible rfl
  try simp only [Act.put, List.setIfInBounds_toArray, List.set_cons_zero, List.set_cons_succ]
  refine take1 3 (v := ?_) rfl (by kernel_rfl) (by kernel_rfl) (by kernel_rfl) (fun _ _ _ h => h) (by rfl) ?_ hA0 ?_
  rotate_left
  · intro V9 hA
    obtain ⟨f0, f1, f2, f3, f4⟩ := HF.out _ hA
    clear hA
    go_simp
    try with_reducible rfl
  try simp only [Act.put, List.setIfInBounds_toArray, List.set_cons_zero, List.set_cons_succ]
  refine take1 4 (v := ?_) rfl (by kernel_rfl) (by kernel_rfl) (by kernel_rfl) (fun _ _ _ h => h) (by rfl) ?_ hA0 ?_
  rotate_left
  · intro V9 hA
    obtain ⟨f0, f1, f2, f3, f4⟩ := HF.out _ hA
    clear hA
    go_simp
    try with_reducible rfl
  try simp only [Act.put, List.setIfInBounds_toArray, List.set_cons_zero, List.set_cons_succ]
  refine take1 6 (v := ?_) rfl (by kernel_rfl) (by kernel_rfl) (by kernel_rfl) (fun _ _ _ h => h) (by rfl) ?_ hA0 ?_
  rotate_left
  · intro V9 hA
    obtain ⟨f0, f1, f2, f3, f4⟩ := HF.out _ hA
    clear hA
    go_simp
    try with_reducible rfl
  try simp only [Act.put, List.setIfInBounds_toArray, List.set_cons_zero, List.set_cons_succ]
  refine take1 7 (v := ?_) rfl (by kernel_rfl) (by kernel_rfl) (by kernel_rfl) (fun _ _ _ h => h) (by rfl) ?_ hA0 ?_
  rotate_left
  · intro V9 hA
    obtain ⟨f0, f1, f2, f3, f4⟩ := HF.out _ hA
    clear hA
    go_simp
    try with_reducible rfl
  try simp only [Act.put, List.setIfInBounds_toArray, List.set_cons_zero, List.set_cons_succ]
  refine take1 8 (v := ?_) rfl (by kernel_rfl) (by kernel_rfl) (by kernel_rfl) (fun _ _ _ h => h) (by rfl) ?_ hA0 ?_
  rotate_left
  · intro V9 hA
    obtain ⟨f0, f1, f2, f3, f4⟩ := HF.out _ hA
    clear hA
    go_simp
    try with_reducible rfl
  try simp only [Act.put, List.setIfInBounds_toArray, List.set_cons_zero, List.set_cons_succ]
  refine step1 5 (by kernel_rfl) rfl (fun K hK => ?_)
  go_simp
  refine (HX.out _).mono ?_
  rintro e V1 ⟨rfl, hb1⟩
  go_wp2_with fail
  have hA1 := hA0.trans (hb1.mono hA0.size)
  refine hK.out _ _ hA1 ?_
  clear hK K
  try simp only [Act.put, List.setIfInBounds_toArray, List.set_cons_zero, List.set_cons_succ]
  refine step1 9 (by kernel_rfl) rfl (fun K hK => ?_)
  go_simp
  refine (HX2.out _).mono ?_
  rintro e V2 ⟨rfl, hb2⟩
  go_wp2_with fail
  have hA2 := hA1.trans (hb2.mono hA1.size)
  refine hK.out _ _ hA2 ?_
  clear hK K
  try simp only [Act.put, List.setIfInBounds_toArray, List.set_cons_zero, List.set_cons_succ]
  refine take1 10 (v := ?_) rfl (by kernel_rfl) (by kernel_rfl) (by kernel_rfl) (fun _ _ _ h => h) (by rfl) ?_ hA2 ?_
  rotate_left
  · intro V9 hA
    obtain ⟨f0, f1, f2, f3, f4⟩ := HF.out _ hA
    clear hA
    go_simp
    try with_reducible rfl
  try simp only [Act.put, List.setIfInBounds_toArray, List.set_cons_zero, List.set_cons_succ]
  refine step1 11 (by kernel_rfl) rfl (fun K hK => ?_)
  go_simp
  refine (HB.out _).mono ?_
  rintro e V3 ⟨rfl, hb3⟩
  go_wp2_with fail
  have hA3 := hA2.trans (hb3.mono hA2.size)
  refine hK.out _ _ hA3 ?_
  clear hK K
  try simp only [Act.put, List.setIfInBounds_toArray, List.set_cons_zero, List.set_cons_succ]
  refine take1 12 (v := ?_) rfl (by kernel_rfl) (by kernel_rfl) (by kernel_rfl) (fun _ _ _ h => h) (by rfl) ?_ hA3 ?_
  rotate_left
  · intro V9 hA
    obtain ⟨f0, f1, f2, f3, f4⟩ := HF.out _ hA
    clear hA
    go_simp
    try with_reducible rfl
  try simp only [Act.put, List.setIfInBounds_toArray, List.set_cons_zero, List.set_cons_succ]
  refine stop1 (by kernel_rfl) ?_
  have hE := (HF.out _ hA3).2.2.2.2
  go_wp2
  go_ret
  exact ⟨rfl, hE⟩
set_option maxHeartbeats 2000000 in
theorem tidies_point (n : Nat) (a d : Tm) (h1 : 1 ≤ n) (h2 : n ≤ 12) (hoa : okT n a = true) (hod : okT n d = true) (hla : (showT a).length ≤ 100) (hld : (showT d).length ≤ 100) (iha : Tidies n a) (ihd : Tidies n d) : Tidies n (.two 46 a d) := by
  have hmx : Tryd.prog.follows .mixedOrders = true := by kernel_rfl
  intro w
  obtain ⟨T, p, k, hT, hp, hm, hcf, hX⟩ := tidy_face n a iha
  obtain ⟨T2, p2, k2, hT2, hp2, hm2, hcf2, hX2⟩ := tidy_face n d ihd
  show Calls Tryd.prog 136 #[.agg #[.int .u8 (((46 : UInt8).toNat : Nat) : Int), .iface (tyT a) (payT a), .iface (tyT d) (payT d)], .agg #[.int .i64 (n : Int)]] w fun e w' => e = .returned (.iface (tyT (midT 46 (tidyT n a) (tidyT n d))) (payT (midT 46 (tidyT n a) (tidyT n d)))) ∧ Below w.heap.size w w'
  have hc' : (((46 : UInt8).toNat : Nat) : Int) = 46 := rfl
  rw [hc', hT, hp, hT2, hp2]
  have HX := Lib.hid hX
  have HX2 := Lib.hid hX2
  have HB := Lib.hid (fun W => rules_point n h2 (tidyT n a) (tidyT n d) (ok_tidy n a h1 h2 hoa) (ok_tidy n d h1 h2 hod) (by have := len_tidy n a; omega) (by have := len_tidy n d; omega) W)
  clear hT hp hT2 hp2 hX hX2 iha ihd hc' hoa hod hla hld
  generalize tyT (midT 46 (tidyT n a) (tidyT n d)) = T5 at *
  generalize payT (midT 46 (tidyT n a) (tidyT n d)) = p5 at *
  generalize tyT (tidyT n a) = T3 at *
  generalize payT (tidyT n a) = p3 at *
  generalize tyT (tidyT n d) = T4 at *
  generalize payT (tidyT n d) = p4 at *
  go_enter Tryd.func136, Tryd.ntmps136
  go_wp2_with fail
  obtain ⟨W0, hW0⟩ : ∃ W0, (w.alloc (.cells #[.int .u8 46, .iface T p, .iface T2 p2] 111)).alloc (.cells #[.int .i64 (n : Int)] 43) = W0 := ⟨_, rfl⟩
  have HF := Lib.hid (fun V hb => pair_boxes w W0 _ _ _ _ _ _ hW0 V hb)
  rw [hW0]
  clear hW0
  have hA0 : Below W0.heap.size W0 W0.drew := (Below.refl _ _).drew
  refine wp_region_held_drew (S := fun V => Below W0.heap.size W0 V) hmx hA0 (fun _ => ?_)
  generalize W0.drew = V0 at *
  refine take1 0 (v := ?_) rfl (by kernel_rfl) (by kernel_rfl) (by kernel_rfl) (fun _ _ _ h => h) (by rfl) ?_ hA0 ?_
  rotate_left
  · intro V9 hA
    obtain ⟨f0, f1, f2, f3, f4⟩ := HF.out _ hA
    clear hA
    go_simp
    try with_reducible rfl
  try simp only [Act.put, List.setIfInBounds_toArray, List.set_cons_zero, List.set_cons_succ]
  refine take1 1 (v := ?_) rfl (by kernel_rfl) (by kernel_rfl) (by kernel_rfl) (fun _ _ _ h => h) (by rfl) ?_ hA0 ?_
  rotate_left
  · intro V9 hA
    obtain ⟨f0, f1, f2, f3, f4⟩ := HF.out _ hA
    clear hA
    go_simp
    try with_reducible rfl
  try simp only [Act.put, List.setIfInBounds_toArray, List.set_cons_zero, List.set_cons_succ]
  refine take1 2 (v := ?_) rfl (by kernel_rfl) (by kernel_rfl) (by kernel_rfl) (fun _ _ _ h => h) (by rfl) ?_ hA0 ?_
  rotate_left
  · intro V9 hA
    obtain ⟨f0, f1, f2, f3, f4⟩ := HF.out _ hA
    clear hA
    go_simp
    try with_reducible rfl
  try simp only [Act.put, List.setIfInBounds_toArray, List.set_cons_zero, List.set_cons_succ]
  refine take1 3 (v := ?_) rfl (by kernel_rfl) (by kernel_rfl) (by kernel_rfl) (fun _ _ _ h => h) (by rfl) ?_ hA0 ?_
  rotate_left
  · intro V9 hA
    obtain ⟨f0, f1, f2, f3, f4⟩ := HF.out _ hA
    clear hA
    go_simp
    try with_reducible rfl
  try simp only [Act.put, List.setIfInBounds_toArray, List.set_cons_zero, List.set_cons_succ]
  refine take1 4 (v := ?_) rfl (by kernel_rfl) (by kernel_rfl) (by kernel_rfl) (fun _ _ _ h => h) (by rfl) ?_ hA0 ?_
  rotate_left
  · intro V9 hA
    obtain ⟨f0, f1, f2, f3, f4⟩ := HF.out _ hA
    clear hA
    go_simp
    try with_reducible rfl
  try simp only [Act.put, List.setIfInBounds_toArray, List.set_cons_zero, List.set_cons_succ]
  refine take1 6 (v := ?_) rfl (by kernel_rfl) (by kernel_rfl) (by kernel_rfl) (fun _ _ _ h => h) (by rfl) ?_ hA0 ?_
  rotate_left
  · intro V9 hA
    obtain ⟨f0, f1, f2, f3, f4⟩ := HF.out _ hA
    clear hA
    go_simp
    try with_reducible rfl
  try simp only [Act.put, List.setIfInBounds_toArray, List.set_cons_zero, List.set_cons_succ]
  refine take1 7 (v := ?_) rfl (by kernel_rfl) (by kernel_rfl) (by kernel_rfl) (fun _ _ _ h => h) (by rfl) ?_ hA0 ?_
  rotate_left
  · intro V9 hA
    obtain ⟨f0, f1, f2, f3, f4⟩ := HF.out _ hA
    clear hA
    go_simp
    try with_reducible rfl
  try simp only [Act.put, List.setIfInBounds_toArray, List.set_cons_zero, List.set_cons_succ]
  refine take1 8 (v := ?_) rfl (by kernel_rfl) (by kernel_rfl) (by kernel_rfl) (fun _ _ _ h => h) (by rfl) ?_ hA0 ?_
  rotate_left
  · intro V9 hA
    obtain ⟨f0, f1, f2, f3, f4⟩ := HF.out _ hA
    clear hA
    go_simp
    try with_reducible rfl
  try simp only [Act.put, List.setIfInBounds_toArray, List.set_cons_zero, List.set_cons_succ]
  refine step1 5 (by kernel_rfl) rfl (fun K hK => ?_)
  go_simp
  refine (HX.out _).mono ?_
  rintro e V1 ⟨rfl, hb1⟩
  go_wp2_with fail
  have hA1 := hA0.trans (hb1.mono hA0.size)
  refine hK.out _ _ hA1 ?_
  clear hK K
  try simp only [Act.put, List.setIfInBounds_toArray, List.set_cons_zero, List.set_cons_succ]
  refine step1 9 (by kernel_rfl) rfl (fun K hK => ?_)
  go_simp
  refine (HX2.out _).mono ?_
  rintro e V2 ⟨rfl, hb2⟩
  go_wp2_with fail
  have hA2 := hA1.trans (hb2.mono hA1.size)
  refine hK.out _ _ hA2 ?_
  clear hK K
  try simp only [Act.put, List.setIfInBounds_toArray, List.set_cons_zero, List.set_cons_succ]
  refine take1 10 (v := ?_) rfl (by kernel_rfl) (by kernel_rfl) (by kernel_rfl) (fun _ _ _ h => h) (by rfl) ?_ hA2 ?_
  rotate_left
  · intro V9 hA
    obtain ⟨f0, f1, f2, f3, f4⟩ := HF.out _ hA
    clear hA
    go_simp
    try with_reducible rfl
  try simp only [Act.put, List.setIfInBounds_toArray, List.set_cons_zero, List.set_cons_succ]
  refine step1 11 (by kernel_rfl) rfl (fun K hK => ?_)
  go_simp
  refine (HB.out _).mono ?_
  rintro e V3 ⟨rfl, hb3⟩
  go_wp2_with fail
  have hA3 := hA2.trans (hb3.mono hA2.size)
  refine hK.out _ _ hA3 ?_
  clear hK K
  try simp only [Act.put, List.setIfInBounds_toArray, List.set_cons_zero, List.set_cons_succ]
  refine take1 12 (v := ?_) rfl (by kernel_rfl) (by kernel_rfl) (by kernel_rfl) (fun _ _ _ h => h) (by rfl) ?_ hA3 ?_
  rotate_left
  · intro V9 hA
    obtain ⟨f0, f1, f2, f3, f4⟩ := HF.out _ hA
    clear hA
    go_simp
    try with_reducible rfl
  try simp only [Act.put, List.setIfInBounds_toArray, List.set_cons_zero, List.set_cons_succ]
  refine stop1 (by kernel_rfl) ?_
  have hE := (HF.out _ hA3).2.2.2.2
  go_wp2
  go_ret
  exact ⟨rfl, hE⟩
/-- The program makes any term tidy. -/
theorem tidies_any (n : Nat) (h1 : 1 ≤ n) (h2 : n ≤ 12) (t : Tm) (ho : okT n t = true) (hl : (showT t).length ≤ 100) : Tidies n t := by
  induction t with
  | leaf c => exact tidies_leaf n c
  | one c a ih =>
    have h' : (isFront c && okT n a) = true := ho
    rw [Bool.and_eq_true] at h'
    have hc := h'.1
    have hl' : (showT a).length + 1 ≤ 100 := hl
    unfold isFront at hc
    rw [Bool.or_eq_true, beq_iff_eq, beq_iff_eq] at hc
    rcases hc with rfl | rfl
    · exact tidies_not n a (ih h'.2 (by omega))
    · exact tidies_minus n a h1 h2 h'.2 (ih h'.2 (by omega))
  | two c a d iha ihd =>
    have h' : (isMid c && okT n a && okT n d) = true := ho
    rw [Bool.and_eq_true, Bool.and_eq_true] at h'
    have hc := h'.1.1
    rw [len_two] at hl
    unfold isMid at hc
    rw [Bool.or_eq_true, Bool.or_eq_true, beq_iff_eq, beq_iff_eq, beq_iff_eq] at hc
    rcases hc with (rfl | rfl) | rfl
    · exact tidies_plus n a d h1 h2 h'.1.2 h'.2 (by omega) (by omega) (iha h'.1.2 (by omega)) (ihd h'.2 (by omega))
    · exact tidies_and n a d h1 h2 h'.1.2 h'.2 (by omega) (by omega) (iha h'.1.2 (by omega)) (ihd h'.2 (by omega))
    · exact tidies_point n a d h1 h2 h'.1.2 h'.2 (by omega) (by omega) (iha h'.1.2 (by omega)) (ihd h'.2 (by omega))
/-- A tidy text. -/
def tidyX (n : Int) (s : ByteArray) : Option ByteArray := (termO n s.toList).map fun t => toB (showT (tidyT n.toNat t))
theorem tidyX_no {n : Int} {s : ByteArray} (h : termO n s.toList = none) : tidyX n s = none := by unfold tidyX; rw [h]; rfl
theorem tidyX_yes {n : Int} {s : ByteArray} {t : Tm} (h : termO n s.toList = some t) : tidyX n s = some (toB (showT (tidyT n.toNat t))) := by unfold tidyX; rw [h]; rfl
set_option maxHeartbeats 1000000 in
theorem specTermTidy_any (n : Int) (s : ByteArray) (w : World) (hsz : s.size ≤ 1048576) : Calls Tryd.prog 29 #[.int .i64 n, .string s] w fun e w' => e = .returned (.tuple #[.string ((tidyX n s).getD ⟨#[]⟩), .bool (tidyX n s).isSome]) ∧ Below w.heap.size w w' := by
  have HO := Lib.hid (l11Of_any n s w hsz)
  go_enter Tryd.func29, Tryd.ntmps29
  go_wp2_with fail
  refine HO.out.mono ?_
  rintro e w1 ⟨hb, ⟨hno, z, A, l, c, rfl⟩ | ⟨t, v, hyes, rfl, hI⟩⟩
  · have HV := Lib.hid (tidyX_no hno)
    clear hno
    go_wp2
    go_ret2
    exact ⟨by rw [HV.out]; rfl, hb.alloc hb.size _⟩
  · have HV := Lib.hid (tidyX_yes hyes)
    obtain ⟨A, l, c, rfl⟩ := hI.agg
    obtain ⟨m, rfl, h1, h2, ho, hl, _⟩ := termO_ok hyes
    have hB1 := hb.alloc hb.size (.cells #[.int .u8 ((signT t).toNat : Int), .slice A l c] 50)
    have HS := Lib.hid (l11Tidy_any m h1 h2 t ho (by omega) _ _ (hI.below ((Below.refl _ w1).alloc (Nat.le_refl _) (.cells #[.int .u8 ((signT t).toNat : Int), .slice A l c] 50))))
    rw [Int.toNat_natCast] at HV
    clear hyes hI ho hl
    generalize (signT t).toNat = z at *
    generalize toB (showT (tidyT m t)) = S at *
    go_wp2_with fail
    refine HS.out.mono ?_
    rintro e w2 ⟨rfl, hb2⟩
    go_wp2
    go_ret2
    exact ⟨by rw [HV.out]; rfl, hB1.trans (hb2.mono hB1.size)⟩
set_option maxHeartbeats 1000000 in
theorem implTermTidy_any (n : Int) (s : ByteArray) (w : World) (hE : ErrVar w) (hsz : s.size ≤ 1048576) : Calls Tryd.prog 28 #[.int .i64 n, .string s] w fun e w' => e = .returned (.tuple #[.string ((tidyX n s).getD ⟨#[]⟩), .bool (tidyX n s).isSome]) ∧ Below w.heap.size w w' := by
  have HO := Lib.hid (termOf_any n s w hE hsz)
  clear hE
  go_enter Tryd.func28, Tryd.ntmps28
  go_wp2_with fail
  refine HO.out.mono ?_
  rintro e w1 ⟨hb, ⟨hno, r, rfl⟩ | ⟨t, hyes, rfl⟩⟩
  · have HV := Lib.hid (tidyX_no hno)
    clear hno
    go_wp2
    go_ret2
    exact ⟨by rw [HV.out]; rfl, hb.alloc hb.size _⟩
  · have HV := Lib.hid (tidyX_yes hyes)
    obtain ⟨m, rfl, h1, h2, ho, hl, _⟩ := termO_ok hyes
    obtain ⟨T, p, k, hT, hp, hm, hcf, hX⟩ := tidy_face m t (tidies_any m h1 h2 t ho (by omega))
    have ho2 := ok_tidy m t h1 h2 ho
    obtain ⟨T2, p2, k2, hT2, hp2, hm2, hcf2, hX2⟩ := text_face (tidyT m t) (texts_any m h2 (tidyT m t) ho2 (by have := len_tidy m t; omega))
    rw [hT2, hp2] at hX
    have HX := Lib.hid hX
    have HX2 := Lib.hid hX2
    rw [Int.toNat_natCast] at HV
    rw [hT, hp]
    have hB1 := hb.alloc hb.size (.cells #[.int .i64 (m : Int)] 43)
    clear hyes hT hp hX ho hT2 hp2 hX2 ho2 hl
    generalize toB (showT (tidyT m t)) = S at *
    go_wp2_with fail
    refine (HX.out _).mono ?_
    rintro e w2 ⟨rfl, hb2⟩
    have hB2 := hB1.trans (hb2.mono hB1.size)
    go_wp2_with fail
    refine (HX2.out _).mono ?_
    rintro e w3 ⟨rfl, hb3⟩
    go_wp2
    go_ret2
    exact ⟨by rw [HV.out]; rfl, hB2.trans (hb3.mono hB2.size)⟩
end Go.Proofs.YtecjhkpldcmlaaaDoor
