/- Terms, the program's side: sets of terms. Written by gen138.py. -/
import Derived.Test.YtecjhkpldcmlaaaDoorTrpE
namespace Go.Proofs.YtecjhkpldcmlaaaDoor
open Go.RowKit Go.Shelf
set_option linter.unusedVariables false
attribute [local go_sem] Oper.semAt_some
/-- The program tells the set of a term. -/
def Sets (n : Nat) (t : Tm) : Prop := ∀ w, Calls Tryd.prog (k_set t) #[payT t, .agg #[.int .i64 (n : Int)]] w fun e w' => e = .returned (.int .i64 ((setT n t : Nat) : Int)) ∧ Below w.heap.size w w'
/-- What a call through the interface wants of a term. -/
theorem set_face (n : Nat) (t : Tm) (h : Sets n t) : ∃ T p k, tyT t = T ∧ payT t = p ∧ (∀ W, (Go.method 286 T p "loop.example/ringsofsteps/impl.set").run Tryd.prog W = .ok (k, p) W) ∧ (∀ args W, (callFunc k args).run Tryd.prog W = .ok (.enter k args) W) ∧
    ∀ W, Calls Tryd.prog k #[p, .agg #[.int .i64 (n : Int)]] W fun e w' => e = .returned (.int .i64 ((setT n t : Nat) : Int)) ∧ Below W.heap.size W w' := ⟨_, _, _, rfl, rfl, m_set t, c_set t, h⟩
theorem sets_leaf (n : Nat) (c : UInt8) (h1 : 1 ≤ n) (h2 : n ≤ 12) (ho : okT n (.leaf c) = true) : Sets n (.leaf c) := by
  intro w
  rcases leaf_is n c ho with rfl | ⟨hc, p0, p1⟩
  · show Calls Tryd.prog 125 #[.agg #[], .agg #[.int .i64 (n : Int)]] w _
    go_enter Tryd.func125, Tryd.ntmps125
    go_wp2
    go_ret
    exact ⟨rfl, ((Below.refl _ _).alloc (Nat.le_refl _) _).alloc (by simp) _⟩
  · have HV : Hid (setT n (.leaf c) = 2 ^ (placeB c).toNat) := Lib.hid (by show (if c = 101 then 0 else 2 ^ (placeB c).toNat) = _; rw [if_neg hc])
    rw [show k_set (.leaf c) = 129 from if_neg hc, show payT (.leaf c) = .int .i64 (placeB c) from if_neg hc, HV.out]
    obtain ⟨p, hp⟩ : ∃ p : Nat, placeB c = (p : Int) := ⟨(placeB c).toNat, by omega⟩
    rw [hp, Int.toNat_natCast]
    have HW := Lib.hid (fun W => with_any 0 p W (by omega) (by omega))
    simp only [Nat.zero_or] at HW
    clear hp p0 p1 hc ho HV
    go_enter Tryd.func129, Tryd.ntmps129
    go_wp2_with (go_at_call 71; refine (HW.out _).mono ?_; rintro e w2 ⟨rfl, rfl⟩)
    go_ret
    exact ⟨rfl, (Below.refl _ _).alloc (Nat.le_refl _) _⟩
set_option maxHeartbeats 2000000 in
theorem sets_not (n : Nat) (a : Tm) (h1 : 1 ≤ n) (h2 : n ≤ 12) (ho : okT n a = true) (ih : Sets n a) : Sets n (.one 33 a) := by
  have hmx : Tryd.prog.follows .mixedOrders = true := by kernel_rfl
  intro w
  obtain ⟨T, p, k, hT, hp, hm, hcf, hX⟩ := set_face n a ih
  show Calls Tryd.prog 153 #[.agg #[.iface (tyT a) (payT a)], .agg #[.int .i64 (n : Int)]] w _
  rw [hT, hp]
  have HX := Lib.hid hX
  have HAll := Lib.hid (fun W => all_any n W h2)
  have hs := set_lt n a h1 ho
  have hp2 := pow_le n h2
  have HV : Hid (setT n (.one 33 a) = lessN (2 ^ n - 1) (setT n a)) := Lib.hid rfl
  have HL := Lib.hid (less_nat (2 ^ n - 1) (setT n a) (by omega) (by omega))
  rw [HV.out]
  clear hs hp2 HV hT hp hX ih
  generalize lessN (2 ^ n - 1) (setT n a) = R at *
  generalize setT n a = S at *
  generalize 2 ^ n - 1 = F at *
  go_enter Tryd.func153, Tryd.ntmps153
  go_wp2_with fail
  obtain ⟨W0, hW0⟩ : ∃ W0, (w.alloc (.cells #[.iface T p] 152)).alloc (.cells #[.int .i64 (n : Int)] 43) = W0 := ⟨_, rfl⟩
  have HF := Lib.hid (fun V hb => two_boxes w W0 _ _ _ _ hW0 V hb)
  rw [hW0]
  clear hW0
  have hA0 : Below W0.heap.size W0 W0.drew := (Below.refl _ _).drew
  refine wp_region_held_drew (S := fun V => Below W0.heap.size W0 V) hmx hA0 (fun _ => ?_)
  generalize W0.drew = V0 at *
  refine take1 0 (v := ?_) rfl (by kernel_rfl) (by kernel_rfl) (by kernel_rfl) (fun _ _ _ h => h) (by rfl) ?_ hA0 ?_
  rotate_left
  · intro V9 hA
    obtain ⟨f1, f2, f3⟩ := HF.out _ hA
    clear hA
    go_simp
    try with_reducible rfl
  try simp only [Act.put, List.setIfInBounds_toArray, List.set_cons_zero, List.set_cons_succ]
  refine take1 2 (v := ?_) rfl (by kernel_rfl) (by kernel_rfl) (by kernel_rfl) (fun _ _ _ h => h) (by rfl) ?_ hA0 ?_
  rotate_left
  · intro V9 hA
    obtain ⟨f1, f2, f3⟩ := HF.out _ hA
    clear hA
    go_simp
    try with_reducible rfl
  try simp only [Act.put, List.setIfInBounds_toArray, List.set_cons_zero, List.set_cons_succ]
  refine take1 3 (v := ?_) rfl (by kernel_rfl) (by kernel_rfl) (by kernel_rfl) (fun _ _ _ h => h) (by rfl) ?_ hA0 ?_
  rotate_left
  · intro V9 hA
    obtain ⟨f1, f2, f3⟩ := HF.out _ hA
    clear hA
    go_simp
    try with_reducible rfl
  try simp only [Act.put, List.setIfInBounds_toArray, List.set_cons_zero, List.set_cons_succ]
  refine take1 4 (v := ?_) rfl (by kernel_rfl) (by kernel_rfl) (by kernel_rfl) (fun _ _ _ h => h) (by rfl) ?_ hA0 ?_
  rotate_left
  · intro V9 hA
    obtain ⟨f1, f2, f3⟩ := HF.out _ hA
    clear hA
    go_simp
    try with_reducible rfl
  try simp only [Act.put, List.setIfInBounds_toArray, List.set_cons_zero, List.set_cons_succ]
  refine step1 1 (by kernel_rfl) rfl (fun K hK => ?_)
  go_simp
  refine (HAll.out _).mono ?_
  rintro e V1 ⟨rfl, hb1⟩
  go_wp2_with fail
  have hA1 := hA0.trans (hb1.mono hA0.size)
  refine hK.out _ _ hA1 ?_
  clear hK K
  try simp only [Act.put, List.setIfInBounds_toArray, List.set_cons_zero, List.set_cons_succ]
  refine step1 5 (by kernel_rfl) rfl (fun K hK => ?_)
  go_simp
  refine (HX.out _).mono ?_
  rintro e V2 ⟨rfl, hb2⟩
  go_wp2_with fail
  have hA2 := hA1.trans (hb2.mono hA1.size)
  refine hK.out _ _ hA2 ?_
  clear hK K
  try simp only [Act.put, List.setIfInBounds_toArray, List.set_cons_zero, List.set_cons_succ]
  refine take1 6 (v := ?_) rfl (by kernel_rfl) (by kernel_rfl) (by kernel_rfl) (fun _ _ _ h => h) (by rfl) ?_ hA2 ?_
  rotate_left
  · intro V9 hA
    obtain ⟨f1, f2, f3⟩ := HF.out _ hA
    have u5 := HL.out
    clear hA
    go_simp
    try with_reducible rfl
  try simp only [Act.put, List.setIfInBounds_toArray, List.set_cons_zero, List.set_cons_succ]
  refine take1 7 (v := ?_) rfl (by kernel_rfl) (by kernel_rfl) (by kernel_rfl) (fun _ _ _ h => h) (by rfl) ?_ hA2 ?_
  rotate_left
  · intro V9 hA
    obtain ⟨f1, f2, f3⟩ := HF.out _ hA
    clear hA
    go_simp
    try with_reducible rfl
  try simp only [Act.put, List.setIfInBounds_toArray, List.set_cons_zero, List.set_cons_succ]
  refine stop1 (by kernel_rfl) ?_
  have hE := (HF.out _ hA2).2.2
  go_wp2
  go_ret
  exact ⟨rfl, hE⟩
set_option maxHeartbeats 2000000 in
theorem sets_minus (n : Nat) (a : Tm) (h1 : 1 ≤ n) (h2 : n ≤ 12) (ho : okT n a = true) (ih : Sets n a) : Sets n (.one 45 a) := by
  have hmx : Tryd.prog.follows .mixedOrders = true := by kernel_rfl
  intro w
  obtain ⟨T, p, k, hT, hp, hm, hcf, hX⟩ := set_face n a ih
  show Calls Tryd.prog 158 #[.agg #[.iface (tyT a) (payT a)], .agg #[.int .i64 (n : Int)]] w _
  rw [hT, hp]
  have HX := Lib.hid hX
  have hs := set_lt n a h1 ho
  have HTn := Lib.hid (fun W => turn_any n (setT n a) (-1) W h1 h2 hs (by omega) (by omega))
  have HV : Hid (setT n (.one 45 a) = turnN n (setT n a) (-1)) := Lib.hid rfl
  rw [HV.out]
  clear hs HV hT hp hX ih
  generalize turnN n (setT n a) (-1) = R at *
  generalize setT n a = S at *
  go_enter Tryd.func158, Tryd.ntmps158
  go_wp2_with fail
  obtain ⟨W0, hW0⟩ : ∃ W0, (w.alloc (.cells #[.iface T p] 153)).alloc (.cells #[.int .i64 (n : Int)] 43) = W0 := ⟨_, rfl⟩
  have HF := Lib.hid (fun V hb => two_boxes w W0 _ _ _ _ hW0 V hb)
  rw [hW0]
  clear hW0
  have hA0 : Below W0.heap.size W0 W0.drew := (Below.refl _ _).drew
  refine wp_region_held_drew (S := fun V => Below W0.heap.size W0 V) hmx hA0 (fun _ => ?_)
  generalize W0.drew = V0 at *
  refine take1 0 (v := ?_) rfl (by kernel_rfl) (by kernel_rfl) (by kernel_rfl) (fun _ _ _ h => h) (by rfl) ?_ hA0 ?_
  rotate_left
  · intro V9 hA
    obtain ⟨f1, f2, f3⟩ := HF.out _ hA
    clear hA
    go_simp
    try with_reducible rfl
  try simp only [Act.put, List.setIfInBounds_toArray, List.set_cons_zero, List.set_cons_succ]
  refine take1 1 (v := ?_) rfl (by kernel_rfl) (by kernel_rfl) (by kernel_rfl) (fun _ _ _ h => h) (by rfl) ?_ hA0 ?_
  rotate_left
  · intro V9 hA
    obtain ⟨f1, f2, f3⟩ := HF.out _ hA
    clear hA
    go_simp
    try with_reducible rfl
  try simp only [Act.put, List.setIfInBounds_toArray, List.set_cons_zero, List.set_cons_succ]
  refine take1 2 (v := ?_) rfl (by kernel_rfl) (by kernel_rfl) (by kernel_rfl) (fun _ _ _ h => h) (by rfl) ?_ hA0 ?_
  rotate_left
  · intro V9 hA
    obtain ⟨f1, f2, f3⟩ := HF.out _ hA
    clear hA
    go_simp
    try with_reducible rfl
  try simp only [Act.put, List.setIfInBounds_toArray, List.set_cons_zero, List.set_cons_succ]
  refine take1 3 (v := ?_) rfl (by kernel_rfl) (by kernel_rfl) (by kernel_rfl) (fun _ _ _ h => h) (by rfl) ?_ hA0 ?_
  rotate_left
  · intro V9 hA
    obtain ⟨f1, f2, f3⟩ := HF.out _ hA
    clear hA
    go_simp
    try with_reducible rfl
  try simp only [Act.put, List.setIfInBounds_toArray, List.set_cons_zero, List.set_cons_succ]
  refine step1 4 (by kernel_rfl) rfl (fun K hK => ?_)
  go_simp
  refine (HX.out _).mono ?_
  rintro e V1 ⟨rfl, hb1⟩
  go_wp2_with fail
  have hA1 := hA0.trans (hb1.mono hA0.size)
  refine hK.out _ _ hA1 ?_
  clear hK K
  try simp only [Act.put, List.setIfInBounds_toArray, List.set_cons_zero, List.set_cons_succ]
  refine step1 5 (by kernel_rfl) rfl (fun K hK => ?_)
  go_simp
  refine (HTn.out _).mono ?_
  rintro e V2 ⟨rfl, hb2⟩
  go_wp2_with fail
  have hA2 := hA1.trans (hb2.mono hA1.size)
  refine hK.out _ _ hA2 ?_
  clear hK K
  try simp only [Act.put, List.setIfInBounds_toArray, List.set_cons_zero, List.set_cons_succ]
  refine take1 6 (v := ?_) rfl (by kernel_rfl) (by kernel_rfl) (by kernel_rfl) (fun _ _ _ h => h) (by rfl) ?_ hA2 ?_
  rotate_left
  · intro V9 hA
    obtain ⟨f1, f2, f3⟩ := HF.out _ hA
    clear hA
    go_simp
    try with_reducible rfl
  try simp only [Act.put, List.setIfInBounds_toArray, List.set_cons_zero, List.set_cons_succ]
  refine stop1 (by kernel_rfl) ?_
  have hE := (HF.out _ hA2).2.2
  go_wp2
  go_ret
  exact ⟨rfl, hE⟩
set_option maxHeartbeats 2000000 in
theorem sets_or (n : Nat) (a d : Tm) (h1 : 1 ≤ n) (h2 : n ≤ 12) (hoa : okT n a = true) (hod : okT n d = true) (iha : Sets n a) (ihd : Sets n d) : Sets n (.two 43 a d) := by
  have hmx : Tryd.prog.follows .mixedOrders = true := by kernel_rfl
  intro w
  obtain ⟨T, p, k, hT, hp, hm, hcf, hX⟩ := set_face n a iha
  obtain ⟨T2, p2, k2, hT2, hp2, hm2, hcf2, hX2⟩ := set_face n d ihd
  show Calls Tryd.prog 134 #[.agg #[.int .u8 (((43 : UInt8).toNat : Nat) : Int), .iface (tyT a) (payT a), .iface (tyT d) (payT d)], .agg #[.int .i64 (n : Int)]] w _
  have hc' : (((43 : UInt8).toNat : Nat) : Int) = 43 := rfl
  rw [hc', hT, hp, hT2, hp2]
  have HX := Lib.hid hX
  have HX2 := Lib.hid hX2
  have hs := set_lt n a h1 hoa
  have hs2 := set_lt n d h1 hod
  have hpw := pow_le n h2
  have HV : Hid (setT n (.two 43 a d) = setT n a ||| setT n d) := Lib.hid rfl
  have HL := Lib.hid (or_nat (setT n a) (setT n d) (by omega) (by omega))
  rw [HV.out]
  clear hs hs2 hpw HV hT hp hT2 hp2 hX hX2 iha ihd hc'
  generalize setT n a ||| setT n d = R at *
  generalize setT n a = S at *
  generalize setT n d = S2 at *
  go_enter Tryd.func134, Tryd.ntmps134
  go_wp2_with fail
  obtain ⟨W0, hW0⟩ : ∃ W0, (w.alloc (.cells #[.int .u8 43, .iface T p, .iface T2 p2] 111)).alloc (.cells #[.int .i64 (n : Int)] 43) = W0 := ⟨_, rfl⟩
  have HF := Lib.hid (fun V hb => pair_boxes w W0 _ _ _ _ _ _ hW0 V hb)
  rw [hW0]
  clear hW0
  have hA0 : Below W0.heap.size W0 W0.drew := (Below.refl _ _).drew
  refine wp_region_held_drew (S := fun V => Below W0.heap.size W0 V) hmx hA0 (fun _ => ?_)
  generalize W0.drew = V0 at *
  refine take1 0 (v := ?_) rfl (by kernel_rfl) (by kernel_rfl) (by kernel_rfl) (fun _ _ _ h => h) (by rfl) ?_ hA0 ?_
  rotate_left
  · intro V9 hA
    obtain ⟨f0, f1, f2, f3, f4⟩ := HF.out _ hA
    clear hA
    go_simp
    try with_reducible rfl
  try simp only [Act.put, List.setIfInBounds_toArray, List.set_cons_zero, List.set_cons_succ]
  refine take1 1 (v := ?_) rfl (by kernel_rfl) (by kernel_rfl) (by kernel_rfl) (fun _ _ _ h => h) (by rfl) ?_ hA0 ?_
  rotate_left
  · intro V9 hA
    obtain ⟨f0, f1, f2, f3, f4⟩ := HF.out _ hA
    clear hA
    go_simp
    try with_reducible rfl
  try simp only [Act.put, List.setIfInBounds_toArray, List.set_cons_zero, List.set_cons_succ]
  refine take1 2 (v := ?_) rfl (by kernel_rfl) (by kernel_rfl) (by kernel_rfl) (fun _ _ _ h => h) (by rfl) ?_ hA0 ?_
  rotate_left
  · intro V9 hA
    obtain ⟨f0, f1, f2, f3, f4⟩ := HF.out _ hA
    clear hA
    go_simp
    try with_reducible rfl
  try simp only [Act.put, List.setIfInBounds_toArray, List.set_cons_zero, List.set_cons_succ]
  refine take1 4 (v := ?_) rfl (by kernel_rfl) (by kernel_rfl) (by kernel_rfl) (fun _ _ _ h => h) (by rfl) ?_ hA0 ?_
  rotate_left
  · intro V9 hA
    obtain ⟨f0, f1, f2, f3, f4⟩ := HF.out _ hA
    clear hA
    go_simp
    try with_reducible rfl
  try simp only [Act.put, List.setIfInBounds_toArray, List.set_cons_zero, List.set_cons_succ]
  refine take1 5 (v := ?_) rfl (by kernel_rfl) (by kernel_rfl) (by kernel_rfl) (fun _ _ _ h => h) (by rfl) ?_ hA0 ?_
  rotate_left
  · intro V9 hA
    obtain ⟨f0, f1, f2, f3, f4⟩ := HF.out _ hA
    clear hA
    go_simp
    try with_reducible rfl
  try simp only [Act.put, List.setIfInBounds_toArray, List.set_cons_zero, List.set_cons_succ]
  refine take1 6 (v := ?_) rfl (by kernel_rfl) (by kernel_rfl) (by kernel_rfl) (fun _ _ _ h => h) (by rfl) ?_ hA0 ?_
  rotate_left
  · intro V9 hA
    obtain ⟨f0, f1, f2, f3, f4⟩ := HF.out _ hA
    clear hA
    go_simp
    try with_reducible rfl
  try simp only [Act.put, List.setIfInBounds_toArray, List.set_cons_zero, List.set_cons_succ]
  refine step1 3 (by kernel_rfl) rfl (fun K hK => ?_)
  go_simp
  refine (HX.out _).mono ?_
  rintro e V1 ⟨rfl, hb1⟩
  go_wp2_with fail
  have hA1 := hA0.trans (hb1.mono hA0.size)
  refine hK.out _ _ hA1 ?_
  clear hK K
  try simp only [Act.put, List.setIfInBounds_toArray, List.set_cons_zero, List.set_cons_succ]
  refine step1 7 (by kernel_rfl) rfl (fun K hK => ?_)
  go_simp
  refine (HX2.out _).mono ?_
  rintro e V2 ⟨rfl, hb2⟩
  go_wp2_with fail
  have hA2 := hA1.trans (hb2.mono hA1.size)
  refine hK.out _ _ hA2 ?_
  clear hK K
  try simp only [Act.put, List.setIfInBounds_toArray, List.set_cons_zero, List.set_cons_succ]
  refine take1 8 (v := ?_) rfl (by kernel_rfl) (by kernel_rfl) (by kernel_rfl) (fun _ _ _ h => h) (by rfl) ?_ hA2 ?_
  rotate_left
  · intro V9 hA
    obtain ⟨f0, f1, f2, f3, f4⟩ := HF.out _ hA
    clear hA
    go_simp
    try with_reducible rfl
  try simp only [Act.put, List.setIfInBounds_toArray, List.set_cons_zero, List.set_cons_succ]
  refine take1 9 (v := ?_) rfl (by kernel_rfl) (by kernel_rfl) (by kernel_rfl) (fun _ _ _ h => h) (by rfl) ?_ hA2 ?_
  rotate_left
  · intro V9 hA
    obtain ⟨f0, f1, f2, f3, f4⟩ := HF.out _ hA
    clear hA
    go_simp
    try with_reducible rfl
  try simp only [Act.put, List.setIfInBounds_toArray, List.set_cons_zero, List.set_cons_succ]
  refine stop1 (by kernel_rfl) ?_
  obtain ⟨f0, f1, f2, f3, hE⟩ := HF.out _ hA2
  have u5 := HL.out
  go_wp2
  go_ret
  exact ⟨rfl, hE⟩
set_option maxHeartbeats 2000000 in
theorem sets_and (n : Nat) (a d : Tm) (h1 : 1 ≤ n) (h2 : n ≤ 12) (hoa : okT n a = true) (hod : okT n d = true) (iha : Sets n a) (ihd : Sets n d) : Sets n (.two 38 a d) := by
  have hmx : Tryd.prog.follows .mixedOrders = true := by kernel_rfl
  intro w
  obtain ⟨T, p, k, hT, hp, hm, hcf, hX⟩ := set_face n a iha
  obtain ⟨T2, p2, k2, hT2, hp2, hm2, hcf2, hX2⟩ := set_face n d ihd
  show Calls Tryd.prog 134 #[.agg #[.int .u8 (((38 : UInt8).toNat : Nat) : Int), .iface (tyT a) (payT a), .iface (tyT d) (payT d)], .agg #[.int .i64 (n : Int)]] w _
  have hc' : (((38 : UInt8).toNat : Nat) : Int) = 38 := rfl
  rw [hc', hT, hp, hT2, hp2]
  have HX := Lib.hid hX
  have HX2 := Lib.hid hX2
  have hs := set_lt n a h1 hoa
  have hs2 := set_lt n d h1 hod
  have hpw := pow_le n h2
  have HV : Hid (setT n (.two 38 a d) = setT n a &&& setT n d) := Lib.hid rfl
  have HL := Lib.hid (and_nat (setT n a) (setT n d) (by omega) (by omega))
  rw [HV.out]
  clear hs hs2 hpw HV hT hp hT2 hp2 hX hX2 iha ihd hc'
  generalize setT n a &&& setT n d = R at *
  generalize setT n a = S at *
  generalize setT n d = S2 at *
  go_enter Tryd.func134, Tryd.ntmps134
  go_wp2_with fail
  obtain ⟨W0, hW0⟩ : ∃ W0, (w.alloc (.cells #[.int .u8 38, .iface T p, .iface T2 p2] 111)).alloc (.cells #[.int .i64 (n : Int)] 43) = W0 := ⟨_, rfl⟩
  have HF := Lib.hid (fun V hb => pair_boxes w W0 _ _ _ _ _ _ hW0 V hb)
  rw [hW0]
  clear hW0
  have hA0 : Below W0.heap.size W0 W0.drew := (Below.refl _ _).drew
  refine wp_region_held_drew (S := fun V => Below W0.heap.size W0 V) hmx hA0 (fun _ => ?_)
  generalize W0.drew = V0 at *
  refine take1 0 (v := ?_) rfl (by kernel_rfl) (by kernel_rfl) (by kernel_rfl) (fun _ _ _ h => h) (by rfl) ?_ hA0 ?_
  rotate_left
  · intro V9 hA
    obtain ⟨f0, f1, f2, f3, f4⟩ := HF.out _ hA
    clear hA
    go_simp
    try with_reducible rfl
  try simp only [Act.put, List.setIfInBounds_toArray, List.set_cons_zero, List.set_cons_succ]
  refine take1 1 (v := ?_) rfl (by kernel_rfl) (by kernel_rfl) (by kernel_rfl) (fun _ _ _ h => h) (by rfl) ?_ hA0 ?_
  rotate_left
  · intro V9 hA
    obtain ⟨f0, f1, f2, f3, f4⟩ := HF.out _ hA
    clear hA
    go_simp
    try with_reducible rfl
  try simp only [Act.put, List.setIfInBounds_toArray, List.set_cons_zero, List.set_cons_succ]
  refine take1 2 (v := ?_) rfl (by kernel_rfl) (by kernel_rfl) (by kernel_rfl) (fun _ _ _ h => h) (by rfl) ?_ hA0 ?_
  rotate_left
  · intro V9 hA
    obtain ⟨f0, f1, f2, f3, f4⟩ := HF.out _ hA
    clear hA
    go_simp
    try with_reducible rfl
  try simp only [Act.put, List.setIfInBounds_toArray, List.set_cons_zero, List.set_cons_succ]
  refine take1 4 (v := ?_) rfl (by kernel_rfl) (by kernel_rfl) (by kernel_rfl) (fun _ _ _ h => h) (by rfl) ?_ hA0 ?_
  rotate_left
  · intro V9 hA
    obtain ⟨f0, f1, f2, f3, f4⟩ := HF.out _ hA
    clear hA
    go_simp
    try with_reducible rfl
  try simp only [Act.put, List.setIfInBounds_toArray, List.set_cons_zero, List.set_cons_succ]
  refine take1 5 (v := ?_) rfl (by kernel_rfl) (by kernel_rfl) (by kernel_rfl) (fun _ _ _ h => h) (by rfl) ?_ hA0 ?_
  rotate_left
  · intro V9 hA
    obtain ⟨f0, f1, f2, f3, f4⟩ := HF.out _ hA
    clear hA
    go_simp
    try with_reducible rfl
  try simp only [Act.put, List.setIfInBounds_toArray, List.set_cons_zero, List.set_cons_succ]
  refine take1 6 (v := ?_) rfl (by kernel_rfl) (by kernel_rfl) (by kernel_rfl) (fun _ _ _ h => h) (by rfl) ?_ hA0 ?_
  rotate_left
  · intro V9 hA
    obtain ⟨f0, f1, f2, f3, f4⟩ := HF.out _ hA
    clear hA
    go_simp
    try with_reducible rfl
  try simp only [Act.put, List.setIfInBounds_toArray, List.set_cons_zero, List.set_cons_succ]
  refine step1 3 (by kernel_rfl) rfl (fun K hK => ?_)
  go_simp
  refine (HX.out _).mono ?_
  rintro e V1 ⟨rfl, hb1⟩
  go_wp2_with fail
  have hA1 := hA0.trans (hb1.mono hA0.size)
  refine hK.out _ _ hA1 ?_
  clear hK K
  try simp only [Act.put, List.setIfInBounds_toArray, List.set_cons_zero, List.set_cons_succ]
  refine step1 7 (by kernel_rfl) rfl (fun K hK => ?_)
  go_simp
  refine (HX2.out _).mono ?_
  rintro e V2 ⟨rfl, hb2⟩
  go_wp2_with fail
  have hA2 := hA1.trans (hb2.mono hA1.size)
  refine hK.out _ _ hA2 ?_
  clear hK K
  try simp only [Act.put, List.setIfInBounds_toArray, List.set_cons_zero, List.set_cons_succ]
  refine take1 8 (v := ?_) rfl (by kernel_rfl) (by kernel_rfl) (by kernel_rfl) (fun _ _ _ h => h) (by rfl) ?_ hA2 ?_
  rotate_left
  · intro V9 hA
    obtain ⟨f0, f1, f2, f3, f4⟩ := HF.out _ hA
    clear hA
    go_simp
    try with_reducible rfl
  try simp only [Act.put, List.setIfInBounds_toArray, List.set_cons_zero, List.set_cons_succ]
  refine take1 9 (v := ?_) rfl (by kernel_rfl) (by kernel_rfl) (by kernel_rfl) (fun _ _ _ h => h) (by rfl) ?_ hA2 ?_
  rotate_left
  · intro V9 hA
    obtain ⟨f0, f1, f2, f3, f4⟩ := HF.out _ hA
    clear hA
    go_simp
    try with_reducible rfl
  try simp only [Act.put, List.setIfInBounds_toArray, List.set_cons_zero, List.set_cons_succ]
  refine stop1 (by kernel_rfl) ?_
  obtain ⟨f0, f1, f2, f3, hE⟩ := HF.out _ hA2
  have u5 := HL.out
  go_wp2
  go_ret
  exact ⟨rfl, hE⟩
set_option maxHeartbeats 2000000 in
theorem sets_point (n : Nat) (a d : Tm) (h1 : 1 ≤ n) (h2 : n ≤ 12) (hoa : okT n a = true) (hod : okT n d = true) (iha : Sets n a) (ihd : Sets n d) : Sets n (.two 46 a d) := by
  have hmx : Tryd.prog.follows .mixedOrders = true := by kernel_rfl
  intro w
  obtain ⟨T, p, k, hT, hp, hm, hcf, hX⟩ := set_face n a iha
  obtain ⟨T2, p2, k2, hT2, hp2, hm2, hcf2, hX2⟩ := set_face n d ihd
  show Calls Tryd.prog 134 #[.agg #[.int .u8 (((46 : UInt8).toNat : Nat) : Int), .iface (tyT a) (payT a), .iface (tyT d) (payT d)], .agg #[.int .i64 (n : Int)]] w _
  have hc' : (((46 : UInt8).toNat : Nat) : Int) = 46 := rfl
  rw [hc', hT, hp, hT2, hp2]
  have HX := Lib.hid hX
  have HX2 := Lib.hid hX2
  have hs := set_lt n a h1 hoa
  have hs2 := set_lt n d h1 hod
  have hpw := pow_le n h2
  have HV : Hid (setT n (.two 46 a d) = sumN n (setT n a) (setT n d)) := Lib.hid rfl
  have HSm := Lib.hid (fun W => sum_any n (setT n a) (setT n d) W h1 h2 hs hs2)
  rw [HV.out]
  clear hs hs2 hpw HV hT hp hT2 hp2 hX hX2 iha ihd hc'
  generalize sumN n (setT n a) (setT n d) = R at *
  generalize setT n a = S at *
  generalize setT n d = S2 at *
  go_enter Tryd.func134, Tryd.ntmps134
  go_wp2_with fail
  obtain ⟨W0, hW0⟩ : ∃ W0, (w.alloc (.cells #[.int .u8 46, .iface T p, .iface T2 p2] 111)).alloc (.cells #[.int .i64 (n : Int)] 43) = W0 := ⟨_, rfl⟩
  have HF := Lib.hid (fun V hb => pair_boxes w W0 _ _ _ _ _ _ hW0 V hb)
  rw [hW0]
  clear hW0
  have hA0 : Below W0.heap.size W0 W0.drew := (Below.refl _ _).drew
  refine wp_region_held_drew (S := fun V => Below W0.heap.size W0 V) hmx hA0 (fun _ => ?_)
  generalize W0.drew = V0 at *
  refine take1 0 (v := ?_) rfl (by kernel_rfl) (by kernel_rfl) (by kernel_rfl) (fun _ _ _ h => h) (by rfl) ?_ hA0 ?_
  rotate_left
  · intro V9 hA
    obtain ⟨f0, f1, f2, f3, f4⟩ := HF.out _ hA
    clear hA
    go_simp
    try with_reducible rfl
  try simp only [Act.put, List.setIfInBounds_toArray, List.set_cons_zero, List.set_cons_succ]
  refine take1 1 (v := ?_) rfl (by kernel_rfl) (by kernel_rfl) (by kernel_rfl) (fun _ _ _ h => h) (by rfl) ?_ hA0 ?_
  rotate_left
  · intro V9 hA
    obtain ⟨f0, f1, f2, f3, f4⟩ := HF.out _ hA
    clear hA
    go_simp
    try with_reducible rfl
  try simp only [Act.put, List.setIfInBounds_toArray, List.set_cons_zero, List.set_cons_succ]
  refine take1 2 (v := ?_) rfl (by kernel_rfl) (by kernel_rfl) (by kernel_rfl) (fun _ _ _ h => h) (by rfl) ?_ hA0 ?_
  rotate_left
  · intro V9 hA
    obtain ⟨f0, f1, f2, f3, f4⟩ := HF.out _ hA
    clear hA
    go_simp
    try with_reducible rfl
  try simp only [Act.put, List.setIfInBounds_toArray, List.set_cons_zero, List.set_cons_succ]
  refine take1 4 (v := ?_) rfl (by kernel_rfl) (by kernel_rfl) (by kernel_rfl) (fun _ _ _ h => h) (by rfl) ?_ hA0 ?_
  rotate_left
  · intro V9 hA
    obtain ⟨f0, f1, f2, f3, f4⟩ := HF.out _ hA
    clear hA
    go_simp
    try with_reducible rfl
  try simp only [Act.put, List.setIfInBounds_toArray, List.set_cons_zero, List.set_cons_succ]
  refine take1 5 (v := ?_) rfl (by kernel_rfl) (by kernel_rfl) (by kernel_rfl) (fun _ _ _ h => h) (by rfl) ?_ hA0 ?_
  rotate_left
  · intro V9 hA
    obtain ⟨f0, f1, f2, f3, f4⟩ := HF.out _ hA
    clear hA
    go_simp
    try with_reducible rfl
  try simp only [Act.put, List.setIfInBounds_toArray, List.set_cons_zero, List.set_cons_succ]
  refine take1 6 (v := ?_) rfl (by kernel_rfl) (by kernel_rfl) (by kernel_rfl) (fun _ _ _ h => h) (by rfl) ?_ hA0 ?_
  rotate_left
  · intro V9 hA
    obtain ⟨f0, f1, f2, f3, f4⟩ := HF.out _ hA
    clear hA
    go_simp
    try with_reducible rfl
  try simp only [Act.put, List.setIfInBounds_toArray, List.set_cons_zero, List.set_cons_succ]
  refine step1 3 (by kernel_rfl) rfl (fun K hK => ?_)
  go_simp
  refine (HX.out _).mono ?_
  rintro e V1 ⟨rfl, hb1⟩
  go_wp2_with fail
  have hA1 := hA0.trans (hb1.mono hA0.size)
  refine hK.out _ _ hA1 ?_
  clear hK K
  try simp only [Act.put, List.setIfInBounds_toArray, List.set_cons_zero, List.set_cons_succ]
  refine step1 7 (by kernel_rfl) rfl (fun K hK => ?_)
  go_simp
  refine (HX2.out _).mono ?_
  rintro e V2 ⟨rfl, hb2⟩
  go_wp2_with fail
  have hA2 := hA1.trans (hb2.mono hA1.size)
  refine hK.out _ _ hA2 ?_
  clear hK K
  try simp only [Act.put, List.setIfInBounds_toArray, List.set_cons_zero, List.set_cons_succ]
  refine take1 8 (v := ?_) rfl (by kernel_rfl) (by kernel_rfl) (by kernel_rfl) (fun _ _ _ h => h) (by rfl) ?_ hA2 ?_
  rotate_left
  · intro V9 hA
    obtain ⟨f0, f1, f2, f3, f4⟩ := HF.out _ hA
    clear hA
    go_simp
    try with_reducible rfl
  try simp only [Act.put, List.setIfInBounds_toArray, List.set_cons_zero, List.set_cons_succ]
  refine take1 9 (v := ?_) rfl (by kernel_rfl) (by kernel_rfl) (by kernel_rfl) (fun _ _ _ h => h) (by rfl) ?_ hA2 ?_
  rotate_left
  · intro V9 hA
    obtain ⟨f0, f1, f2, f3, f4⟩ := HF.out _ hA
    clear hA
    go_simp
    try with_reducible rfl
  try simp only [Act.put, List.setIfInBounds_toArray, List.set_cons_zero, List.set_cons_succ]
  refine stop1 (by kernel_rfl) ?_
  obtain ⟨f0, f1, f2, f3, hE⟩ := HF.out _ hA2
  go_wp2_with fail
  refine (HSm.out _).mono ?_
  rintro e w9 ⟨rfl, hb9⟩
  go_wp2
  go_ret
  exact ⟨rfl, hE.trans (hb9.mono hE.size)⟩
/-- The program tells the set of any term. -/
theorem sets_any (n : Nat) (h1 : 1 ≤ n) (h2 : n ≤ 12) (t : Tm) (ho : okT n t = true) : Sets n t := by
  induction t with
  | leaf c => exact sets_leaf n c h1 h2 ho
  | one c a ih =>
    have h' : (isFront c && okT n a) = true := ho
    rw [Bool.and_eq_true] at h'
    have hc := h'.1
    unfold isFront at hc
    rw [Bool.or_eq_true, beq_iff_eq, beq_iff_eq] at hc
    rcases hc with rfl | rfl
    · exact sets_not n a h1 h2 h'.2 (ih h'.2)
    · exact sets_minus n a h1 h2 h'.2 (ih h'.2)
  | two c a d iha ihd =>
    have h' : (isMid c && okT n a && okT n d) = true := ho
    rw [Bool.and_eq_true, Bool.and_eq_true] at h'
    have hc := h'.1.1
    unfold isMid at hc
    rw [Bool.or_eq_true, Bool.or_eq_true, beq_iff_eq, beq_iff_eq, beq_iff_eq] at hc
    rcases hc with (rfl | rfl) | rfl
    · exact sets_or n a d h1 h2 h'.1.2 h'.2 (iha h'.1.2) (ihd h'.2)
    · exact sets_and n a d h1 h2 h'.1.2 h'.2 (iha h'.1.2) (ihd h'.2)
    · exact sets_point n a d h1 h2 h'.1.2 h'.2 (iha h'.1.2) (ihd h'.2)
end Go.Proofs.YtecjhkpldcmlaaaDoor
