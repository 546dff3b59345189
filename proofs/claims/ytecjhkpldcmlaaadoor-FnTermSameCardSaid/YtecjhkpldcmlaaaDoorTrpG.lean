/- Terms, the program's side: terms are asked for places. Written by gen139.py. -/
import Derived.Test.YtecjhkpldcmlaaaDoorTrpE
namespace Go.Proofs.YtecjhkpldcmlaaaDoor
open Go.RowKit Go.Shelf
set_option linter.unusedVariables false
attribute [local go_sem] Oper.semAt_some
/-- The program tells whether a term has a place. -/
def Asks (n : Nat) (t : Tm) : Prop := ∀ x, x < n → ∀ w, Calls Tryd.prog (k_has t) #[payT t, .agg #[.int .i64 (n : Int)], .int .i64 (x : Int)] w fun e w' => e = .returned (.bool (hasT n t x)) ∧ Below w.heap.size w w'
theorem ask_face (n : Nat) (t : Tm) (h : Asks n t) : ∃ T p k, tyT t = T ∧ payT t = p ∧ (∀ W, (Go.method 286 T p "loop.example/ringsofsteps/impl.has").run Tryd.prog W = .ok (k, p) W) ∧ (∀ args W, (callFunc k args).run Tryd.prog W = .ok (.enter k args) W) ∧
    ∀ x, x < n → ∀ W, Calls Tryd.prog k #[p, .agg #[.int .i64 (n : Int)], .int .i64 (x : Int)] W fun e w' => e = .returned (.bool (hasT n t x)) ∧ Below W.heap.size W w' := ⟨_, _, _, rfl, rfl, m_has t, c_has t, h⟩
theorem ask_neg (k : Nat) (h : k < 4096) : IntKind.i64.wrap (-(k : Int)) = -(k : Int) ∧ wrap64 (-(k : Int)) = -(k : Int) := ⟨IntWalk.i64_in _ ⟨by omega, by omega⟩, IntWalk.wrap64_in _ ⟨by omega, by omega⟩⟩
theorem ask_sub (k i : Nat) (h : k < 4096) (hi : i < 4096) : IntKind.i64.wrap ((k : Int) - (i : Int)) = (k : Int) - (i : Int) ∧ wrap64 ((k : Int) - (i : Int)) = (k : Int) - (i : Int) := ⟨IntWalk.i64_in _ ⟨by omega, by omega⟩, IntWalk.wrap64_in _ ⟨by omega, by omega⟩⟩
theorem ask_up (n : Nat) (p : Nat → Bool) (i : Nat) (hi : i < n) (h : p i = true) : (List.range n).any p = true := List.any_eq_true.2 ⟨i, List.mem_range.2 hi, h⟩
theorem ask_none (n : Nat) (p : Nat → Bool) (h : ∀ i, i < n → p i = false) : (List.range n).any p = false := by
  rw [List.any_eq_false]
  intro i hi
  rw [h i (List.mem_range.1 hi)]
  exact Bool.false_ne_true
theorem asks_leaf (n : Nat) (c : UInt8) : Asks n (.leaf c) := by
  intro x hx w
  by_cases hc : c = 101
  · subst hc
    show Calls Tryd.prog 124 #[.agg #[], .agg #[.int .i64 (n : Int)], .int .i64 (x : Int)] w _
    go_enter Tryd.func124, Tryd.ntmps124
    go_wp2
    go_ret
    exact ⟨rfl, ((Below.refl _ _).alloc (Nat.le_refl _) _).alloc (by simp) _⟩
  · have HV : Hid (hasT n (.leaf c) x = decide (placeB c = (x : Int))) := Lib.hid (by show (if c = 101 then false else decide (placeB c = (x : Int))) = _; rw [if_neg hc])
    rw [show k_has (.leaf c) = 128 from if_neg hc, show payT (.leaf c) = .int .i64 (placeB c) from if_neg hc, HV.out]
    generalize placeB c = p at *
    have e9 : (p == (x : Int)) = decide (p = (x : Int)) := rfl
    clear HV hc
    generalize decide (p = (x : Int)) = r at *
    go_enter Tryd.func128, Tryd.ntmps128
    go_wp2
    go_ret
    exact ⟨by first | rfl | (simp; done), (Below.refl _ _).alloc (Nat.le_refl _) _⟩
set_option maxHeartbeats 2000000 in
theorem asks_not (n : Nat) (a : Tm) (ih : Asks n a) : Asks n (.one 33 a) := by
  intro x hx w
  obtain ⟨T, p, k, hT, hp, hm, hcf, hX⟩ := ask_face n a ih
  show Calls Tryd.prog 152 #[.agg #[.iface (tyT a) (payT a)], .agg #[.int .i64 (n : Int)], .int .i64 (x : Int)] w _
  rw [hT, hp]
  have HX := Lib.hid (hX x hx)
  have HV : Hid (hasT n (.one 33 a) x = !hasT n a x) := Lib.hid rfl
  rw [HV.out]
  clear HV hT hp hX ih hx
  generalize hasT n a x = r at *
  have hB0 : Below w.heap.size w ((w.alloc (.cells #[.iface T p] 152)).alloc (.cells #[.int .i64 (n : Int)] 43)) := ((Below.refl _ _).alloc (Nat.le_refl _) _).alloc (by simp) _
  go_enter Tryd.func152, Tryd.ntmps152
  go_wp2_with fail
  refine (HX.out _).mono ?_
  rintro e w1 ⟨rfl, hb1⟩
  go_wp2
  go_ret
  exact ⟨rfl, hB0.trans (hb1.mono hB0.size)⟩
set_option maxHeartbeats 2000000 in
theorem asks_minus (n : Nat) (a : Tm) (h1 : 1 ≤ n) (h2 : n ≤ 12) (ih : Asks n a) : Asks n (.one 45 a) := by
  have hmx : Tryd.prog.follows .mixedOrders = true := by kernel_rfl
  intro x hx w
  obtain ⟨T, p, k, hT, hp, hm, hcf, hX⟩ := ask_face n a ih
  show Calls Tryd.prog 157 #[.agg #[.iface (tyT a) (payT a)], .agg #[.int .i64 (n : Int)], .int .i64 (x : Int)] w _
  rw [hT, hp]
  have HX := Lib.hid (hX (neg n x) (neg_lt n x h1))
  have HR' := fun W => rest_any n (-(x : Int)) W h1 h2 (by omega)
  rw [show rest n (-(x : Int)) = neg n x from rfl] at HR'
  have HR := Lib.hid HR'
  have HV : Hid (hasT n (.one 45 a) x = hasT n a (neg n x)) := Lib.hid rfl
  rw [HV.out]
  have HW := Lib.hid (ask_neg x (by omega))
  clear HV hT hp hX ih hx HR'
  generalize hasT n a (neg n x) = r at *
  generalize neg n x = m at *
  go_enter Tryd.func157, Tryd.ntmps157
  go_wp2_with fail
  obtain ⟨W0, hW0⟩ : ∃ W0, (w.alloc (.cells #[.iface T p] 153)).alloc (.cells #[.int .i64 (n : Int)] 43) = W0 := ⟨_, rfl⟩
  have HF := Lib.hid (fun V hb => two_boxes w W0 _ _ _ _ hW0 V hb)
  rw [hW0]
  clear hW0
  have hA0 : Below W0.heap.size W0 W0.drew := (Below.refl _ _).drew
  refine wp_region_held_drew (S := fun V => Below W0.heap.size W0 V) hmx hA0 (fun _ => ?_)
  generalize W0.drew = V0 at *
  refine take1 0 (v := ?_) rfl (by kernel_rfl) (by kernel_rfl) (by kernel_rfl) (fun _ _ _ h => h) (by rfl) ?_ hA0 ?_
  rotate_left
  · intro V9 hA
    obtain ⟨f1, f2, f3⟩ := HF.out _ hA
    clear hA
    go_simp
    try with_reducible rfl
  try simp only [Act.put, List.setIfInBounds_toArray, List.set_cons_zero, List.set_cons_succ]
  refine take1 1 (v := ?_) rfl (by kernel_rfl) (by kernel_rfl) (by kernel_rfl) (fun _ _ _ h => h) (by rfl) ?_ hA0 ?_
  rotate_left
  · intro V9 hA
    obtain ⟨f1, f2, f3⟩ := HF.out _ hA
    clear hA
    go_simp
    try with_reducible rfl
  try simp only [Act.put, List.setIfInBounds_toArray, List.set_cons_zero, List.set_cons_succ]
  refine take1 2 (v := ?_) rfl (by kernel_rfl) (by kernel_rfl) (by kernel_rfl) (fun _ _ _ h => h) (by rfl) ?_ hA0 ?_
  rotate_left
  · intro V9 hA
    obtain ⟨f1, f2, f3⟩ := HF.out _ hA
    clear hA
    go_simp
    try with_reducible rfl
  try simp only [Act.put, List.setIfInBounds_toArray, List.set_cons_zero, List.set_cons_succ]
  refine take1 3 (v := ?_) rfl (by kernel_rfl) (by kernel_rfl) (by kernel_rfl) (fun _ _ _ h => h) (by rfl) ?_ hA0 ?_
  rotate_left
  · intro V9 hA
    obtain ⟨f1, f2, f3⟩ := HF.out _ hA
    clear hA
    go_simp
    try with_reducible rfl
  try simp only [Act.put, List.setIfInBounds_toArray, List.set_cons_zero, List.set_cons_succ]
  refine take1 4 (v := ?_) rfl (by kernel_rfl) (by kernel_rfl) (by kernel_rfl) (fun _ _ _ h => h) (by rfl) ?_ hA0 ?_
  rotate_left
  · intro V9 hA
    obtain ⟨f1, f2, f3⟩ := HF.out _ hA
    clear hA
    go_simp
    try with_reducible rfl
  try simp only [Act.put, List.setIfInBounds_toArray, List.set_cons_zero, List.set_cons_succ]
  refine take1 5 (v := ?_) rfl (by kernel_rfl) (by kernel_rfl) (by kernel_rfl) (fun _ _ _ h => h) (by rfl) ?_ hA0 ?_
  rotate_left
  · intro V9 hA
    obtain ⟨f1, f2, f3⟩ := HF.out _ hA
    obtain ⟨u1, u2⟩ := HW.out
    clear hA
    go_simp
    try with_reducible rfl
  try simp only [Act.put, List.setIfInBounds_toArray, List.set_cons_zero, List.set_cons_succ]
  refine take1 7 (v := ?_) rfl (by kernel_rfl) (by kernel_rfl) (by kernel_rfl) (fun _ _ _ h => h) (by rfl) ?_ hA0 ?_
  rotate_left
  · intro V9 hA
    obtain ⟨f1, f2, f3⟩ := HF.out _ hA
    clear hA
    go_simp
    try with_reducible rfl
  try simp only [Act.put, List.setIfInBounds_toArray, List.set_cons_zero, List.set_cons_succ]
  refine take1 8 (v := ?_) rfl (by kernel_rfl) (by kernel_rfl) (by kernel_rfl) (fun _ _ _ h => h) (by rfl) ?_ hA0 ?_
  rotate_left
  · intro V9 hA
    obtain ⟨f1, f2, f3⟩ := HF.out _ hA
    clear hA
    go_simp
    try with_reducible rfl
  try simp only [Act.put, List.setIfInBounds_toArray, List.set_cons_zero, List.set_cons_succ]
  refine step1 6 (by kernel_rfl) rfl (fun K hK => ?_)
  go_simp
  refine (HR.out _).mono ?_
  rintro e V1 ⟨rfl, hb1⟩
  go_wp2_with fail
  have hA1 := hA0.trans (hb1.mono hA0.size)
  refine hK.out _ _ hA1 ?_
  clear hK K
  try simp only [Act.put, List.setIfInBounds_toArray, List.set_cons_zero, List.set_cons_succ]
  refine step1 9 (by kernel_rfl) rfl (fun K hK => ?_)
  go_simp
  refine (HX.out _).mono ?_
  rintro e V2 ⟨rfl, hb2⟩
  go_wp2_with fail
  have hA2 := hA1.trans (hb2.mono hA1.size)
  refine hK.out _ _ hA2 ?_
  clear hK K
  try simp only [Act.put, List.setIfInBounds_toArray, List.set_cons_zero, List.set_cons_succ]
  refine take1 10 (v := ?_) rfl (by kernel_rfl) (by kernel_rfl) (by kernel_rfl) (fun _ _ _ h => h) (by rfl) ?_ hA2 ?_
  rotate_left
  · intro V9 hA
    obtain ⟨f1, f2, f3⟩ := HF.out _ hA
    clear hA
    go_simp
    try with_reducible rfl
  try simp only [Act.put, List.setIfInBounds_toArray, List.set_cons_zero, List.set_cons_succ]
  refine stop1 (by kernel_rfl) ?_
  have hE := (HF.out _ hA2).2.2
  go_wp2
  go_ret
  exact ⟨rfl, hE⟩
set_option maxHeartbeats 4000000 in
theorem asks_or (n : Nat) (a d : Tm) (h1 : 1 ≤ n) (h2 : n ≤ 12) (iha : Asks n a) (ihd : Asks n d) : Asks n (.two 43 a d) := by
  have hmx : Tryd.prog.follows .mixedOrders = true := by kernel_rfl
  intro x hx w
  obtain ⟨T, p, k, hT, hp, hm, hcf, hX⟩ := ask_face n a iha
  obtain ⟨T2, p2, k2, hT2, hp2, hm2, hcf2, hX2⟩ := ask_face n d ihd
  show Calls Tryd.prog 132 #[.agg #[.int .u8 (((43 : UInt8).toNat : Nat) : Int), .iface (tyT a) (payT a), .iface (tyT d) (payT d)], .agg #[.int .i64 (n : Int)], .int .i64 (x : Int)] w _
  have hc' : (((43 : UInt8).toNat : Nat) : Int) = 43 := rfl
  rw [hc', hT, hp, hT2, hp2]
  have HX := Lib.hid (hX x hx)
  have HX2 := Lib.hid (hX2 x hx)
  have HV : Hid (hasT n (.two 43 a d) x = (hasT n a x || hasT n d x)) := Lib.hid rfl
  rw [HV.out]
  clear HV hT hp hT2 hp2 hX hX2 iha ihd hc' hx
  generalize hasT n a x = r at *
  generalize hasT n d x = s at *
  have HF := Lib.hid (fun V hb => pair_boxes w _ 111 43 (.int .u8 43) (.iface T p) (.iface T2 p2) (.int .i64 (n : Int)) rfl V hb)
  cases r
  · go_enter Tryd.func132, Tryd.ntmps132
    go_wp2_with fail
    refine (HX.out _).mono ?_
    rintro e w1 ⟨rfl, hb1⟩
    obtain ⟨f0, f1, f2, f3, f4⟩ := HF.out _ hb1
    go_wp2_with fail
    refine (HX2.out _).mono ?_
    rintro e w2 ⟨rfl, hb2⟩
    go_wp2
    go_ret
    exact ⟨rfl, f4.trans (hb2.mono f4.size)⟩
  · go_enter Tryd.func132, Tryd.ntmps132
    go_wp2_with fail
    refine (HX.out _).mono ?_
    rintro e w1 ⟨rfl, hb1⟩
    obtain ⟨f0, f1, f2, f3, f4⟩ := HF.out _ hb1
    go_wp2
    go_ret
    exact ⟨rfl, f4⟩
set_option maxHeartbeats 4000000 in
theorem asks_and (n : Nat) (a d : Tm) (h1 : 1 ≤ n) (h2 : n ≤ 12) (iha : Asks n a) (ihd : Asks n d) : Asks n (.two 38 a d) := by
  have hmx : Tryd.prog.follows .mixedOrders = true := by kernel_rfl
  intro x hx w
  obtain ⟨T, p, k, hT, hp, hm, hcf, hX⟩ := ask_face n a iha
  obtain ⟨T2, p2, k2, hT2, hp2, hm2, hcf2, hX2⟩ := ask_face n d ihd
  show Calls Tryd.prog 132 #[.agg #[.int .u8 (((38 : UInt8).toNat : Nat) : Int), .iface (tyT a) (payT a), .iface (tyT d) (payT d)], .agg #[.int .i64 (n : Int)], .int .i64 (x : Int)] w _
  have hc' : (((38 : UInt8).toNat : Nat) : Int) = 38 := rfl
  rw [hc', hT, hp, hT2, hp2]
  have HX := Lib.hid (hX x hx)
  have HX2 := Lib.hid (hX2 x hx)
  have HV : Hid (hasT n (.two 38 a d) x = (hasT n a x && hasT n d x)) := Lib.hid rfl
  rw [HV.out]
  clear HV hT hp hT2 hp2 hX hX2 iha ihd hc' hx
  generalize hasT n a x = r at *
  generalize hasT n d x = s at *
  have HF := Lib.hid (fun V hb => pair_boxes w _ 111 43 (.int .u8 38) (.iface T p) (.iface T2 p2) (.int .i64 (n : Int)) rfl V hb)
  cases r
  · go_enter Tryd.func132, Tryd.ntmps132
    go_wp2_with fail
    refine (HX.out _).mono ?_
    rintro e w1 ⟨rfl, hb1⟩
    obtain ⟨f0, f1, f2, f3, f4⟩ := HF.out _ hb1
    go_wp2
    go_ret
    exact ⟨rfl, f4⟩
  · go_enter Tryd.func132, Tryd.ntmps132
    go_wp2_with fail
    refine (HX.out _).mono ?_
    rintro e w1 ⟨rfl, hb1⟩
    obtain ⟨f0, f1, f2, f3, f4⟩ := HF.out _ hb1
    go_wp2_with fail
    refine (HX2.out _).mono ?_
    rintro e w2 ⟨rfl, hb2⟩
    go_wp2
    go_ret
    exact ⟨rfl, f4.trans (hb2.mono f4.size)⟩
set_option maxHeartbeats 4000000 in
theorem asks_point (n : Nat) (a d : Tm) (h1 : 1 ≤ n) (h2 : n ≤ 12) (iha : Asks n a) (ihd : Asks n d) : Asks n (.two 46 a d) := by
  have hmx : Tryd.prog.follows .mixedOrders = true := by kernel_rfl
  intro x hx w
  obtain ⟨T, p, k, hT, hp, hm, hcf, hX⟩ := ask_face n a iha
  obtain ⟨T2, p2, k2, hT2, hp2, hm2, hcf2, hX2⟩ := ask_face n d ihd
  show Calls Tryd.prog 132 #[.agg #[.int .u8 (((46 : UInt8).toNat : Nat) : Int), .iface (tyT a) (payT a), .iface (tyT d) (payT d)], .agg #[.int .i64 (n : Int)], .int .i64 (x : Int)] w _
  have hc' : (((46 : UInt8).toNat : Nat) : Int) = 46 := rfl
  rw [hc', hT, hp, hT2, hp2]
  have HX := Lib.hid hX
  have HX2 := Lib.hid hX2
  have HR := Lib.hid (fun (i : Nat) (hi : i < n) W => rest_any n ((x : Int) - (i : Int)) W h1 h2 (by omega))
  have HRl := Lib.hid (fun (i : Nat) => rest_lt n ((x : Int) - (i : Int)) h1)
  have HV : Hid (hasT n (.two 46 a d) x = (List.range n).any fun i => hasT n a i && hasT n d (rest n ((x : Int) - (i : Int)))) := Lib.hid rfl
  have HW := Lib.hid (fun (i : Nat) (hi : i < n) => ask_sub x i (by omega) (by omega))
  rw [HV.out]
  clear HV hT hp hT2 hp2 hX hX2 iha ihd hc' hx
  go_enter Tryd.func132, Tryd.ntmps132
  go_wp2_with fail
  obtain ⟨W0, hW0⟩ : ∃ W0, (w.alloc (.cells #[.int .u8 46, .iface T p, .iface T2 p2] 111)).alloc (.cells #[.int .i64 (n : Int)] 43) = W0 := ⟨_, rfl⟩
  have HF := Lib.hid (fun V hb => pair_boxes w W0 _ _ _ _ _ _ hW0 V hb)
  rw [hW0]
  clear hW0
  go_loopw [40] (fun u wr => ∃ i : Nat, i ≤ n ∧ u = .int .i64 (i : Int) ∧ Below W0.heap.size W0 wr ∧ Hid (∀ j, j < i → (hasT n a j && hasT n d (rest n ((x : Int) - (j : Int)))) = false)) (fun u _ => n - (intOf u).toNat)
  case atStart => exact ⟨0, Nat.zero_le _, rfl, Below.refl _ _, Lib.hid (fun j hj => absurd hj (by omega))⟩
  case round =>
    obtain ⟨i, hi, rfl, hB, HA⟩ := hrel
    by_cases hlt : i < n
    · have HXi := Lib.hid (HX.out i hlt)
      have HRi := Lib.hid (HR.out i hlt)
      have HYi := Lib.hid (HX2.out _ (HRl.out i))
      have HWi := Lib.hid (HW.out i hlt)
      have HUp := Lib.hid (ask_up n (fun i => hasT n a i && hasT n d (rest n ((x : Int) - (i : Int)))) i hlt)
      have HAn : Hid ((hasT n a i && hasT n d (rest n ((x : Int) - (i : Int)))) = false → ∀ j, j < i + 1 → (hasT n a j && hasT n d (rest n ((x : Int) - (j : Int)))) = false) := Lib.hid (fun h j hj => by
        by_cases e : j = i
        · subst e; exact h
        · exact HA.out j (by omega))
      obtain ⟨r, hr⟩ : ∃ r, hasT n a i = r := ⟨_, rfl⟩
      obtain ⟨s, hs⟩ : ∃ s, hasT n d (rest n ((x : Int) - (i : Int))) = s := ⟨_, rfl⟩
      have HUq : Hid ((r && s) = true → ((List.range n).any fun i => hasT n a i && hasT n d (rest n ((x : Int) - (i : Int)))) = true) := Lib.hid (fun h => HUp.out (by show (hasT n a i && hasT n d (rest n ((x : Int) - (i : Int)))) = true; rw [hr, hs]; exact h))
      rw [hr, hs] at HAn
      rw [hr] at HXi
      rw [hs] at HYi
      clear hr hs HUp HA
      generalize rest n ((x : Int) - (i : Int)) = m at HRi HYi
      have l1 : (i : Int) < (n : Int) := by omega
      have l2 := decide_eq_true l1
      cases r
      · have HA2 := Lib.hid (HAn.out rfl)
        clear HAn HUq
        go_wp2_with fail
        have hA0 : Below W0.heap.size W0 wr.drew := hB.drew
        refine wp_region_held_drew (S := fun V => Below W0.heap.size W0 V) hmx hA0 (fun _ => ?_)
        generalize wr.drew = V0 at *
        refine take1 0 (v := ?_) rfl (by kernel_rfl) (by kernel_rfl) (by kernel_rfl) (fun _ _ _ h => h) (by rfl) ?_ hA0 ?_
        rotate_left
        · intro V9 hA
          obtain ⟨f0, f1, f2, f3, f4⟩ := HF.out _ hA
          clear hA
          go_simp
          try with_reducible rfl
        try simp only [Act.put, List.setIfInBounds_toArray, List.set_cons_zero, List.set_cons_succ]
        refine take1 1 (v := ?_) rfl (by kernel_rfl) (by kernel_rfl) (by kernel_rfl) (fun _ _ _ h => h) (by rfl) ?_ hA0 ?_
        rotate_left
        · intro V9 hA
          obtain ⟨f0, f1, f2, f3, f4⟩ := HF.out _ hA
          clear hA
          go_simp
          try with_reducible rfl
        try simp only [Act.put, List.setIfInBounds_toArray, List.set_cons_zero, List.set_cons_succ]
        refine take1 2 (v := ?_) rfl (by kernel_rfl) (by kernel_rfl) (by kernel_rfl) (fun _ _ _ h => h) (by rfl) ?_ hA0 ?_
        rotate_left
        · intro V9 hA
          obtain ⟨f0, f1, f2, f3, f4⟩ := HF.out _ hA
          clear hA
          go_simp
          try with_reducible rfl
        try simp only [Act.put, List.setIfInBounds_toArray, List.set_cons_zero, List.set_cons_succ]
        refine take1 3 (v := ?_) rfl (by kernel_rfl) (by kernel_rfl) (by kernel_rfl) (fun _ _ _ h => h) (by rfl) ?_ hA0 ?_
        rotate_left
        · intro V9 hA
          obtain ⟨f0, f1, f2, f3, f4⟩ := HF.out _ hA
          clear hA
          go_simp
          try with_reducible rfl
        try simp only [Act.put, List.setIfInBounds_toArray, List.set_cons_zero, List.set_cons_succ]
        refine step1 4 (by kernel_rfl) rfl (fun K hK => ?_)
        go_simp
        refine (HXi.out _).mono ?_
        rintro e V1 ⟨rfl, hb1⟩
        go_wp2_with fail
        have hA1 := hA0.trans (hb1.mono hA0.size)
        refine hK.out _ _ hA1 ?_
        clear hK K
        try simp only [Act.put, List.setIfInBounds_toArray, List.set_cons_zero, List.set_cons_succ]
        refine take1 5 (v := ?_) rfl (by kernel_rfl) (by kernel_rfl) (by kernel_rfl) (fun _ _ _ h => h) (by rfl) ?_ hA1 ?_
        rotate_left
        · intro V9 hA
          obtain ⟨f0, f1, f2, f3, f4⟩ := HF.out _ hA
          clear hA
          go_simp
          try with_reducible rfl
        try simp only [Act.put, List.setIfInBounds_toArray, List.set_cons_zero, List.set_cons_succ]
        refine take0m 6 rfl (by kernel_rfl) (by kernel_rfl) (by kernel_rfl) (fun _ _ _ h => h) (by rfl) hA1 ?_
        try simp only [Act.put, List.setIfInBounds_toArray, List.set_cons_zero, List.set_cons_succ]
        refine take0m 7 rfl (by kernel_rfl) (by kernel_rfl) (by kernel_rfl) (fun _ _ _ h => h) (by rfl) hA1 ?_
        try simp only [Act.put, List.setIfInBounds_toArray, List.set_cons_zero, List.set_cons_succ]
        refine take0m 8 rfl (by kernel_rfl) (by kernel_rfl) (by kernel_rfl) (fun _ _ _ h => h) (by rfl) hA1 ?_
        try simp only [Act.put, List.setIfInBounds_toArray, List.set_cons_zero, List.set_cons_succ]
        refine take0m 9 rfl (by kernel_rfl) (by kernel_rfl) (by kernel_rfl) (fun _ _ _ h => h) (by rfl) hA1 ?_
        try simp only [Act.put, List.setIfInBounds_toArray, List.set_cons_zero, List.set_cons_succ]
        refine take0m 10 rfl (by kernel_rfl) (by kernel_rfl) (by kernel_rfl) (fun _ _ _ h => h) (by rfl) hA1 ?_
        try simp only [Act.put, List.setIfInBounds_toArray, List.set_cons_zero, List.set_cons_succ]
        refine take0m 11 rfl (by kernel_rfl) (by kernel_rfl) (by kernel_rfl) (fun _ _ _ h => h) (by rfl) hA1 ?_
        try simp only [Act.put, List.setIfInBounds_toArray, List.set_cons_zero, List.set_cons_succ]
        refine take0m 12 rfl (by kernel_rfl) (by kernel_rfl) (by kernel_rfl) (fun _ _ _ h => h) (by rfl) hA1 ?_
        try simp only [Act.put, List.setIfInBounds_toArray, List.set_cons_zero, List.set_cons_succ]
        refine take0m 13 rfl (by kernel_rfl) (by kernel_rfl) (by kernel_rfl) (fun _ _ _ h => h) (by rfl) hA1 ?_
        try simp only [Act.put, List.setIfInBounds_toArray, List.set_cons_zero, List.set_cons_succ]
        refine take0m 14 rfl (by kernel_rfl) (by kernel_rfl) (by kernel_rfl) (fun _ _ _ h => h) (by rfl) hA1 ?_
        try simp only [Act.put, List.setIfInBounds_toArray, List.set_cons_zero, List.set_cons_succ]
        refine take0m 15 rfl (by kernel_rfl) (by kernel_rfl) (by kernel_rfl) (fun _ _ _ h => h) (by rfl) hA1 ?_
        try simp only [Act.put, List.setIfInBounds_toArray, List.set_cons_zero, List.set_cons_succ]
        refine take0m 16 rfl (by kernel_rfl) (by kernel_rfl) (by kernel_rfl) (fun _ _ _ h => h) (by rfl) hA1 ?_
        try simp only [Act.put, List.setIfInBounds_toArray, List.set_cons_zero, List.set_cons_succ]
        refine take1 17 (v := ?_) rfl (by kernel_rfl) (by kernel_rfl) (by kernel_rfl) (fun _ _ _ h => h) (by rfl) ?_ hA1 ?_
        rotate_left
        · intro V9 hA
          obtain ⟨f0, f1, f2, f3, f4⟩ := HF.out _ hA
          clear hA
          go_simp
          try with_reducible rfl
        try simp only [Act.put, List.setIfInBounds_toArray, List.set_cons_zero, List.set_cons_succ]
        refine stop1 (by kernel_rfl) ?_
        go_wp2
        go_roundw
        case rel => exact ⟨i + 1, by omega, by go_num, hA1, HA2⟩
        case measure => simp [intOf]; omega
      · cases s
        · have HA2 := Lib.hid (HAn.out rfl)
          clear HAn HUq
          go_wp2_with fail
          have hA0 : Below W0.heap.size W0 wr.drew := hB.drew
          refine wp_region_held_drew (S := fun V => Below W0.heap.size W0 V) hmx hA0 (fun _ => ?_)
          generalize wr.drew = V0 at *
          refine take1 0 (v := ?_) rfl (by kernel_rfl) (by kernel_rfl) (by kernel_rfl) (fun _ _ _ h => h) (by rfl) ?_ hA0 ?_
          rotate_left
          · intro V9 hA
            obtain ⟨f0, f1, f2, f3, f4⟩ := HF.out _ hA
            clear hA
            go_simp
            try with_reducible rfl
          try simp only [Act.put, List.setIfInBounds_toArray, List.set_cons_zero, List.set_cons_succ]
          refine take1 1 (v := ?_) rfl (by kernel_rfl) (by kernel_rfl) (by kernel_rfl) (fun _ _ _ h => h) (by rfl) ?_ hA0 ?_
          rotate_left
          · intro V9 hA
            obtain ⟨f0, f1, f2, f3, f4⟩ := HF.out _ hA
            clear hA
            go_simp
            try with_reducible rfl
          try simp only [Act.put, List.setIfInBounds_toArray, List.set_cons_zero, List.set_cons_succ]
          refine take1 2 (v := ?_) rfl (by kernel_rfl) (by kernel_rfl) (by kernel_rfl) (fun _ _ _ h => h) (by rfl) ?_ hA0 ?_
          rotate_left
          · intro V9 hA
            obtain ⟨f0, f1, f2, f3, f4⟩ := HF.out _ hA
            clear hA
            go_simp
            try with_reducible rfl
          try simp only [Act.put, List.setIfInBounds_toArray, List.set_cons_zero, List.set_cons_succ]
          refine take1 3 (v := ?_) rfl (by kernel_rfl) (by kernel_rfl) (by kernel_rfl) (fun _ _ _ h => h) (by rfl) ?_ hA0 ?_
          rotate_left
          · intro V9 hA
            obtain ⟨f0, f1, f2, f3, f4⟩ := HF.out _ hA
            clear hA
            go_simp
            try with_reducible rfl
          try simp only [Act.put, List.setIfInBounds_toArray, List.set_cons_zero, List.set_cons_succ]
          refine step1 4 (by kernel_rfl) rfl (fun K hK => ?_)
          go_simp
          refine (HXi.out _).mono ?_
          rintro e V1 ⟨rfl, hb1⟩
          go_wp2_with fail
          have hA1 := hA0.trans (hb1.mono hA0.size)
          refine hK.out _ _ hA1 ?_
          clear hK K
          try simp only [Act.put, List.setIfInBounds_toArray, List.set_cons_zero, List.set_cons_succ]
          refine take1 5 (v := ?_) rfl (by kernel_rfl) (by kernel_rfl) (by kernel_rfl) (fun _ _ _ h => h) (by rfl) ?_ hA1 ?_
          rotate_left
          · intro V9 hA
            obtain ⟨f0, f1, f2, f3, f4⟩ := HF.out _ hA
            clear hA
            go_simp
            try with_reducible rfl
          try simp only [Act.put, List.setIfInBounds_toArray, List.set_cons_zero, List.set_cons_succ]
          refine take1 6 (v := ?_) rfl (by kernel_rfl) (by kernel_rfl) (by kernel_rfl) (fun _ _ _ h => h) (by rfl) ?_ hA1 ?_
          rotate_left
          · intro V9 hA
            obtain ⟨f0, f1, f2, f3, f4⟩ := HF.out _ hA
            clear hA
            go_simp
            try with_reducible rfl
          try simp only [Act.put, List.setIfInBounds_toArray, List.set_cons_zero, List.set_cons_succ]
          refine take1 7 (v := ?_) rfl (by kernel_rfl) (by kernel_rfl) (by kernel_rfl) (fun _ _ _ h => h) (by rfl) ?_ hA1 ?_
          rotate_left
          · intro V9 hA
            obtain ⟨f0, f1, f2, f3, f4⟩ := HF.out _ hA
            clear hA
            go_simp
            try with_reducible rfl
          try simp only [Act.put, List.setIfInBounds_toArray, List.set_cons_zero, List.set_cons_succ]
          refine take1 8 (v := ?_) rfl (by kernel_rfl) (by kernel_rfl) (by kernel_rfl) (fun _ _ _ h => h) (by rfl) ?_ hA1 ?_
          rotate_left
          · intro V9 hA
            obtain ⟨f0, f1, f2, f3, f4⟩ := HF.out _ hA
            clear hA
            go_simp
            try with_reducible rfl
          try simp only [Act.put, List.setIfInBounds_toArray, List.set_cons_zero, List.set_cons_succ]
          refine take1 9 (v := ?_) rfl (by kernel_rfl) (by kernel_rfl) (by kernel_rfl) (fun _ _ _ h => h) (by rfl) ?_ hA1 ?_
          rotate_left
          · intro V9 hA
            obtain ⟨f0, f1, f2, f3, f4⟩ := HF.out _ hA
            clear hA
            go_simp
            try with_reducible rfl
          try simp only [Act.put, List.setIfInBounds_toArray, List.set_cons_zero, List.set_cons_succ]
          refine take1 10 (v := ?_) rfl (by kernel_rfl) (by kernel_rfl) (by kernel_rfl) (fun _ _ _ h => h) (by rfl) ?_ hA1 ?_
          rotate_left
          · intro V9 hA
            obtain ⟨f0, f1, f2, f3, f4⟩ := HF.out _ hA
            clear hA
            go_simp
            try with_reducible rfl
          try simp only [Act.put, List.setIfInBounds_toArray, List.set_cons_zero, List.set_cons_succ]
          refine take1 11 (v := ?_) rfl (by kernel_rfl) (by kernel_rfl) (by kernel_rfl) (fun _ _ _ h => h) (by rfl) ?_ hA1 ?_
          rotate_left
          · intro V9 hA
            obtain ⟨f0, f1, f2, f3, f4⟩ := HF.out _ hA
            clear hA
            go_simp
            try with_reducible rfl
          try simp only [Act.put, List.setIfInBounds_toArray, List.set_cons_zero, List.set_cons_succ]
          refine take1 12 (v := ?_) rfl (by kernel_rfl) (by kernel_rfl) (by kernel_rfl) (fun _ _ _ h => h) (by rfl) ?_ hA1 ?_
          rotate_left
          · intro V9 hA
            obtain ⟨f0, f1, f2, f3, f4⟩ := HF.out _ hA
            obtain ⟨u1, u2⟩ := HWi.out
            clear hA
            go_simp
            try with_reducible rfl
          try simp only [Act.put, List.setIfInBounds_toArray, List.set_cons_zero, List.set_cons_succ]
          refine take1 14 (v := ?_) rfl (by kernel_rfl) (by kernel_rfl) (by kernel_rfl) (fun _ _ _ h => h) (by rfl) ?_ hA1 ?_
          rotate_left
          · intro V9 hA
            obtain ⟨f0, f1, f2, f3, f4⟩ := HF.out _ hA
            clear hA
            go_simp
            try with_reducible rfl
          try simp only [Act.put, List.setIfInBounds_toArray, List.set_cons_zero, List.set_cons_succ]
          refine take1 15 (v := ?_) rfl (by kernel_rfl) (by kernel_rfl) (by kernel_rfl) (fun _ _ _ h => h) (by rfl) ?_ hA1 ?_
          rotate_left
          · intro V9 hA
            obtain ⟨f0, f1, f2, f3, f4⟩ := HF.out _ hA
            clear hA
            go_simp
            try with_reducible rfl
          try simp only [Act.put, List.setIfInBounds_toArray, List.set_cons_zero, List.set_cons_succ]
          refine step1 13 (by kernel_rfl) rfl (fun K hK => ?_)
          go_simp
          refine (HRi.out _).mono ?_
          rintro e V2 ⟨rfl, hb2⟩
          go_wp2_with fail
          have hA2 := hA1.trans (hb2.mono hA1.size)
          refine hK.out _ _ hA2 ?_
          clear hK K
          try simp only [Act.put, List.setIfInBounds_toArray, List.set_cons_zero, List.set_cons_succ]
          refine step1 16 (by kernel_rfl) rfl (fun K hK => ?_)
          go_simp
          refine (HYi.out _).mono ?_
          rintro e V3 ⟨rfl, hb3⟩
          go_wp2_with fail
          have hA3 := hA2.trans (hb3.mono hA2.size)
          refine hK.out _ _ hA3 ?_
          clear hK K
          try simp only [Act.put, List.setIfInBounds_toArray, List.set_cons_zero, List.set_cons_succ]
          refine take1 17 (v := ?_) rfl (by kernel_rfl) (by kernel_rfl) (by kernel_rfl) (fun _ _ _ h => h) (by rfl) ?_ hA3 ?_
          rotate_left
          · intro V9 hA
            obtain ⟨f0, f1, f2, f3, f4⟩ := HF.out _ hA
            clear hA
            go_simp
            try with_reducible rfl
          try simp only [Act.put, List.setIfInBounds_toArray, List.set_cons_zero, List.set_cons_succ]
          refine stop1 (by kernel_rfl) ?_
          go_wp2
          go_roundw
          case rel => exact ⟨i + 1, by omega, by go_num, hA3, HA2⟩
          case measure => simp [intOf]; omega
        · have HV2 := Lib.hid (HUq.out rfl)
          clear HAn HUq
          go_wp2_with fail
          have hA0 : Below W0.heap.size W0 wr.drew := hB.drew
          refine wp_region_held_drew (S := fun V => Below W0.heap.size W0 V) hmx hA0 (fun _ => ?_)
          generalize wr.drew = V0 at *
          refine take1 0 (v := ?_) rfl (by kernel_rfl) (by kernel_rfl) (by kernel_rfl) (fun _ _ _ h => h) (by rfl) ?_ hA0 ?_
          rotate_left
          · intro V9 hA
            obtain ⟨f0, f1, f2, f3, f4⟩ := HF.out _ hA
            clear hA
            go_simp
            try with_reducible rfl
          try simp only [Act.put, List.setIfInBounds_toArray, List.set_cons_zero, List.set_cons_succ]
          refine take1 1 (v := ?_) rfl (by kernel_rfl) (by kernel_rfl) (by kernel_rfl) (fun _ _ _ h => h) (by rfl) ?_ hA0 ?_
          rotate_left
          · intro V9 hA
            obtain ⟨f0, f1, f2, f3, f4⟩ := HF.out _ hA
            clear hA
            go_simp
            try with_reducible rfl
          try simp only [Act.put, List.setIfInBounds_toArray, List.set_cons_zero, List.set_cons_succ]
          refine take1 2 (v := ?_) rfl (by kernel_rfl) (by kernel_rfl) (by kernel_rfl) (fun _ _ _ h => h) (by rfl) ?_ hA0 ?_
          rotate_left
          · intro V9 hA
            obtain ⟨f0, f1, f2, f3, f4⟩ := HF.out _ hA
            clear hA
            go_simp
            try with_reducible rfl
          try simp only [Act.put, List.setIfInBounds_toArray, List.set_cons_zero, List.set_cons_succ]
          refine take1 3 (v := ?_) rfl (by kernel_rfl) (by kernel_rfl) (by kernel_rfl) (fun _ _ _ h => h) (by rfl) ?_ hA0 ?_
          rotate_left
          · intro V9 hA
            obtain ⟨f0, f1, f2, f3, f4⟩ := HF.out _ hA
            clear hA
            go_simp
            try with_reducible rfl
          try simp only [Act.put, List.setIfInBounds_toArray, List.set_cons_zero, List.set_cons_succ]
          refine step1 4 (by kernel_rfl) rfl (fun K hK => ?_)
          go_simp
          refine (HXi.out _).mono ?_
          rintro e V1 ⟨rfl, hb1⟩
          go_wp2_with fail
          have hA1 := hA0.trans (hb1.mono hA0.size)
          refine hK.out _ _ hA1 ?_
          clear hK K
          try simp only [Act.put, List.setIfInBounds_toArray, List.set_cons_zero, List.set_cons_succ]
          refine take1 5 (v := ?_) rfl (by kernel_rfl) (by kernel_rfl) (by kernel_rfl) (fun _ _ _ h => h) (by rfl) ?_ hA1 ?_
          rotate_left
          · intro V9 hA
            obtain ⟨f0, f1, f2, f3, f4⟩ := HF.out _ hA
            clear hA
            go_simp
            try with_reducible rfl
          try simp only [Act.put, List.setIfInBounds_toArray, List.set_cons_zero, List.set_cons_succ]
          refine take1 6 (v := ?_) rfl (by kernel_rfl) (by kernel_rfl) (by kernel_rfl) (fun _ _ _ h => h) (by rfl) ?_ hA1 ?_
          rotate_left
          · intro V9 hA
            obtain ⟨f0, f1, f2, f3, f4⟩ := HF.out _ hA
            clear hA
            go_simp
            try with_reducible rfl
          try simp only [Act.put, List.setIfInBounds_toArray, List.set_cons_zero, List.set_cons_succ]
          refine take1 7 (v := ?_) rfl (by kernel_rfl) (by kernel_rfl) (by kernel_rfl) (fun _ _ _ h => h) (by rfl) ?_ hA1 ?_
          rotate_left
          · intro V9 hA
            obtain ⟨f0, f1, f2, f3, f4⟩ := HF.out _ hA
            clear hA
            go_simp
            try with_reducible rfl
          try simp only [Act.put, List.setIfInBounds_toArray, List.set_cons_zero, List.set_cons_succ]
          refine take1 8 (v := ?_) rfl (by kernel_rfl) (by kernel_rfl) (by kernel_rfl) (fun _ _ _ h => h) (by rfl) ?_ hA1 ?_
          rotate_left
          · intro V9 hA
            obtain ⟨f0, f1, f2, f3, f4⟩ := HF.out _ hA
            clear hA
            go_simp
            try with_reducible rfl
          try simp only [Act.put, List.setIfInBounds_toArray, List.set_cons_zero, List.set_cons_succ]
          refine take1 9 (v := ?_) rfl (by kernel_rfl) (by kernel_rfl) (by kernel_rfl) (fun _ _ _ h => h) (by rfl) ?_ hA1 ?_
          rotate_left
          · intro V9 hA
            obtain ⟨f0, f1, f2, f3, f4⟩ := HF.out _ hA
            clear hA
            go_simp
            try with_reducible rfl
          try simp only [Act.put, List.setIfInBounds_toArray, List.set_cons_zero, List.set_cons_succ]
          refine take1 10 (v := ?_) rfl (by kernel_rfl) (by kernel_rfl) (by kernel_rfl) (fun _ _ _ h => h) (by rfl) ?_ hA1 ?_
          rotate_left
          · intro V9 hA
            obtain ⟨f0, f1, f2, f3, f4⟩ := HF.out _ hA
            clear hA
            go_simp
            try with_reducible rfl
          try simp only [Act.put, List.setIfInBounds_toArray, List.set_cons_zero, List.set_cons_succ]
          refine take1 11 (v := ?_) rfl (by kernel_rfl) (by kernel_rfl) (by kernel_rfl) (fun _ _ _ h => h) (by rfl) ?_ hA1 ?_
          rotate_left
          · intro V9 hA
            obtain ⟨f0, f1, f2, f3, f4⟩ := HF.out _ hA
            clear hA
            go_simp
            try with_reducible rfl
          try simp only [Act.put, List.setIfInBounds_toArray, List.set_cons_zero, List.set_cons_succ]
          refine take1 12 (v := ?_) rfl (by kernel_rfl) (by kernel_rfl) (by kernel_rfl) (fun _ _ _ h => h) (by rfl) ?_ hA1 ?_
          rotate_left
          · intro V9 hA
            obtain ⟨f0, f1, f2, f3, f4⟩ := HF.out _ hA
            obtain ⟨u1, u2⟩ := HWi.out
            clear hA
            go_simp
            try with_reducible rfl
          try simp only [Act.put, List.setIfInBounds_toArray, List.set_cons_zero, List.set_cons_succ]
          refine take1 14 (v := ?_) rfl (by kernel_rfl) (by kernel_rfl) (by kernel_rfl) (fun _ _ _ h => h) (by rfl) ?_ hA1 ?_
          rotate_left
          · intro V9 hA
            obtain ⟨f0, f1, f2, f3, f4⟩ := HF.out _ hA
            clear hA
            go_simp
            try with_reducible rfl
          try simp only [Act.put, List.setIfInBounds_toArray, List.set_cons_zero, List.set_cons_succ]
          refine take1 15 (v := ?_) rfl (by kernel_rfl) (by kernel_rfl) (by kernel_rfl) (fun _ _ _ h => h) (by rfl) ?_ hA1 ?_
          rotate_left
          · intro V9 hA
            obtain ⟨f0, f1, f2, f3, f4⟩ := HF.out _ hA
            clear hA
            go_simp
            try with_reducible rfl
          try simp only [Act.put, List.setIfInBounds_toArray, List.set_cons_zero, List.set_cons_succ]
          refine step1 13 (by kernel_rfl) rfl (fun K hK => ?_)
          go_simp
          refine (HRi.out _).mono ?_
          rintro e V2 ⟨rfl, hb2⟩
          go_wp2_with fail
          have hA2 := hA1.trans (hb2.mono hA1.size)
          refine hK.out _ _ hA2 ?_
          clear hK K
          try simp only [Act.put, List.setIfInBounds_toArray, List.set_cons_zero, List.set_cons_succ]
          refine step1 16 (by kernel_rfl) rfl (fun K hK => ?_)
          go_simp
          refine (HYi.out _).mono ?_
          rintro e V3 ⟨rfl, hb3⟩
          go_wp2_with fail
          have hA3 := hA2.trans (hb3.mono hA2.size)
          refine hK.out _ _ hA3 ?_
          clear hK K
          try simp only [Act.put, List.setIfInBounds_toArray, List.set_cons_zero, List.set_cons_succ]
          refine take1 17 (v := ?_) rfl (by kernel_rfl) (by kernel_rfl) (by kernel_rfl) (fun _ _ _ h => h) (by rfl) ?_ hA3 ?_
          rotate_left
          · intro V9 hA
            obtain ⟨f0, f1, f2, f3, f4⟩ := HF.out _ hA
            clear hA
            go_simp
            try with_reducible rfl
          try simp only [Act.put, List.setIfInBounds_toArray, List.set_cons_zero, List.set_cons_succ]
          refine stop1 (by kernel_rfl) ?_
          have hE := (HF.out _ hA3).2.2.2.2
          go_wp2
          go_ret
          exact ⟨by rw [HV2.out]; rfl, hE⟩
    · obtain rfl : i = n := by omega
      have HV2 := Lib.hid (ask_none i _ HA.out)
      have hE := (HF.out _ hB).2.2.2.2
      clear HA hlt hi
      go_wp2
      go_ret
      exact ⟨by rw [HV2.out]; rfl, hE⟩
/-- The program asks any term. -/
theorem asks_any (n : Nat) (h1 : 1 ≤ n) (h2 : n ≤ 12) (t : Tm) (ho : okT n t = true) : Asks n t := by
  induction t with
  | leaf c => exact asks_leaf n c
  | one c a ih =>
    have h' : (isFront c && okT n a) = true := ho
    rw [Bool.and_eq_true] at h'
    have hc := h'.1
    unfold isFront at hc
    rw [Bool.or_eq_true, beq_iff_eq, beq_iff_eq] at hc
    rcases hc with rfl | rfl
    · exact asks_not n a (ih h'.2)
    · exact asks_minus n a h1 h2 (ih h'.2)
  | two c a d iha ihd =>
    have h' : (isMid c && okT n a && okT n d) = true := ho
    rw [Bool.and_eq_true, Bool.and_eq_true] at h'
    have hc := h'.1.1
    unfold isMid at hc
    rw [Bool.or_eq_true, Bool.or_eq_true, beq_iff_eq, beq_iff_eq, beq_iff_eq] at hc
    rcases hc with (rfl | rfl) | rfl
    · exact asks_or n a d h1 h2 (iha h'.1.2) (ihd h'.2)
    · exact asks_and n a d h1 h2 (iha h'.1.2) (ihd h'.2)
    · exact asks_point n a d h1 h2 (iha h'.1.2) (ihd h'.2)
end Go.Proofs.YtecjhkpldcmlaaaDoor
