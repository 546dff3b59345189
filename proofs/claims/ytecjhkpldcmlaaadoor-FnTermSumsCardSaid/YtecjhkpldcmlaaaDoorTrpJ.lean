/- Terms, the program's side: pairs by rules. Written by gen142.py. -/
import Derived.Test.YtecjhkpldcmlaaaDoorTrpI
namespace Go.Proofs.YtecjhkpldcmlaaaDoor
open Go.RowKit Go.Shelf
set_option linter.unusedVariables false
attribute [local go_sem] Oper.semAt_some
theorem eqT (a b : List UInt8) : ((toB a).toList == b) = decide (a = b) := by
  rw [toB_list]
  by_cases h : a = b
  · subst h; simp
  · simp [h]
set_option maxHeartbeats 4000000 in
theorem rules_plus (n : Nat) (h2 : n ≤ 12) (ta td : Tm) (oa : okT n ta = true) (od : okT n td = true) (hla : (showT ta).length ≤ 1000) (hld : (showT td).length ≤ 1000) (w : World) :
    Calls Tryd.prog 137 #[.agg #[.int .u8 43, .iface (tyT ta) (payT ta), .iface (tyT td) (payT td)]] w fun e w' => e = .returned (.iface (tyT (midT 43 ta td)) (payT (midT 43 ta td))) ∧ Below w.heap.size w w' := by
  have hmx : Tryd.prog.follows .mixedOrders = true := by kernel_rfl
  obtain ⟨T, p, k, hT, hp, hm, hcf, hX⟩ := text_face ta (texts_any n h2 ta oa hla)
  obtain ⟨T2, p2, k2, hT2, hp2, hm2, hcf2, hX2⟩ := text_face td (texts_any n h2 td od hld)
  have HX := Lib.hid hX
  have HX2 := Lib.hid hX2
  have ea : ((toB (showT ta)).toList == [101]) = decide (ta = .leaf 101) := by rw [eqT, decide_eq_decide]; exact show_leaf_eq ta 101 (by decide)
  have ed : ((toB (showT td)).toList == [101]) = decide (td = .leaf 101) := by rw [eqT, decide_eq_decide]; exact show_leaf_eq td 101 (by decide)
  have za : ((toB (showT ta)).toList == [48]) = decide (ta = .leaf 48) := by rw [eqT, decide_eq_decide]; exact show_leaf_eq ta 48 (by decide)
  have zd : ((toB (showT td)).toList == [48]) = decide (td = .leaf 48) := by rw [eqT, decide_eq_decide]; exact show_leaf_eq td 48 (by decide)
  have na : ((toB (showT ta)).toList == []) = false := by rw [eqT]; exact decide_eq_false (fun e => by have := show_pos ta; rw [e] at this; simp at this)
  have nd : ((toB (showT td)).toList == []) = false := by rw [eqT]; exact decide_eq_false (fun e => by have := show_pos td; rw [e] at this; simp at this)
  have eq : ((toB (showT ta)).toList == (toB (showT td)).toList) = decide (ta = td) := by rw [toB_list (showT td), eqT, decide_eq_decide]; exact show_eq n ta td oa od
  have HId := Lib.hid (fun W => idle_43 T T2 p p2 W)
  have HA : Hid (Ending.returned (.iface T p) = .returned (.iface (tyT ta) (payT ta))) := Lib.hid (by rw [hT, hp])
  have HD : Hid (Ending.returned (.iface T2 p2) = .returned (.iface (tyT td) (payT td))) := Lib.hid (by rw [hT2, hp2])
  have HT : Hid (Ending.returned (.iface 111 (.agg #[.int .u8 43, .iface T p, .iface T2 p2])) = .returned (.iface (tyT (.two 43 ta td)) (payT (.two 43 ta td)))) := Lib.hid (by subst hT hp hT2 hp2; rfl)
  rw [hT, hp, hT2, hp2]
  clear hT hp hT2 hp2 hX hX2 oa od hla hld
  by_cases pq : ta = td
  · have HV : Hid (midT 43 ta td = ta) := Lib.hid (by
      subst pq
      unfold midT
      rw [if_neg (fun h => h.1 rfl)]
      by_cases h : ta = .leaf 101
      · rw [if_pos ⟨by decide, h⟩]
      · rw [if_neg (fun g => h g.2), if_neg (fun g => h g.2), if_pos ⟨by decide, rfl⟩])
    rw [HV.out]
    rw [decide_eq_true pq] at eq
    clear HV pq
    generalize toB (showT ta) = X at *
    generalize toB (showT td) = Y at *
    go_enter Tryd.func137, Tryd.ntmps137
    go_wp2_with fail
    obtain ⟨W0, hW0⟩ : ∃ W0, w.alloc (.cells #[.int .u8 43, .iface T p, .iface T2 p2] 111) = W0 := ⟨_, rfl⟩
    have HF := Lib.hid (fun V hb => trio_box w W0 _ _ _ _ hW0 V hb)
    rw [hW0]
    clear hW0
    have hA0 : Below W0.heap.size W0 W0.drew := (Below.refl _ _).drew
    refine wp_region_held_drew (S := fun V => Below W0.heap.size W0 V) hmx hA0 (fun _ => ?_)
    generalize W0.drew = V0 at *
    refine take1 0 (v := ?_) rfl (by kernel_rfl) (by kernel_rfl) (by kernel_rfl) (fun _ _ _ h => h) (by rfl) ?_ hA0 ?_
    rotate_left
    · intro V9 hA
      obtain ⟨f0, f1, f2, f3⟩ := HF.out _ hA
      clear hA
      go_simp
      try with_reducible rfl
    try simp only [Act.put, List.setIfInBounds_toArray, List.set_cons_zero, List.set_cons_succ]
    refine take1 1 (v := ?_) rfl (by kernel_rfl) (by kernel_rfl) (by kernel_rfl) (fun _ _ _ h => h) (by rfl) ?_ hA0 ?_
    rotate_left
    · intro V9 hA
      obtain ⟨f0, f1, f2, f3⟩ := HF.out _ hA
      clear hA
      go_simp
      try with_reducible rfl
    try simp only [Act.put, List.setIfInBounds_toArray, List.set_cons_zero, List.set_cons_succ]
    refine take1 3 (v := ?_) rfl (by kernel_rfl) (by kernel_rfl) (by kernel_rfl) (fun _ _ _ h => h) (by rfl) ?_ hA0 ?_
    rotate_left
    · intro V9 hA
      obtain ⟨f0, f1, f2, f3⟩ := HF.out _ hA
      clear hA
      go_simp
      try with_reducible rfl
    try simp only [Act.put, List.setIfInBounds_toArray, List.set_cons_zero, List.set_cons_succ]
    refine take1 4 (v := ?_) rfl (by kernel_rfl) (by kernel_rfl) (by kernel_rfl) (fun _ _ _ h => h) (by rfl) ?_ hA0 ?_
    rotate_left
    · intro V9 hA
      obtain ⟨f0, f1, f2, f3⟩ := HF.out _ hA
      clear hA
      go_simp
      try with_reducible rfl
    try simp only [Act.put, List.setIfInBounds_toArray, List.set_cons_zero, List.set_cons_succ]
    refine step1 2 (by kernel_rfl) rfl (fun K hK => ?_)
    go_simp
    refine (HX.out _).mono ?_
    rintro e V1 ⟨rfl, hb1⟩
    go_wp2_with fail
    have hA1 := hA0.trans (hb1.mono hA0.size)
    refine hK.out _ _ hA1 ?_
    clear hK K
    try simp only [Act.put, List.setIfInBounds_toArray, List.set_cons_zero, List.set_cons_succ]
    refine step1 5 (by kernel_rfl) rfl (fun K hK => ?_)
    go_simp
    refine (HX2.out _).mono ?_
    rintro e V2 ⟨rfl, hb2⟩
    go_wp2_with fail
    have hA2 := hA1.trans (hb2.mono hA1.size)
    refine hK.out _ _ hA2 ?_
    clear hK K
    try simp only [Act.put, List.setIfInBounds_toArray, List.set_cons_zero, List.set_cons_succ]
    refine take1 6 (v := ?_) rfl (by kernel_rfl) (by kernel_rfl) (by kernel_rfl) (fun _ _ _ h => h) (by rfl) ?_ hA2 ?_
    rotate_left
    · intro V9 hA
      obtain ⟨f0, f1, f2, f3⟩ := HF.out _ hA
      clear hA
      go_simp
      try with_reducible rfl
    try simp only [Act.put, List.setIfInBounds_toArray, List.set_cons_zero, List.set_cons_succ]
    refine take1 7 (v := ?_) rfl (by kernel_rfl) (by kernel_rfl) (by kernel_rfl) (fun _ _ _ h => h) (by rfl) ?_ hA2 ?_
    rotate_left
    · intro V9 hA
      obtain ⟨f0, f1, f2, f3⟩ := HF.out _ hA
      clear hA
      go_simp
      try with_reducible rfl
    try simp only [Act.put, List.setIfInBounds_toArray, List.set_cons_zero, List.set_cons_succ]
    refine stop1 (by kernel_rfl) ?_
    obtain ⟨f0, f1, f2, hE⟩ := HF.out _ hA2
    go_wp2
    go_ret
    exact ⟨HA.out, hE⟩
  · rw [decide_eq_false pq] at eq
    by_cases pa : ta = .leaf 101
    · have HV : Hid (midT 43 ta td = td) := Lib.hid (by unfold midT; rw [if_neg (fun h => h.1 rfl), if_pos ⟨by decide, pa⟩])
      rw [HV.out]
      rw [decide_eq_true pa] at ea
      clear HV pq pa
      generalize toB (showT ta) = X at *
      generalize toB (showT td) = Y at *
      go_enter Tryd.func137, Tryd.ntmps137
      go_wp2_with fail
      obtain ⟨W0, hW0⟩ : ∃ W0, w.alloc (.cells #[.int .u8 43, .iface T p, .iface T2 p2] 111) = W0 := ⟨_, rfl⟩
      have HF := Lib.hid (fun V hb => trio_box w W0 _ _ _ _ hW0 V hb)
      rw [hW0]
      clear hW0
      have hA0 : Below W0.heap.size W0 W0.drew := (Below.refl _ _).drew
      refine wp_region_held_drew (S := fun V => Below W0.heap.size W0 V) hmx hA0 (fun _ => ?_)
      generalize W0.drew = V0 at *
      refine take1 0 (v := ?_) rfl (by kernel_rfl) (by kernel_rfl) (by kernel_rfl) (fun _ _ _ h => h) (by rfl) ?_ hA0 ?_
      rotate_left
      · intro V9 hA
        obtain ⟨f0, f1, f2, f3⟩ := HF.out _ hA
        clear hA
        go_simp
        try with_reducible rfl
      try simp only [Act.put, List.setIfInBounds_toArray, List.set_cons_zero, List.set_cons_succ]
      refine take1 1 (v := ?_) rfl (by kernel_rfl) (by kernel_rfl) (by kernel_rfl) (fun _ _ _ h => h) (by rfl) ?_ hA0 ?_
      rotate_left
      · intro V9 hA
        obtain ⟨f0, f1, f2, f3⟩ := HF.out _ hA
        clear hA
        go_simp
        try with_reducible rfl
      try simp only [Act.put, List.setIfInBounds_toArray, List.set_cons_zero, List.set_cons_succ]
      refine take1 3 (v := ?_) rfl (by kernel_rfl) (by kernel_rfl) (by kernel_rfl) (fun _ _ _ h => h) (by rfl) ?_ hA0 ?_
      rotate_left
      · intro V9 hA
        obtain ⟨f0, f1, f2, f3⟩ := HF.out _ hA
        clear hA
        go_simp
        try with_reducible rfl
      try simp only [Act.put, List.setIfInBounds_toArray, List.set_cons_zero, List.set_cons_succ]
      refine take1 4 (v := ?_) rfl (by kernel_rfl) (by kernel_rfl) (by kernel_rfl) (fun _ _ _ h => h) (by rfl) ?_ hA0 ?_
      rotate_left
      · intro V9 hA
        obtain ⟨f0, f1, f2, f3⟩ := HF.out _ hA
        clear hA
        go_simp
        try with_reducible rfl
      try simp only [Act.put, List.setIfInBounds_toArray, List.set_cons_zero, List.set_cons_succ]
      refine step1 2 (by kernel_rfl) rfl (fun K hK => ?_)
      go_simp
      refine (HX.out _).mono ?_
      rintro e V1 ⟨rfl, hb1⟩
      go_wp2_with fail
      have hA1 := hA0.trans (hb1.mono hA0.size)
      refine hK.out _ _ hA1 ?_
      clear hK K
      try simp only [Act.put, List.setIfInBounds_toArray, List.set_cons_zero, List.set_cons_succ]
      refine step1 5 (by kernel_rfl) rfl (fun K hK => ?_)
      go_simp
      refine (HX2.out _).mono ?_
      rintro e V2 ⟨rfl, hb2⟩
      go_wp2_with fail
      have hA2 := hA1.trans (hb2.mono hA1.size)
      refine hK.out _ _ hA2 ?_
      clear hK K
      try simp only [Act.put, List.setIfInBounds_toArray, List.set_cons_zero, List.set_cons_succ]
      refine take1 6 (v := ?_) rfl (by kernel_rfl) (by kernel_rfl) (by kernel_rfl) (fun _ _ _ h => h) (by rfl) ?_ hA2 ?_
      rotate_left
      · intro V9 hA
        obtain ⟨f0, f1, f2, f3⟩ := HF.out _ hA
        clear hA
        go_simp
        try with_reducible rfl
      try simp only [Act.put, List.setIfInBounds_toArray, List.set_cons_zero, List.set_cons_succ]
      refine take1 7 (v := ?_) rfl (by kernel_rfl) (by kernel_rfl) (by kernel_rfl) (fun _ _ _ h => h) (by rfl) ?_ hA2 ?_
      rotate_left
      · intro V9 hA
        obtain ⟨f0, f1, f2, f3⟩ := HF.out _ hA
        clear hA
        go_simp
        try with_reducible rfl
      try simp only [Act.put, List.setIfInBounds_toArray, List.set_cons_zero, List.set_cons_succ]
      refine stop1 (by kernel_rfl) ?_
      obtain ⟨f0, f1, f2, hE⟩ := HF.out _ hA2
      go_wp2_with fail
      refine (HId.out _).mono ?_
      rintro e x0 ⟨rfl, hi0⟩
      have hJ0 := hA2.trans (hi0.mono hA2.size)
      obtain ⟨f0, f1, f2, hE0⟩ := HF.out _ hJ0
      go_wp2
      go_ret
      exact ⟨HD.out, hE0⟩
    · rw [decide_eq_false pa] at ea
      by_cases pd : td = .leaf 101
      · have HV : Hid (midT 43 ta td = ta) := Lib.hid (by unfold midT; rw [if_neg (fun h => h.1 rfl), if_neg (fun h => pa h.2), if_pos ⟨by decide, pd⟩])
        rw [HV.out]
        rw [decide_eq_true pd] at ed
        clear HV pq pa pd
        generalize toB (showT ta) = X at *
        generalize toB (showT td) = Y at *
        go_enter Tryd.func137, Tryd.ntmps137
        go_wp2_with fail
        obtain ⟨W0, hW0⟩ : ∃ W0, w.alloc (.cells #[.int .u8 43, .iface T p, .iface T2 p2] 111) = W0 := ⟨_, rfl⟩
        have HF := Lib.hid (fun V hb => trio_box w W0 _ _ _ _ hW0 V hb)
        rw [hW0]
        clear hW0
        have hA0 : Below W0.heap.size W0 W0.drew := (Below.refl _ _).drew
        refine wp_region_held_drew (S := fun V => Below W0.heap.size W0 V) hmx hA0 (fun _ => ?_)
        generalize W0.drew = V0 at *
        refine take1 0 (v := ?_) rfl (by kernel_rfl) (by kernel_rfl) (by kernel_rfl) (fun _ _ _ h => h) (by rfl) ?_ hA0 ?_
        rotate_left
        · intro V9 hA
          obtain ⟨f0, f1, f2, f3⟩ := HF.out _ hA
          clear hA
          go_simp
          try with_reducible rfl
        try simp only [Act.put, List.setIfInBounds_toArray, List.set_cons_zero, List.set_cons_succ]
        refine take1 1 (v := ?_) rfl (by kernel_rfl) (by kernel_rfl) (by kernel_rfl) (fun _ _ _ h => h) (by rfl) ?_ hA0 ?_
        rotate_left
        · intro V9 hA
          obtain ⟨f0, f1, f2, f3⟩ := HF.out _ hA
          clear hA
          go_simp
          try with_reducible rfl
        try simp only [Act.put, List.setIfInBounds_toArray, List.set_cons_zero, List.set_cons_succ]
        refine take1 3 (v := ?_) rfl (by kernel_rfl) (by kernel_rfl) (by kernel_rfl) (fun _ _ _ h => h) (by rfl) ?_ hA0 ?_
        rotate_left
        · intro V9 hA
          obtain ⟨f0, f1, f2, f3⟩ := HF.out _ hA
          clear hA
          go_simp
          try with_reducible rfl
        try simp only [Act.put, List.setIfInBounds_toArray, List.set_cons_zero, List.set_cons_succ]
        refine take1 4 (v := ?_) rfl (by kernel_rfl) (by kernel_rfl) (by kernel_rfl) (fun _ _ _ h => h) (by rfl) ?_ hA0 ?_
        rotate_left
        · intro V9 hA
          obtain ⟨f0, f1, f2, f3⟩ := HF.out _ hA
          clear hA
          go_simp
          try with_reducible rfl
        try simp only [Act.put, List.setIfInBounds_toArray, List.set_cons_zero, List.set_cons_succ]
        refine step1 2 (by kernel_rfl) rfl (fun K hK => ?_)
        go_simp
        refine (HX.out _).mono ?_
        rintro e V1 ⟨rfl, hb1⟩
        go_wp2_with fail
        have hA1 := hA0.trans (hb1.mono hA0.size)
        refine hK.out _ _ hA1 ?_
        clear hK K
        try simp only [Act.put, List.setIfInBounds_toArray, List.set_cons_zero, List.set_cons_succ]
        refine step1 5 (by kernel_rfl) rfl (fun K hK => ?_)
        go_simp
        refine (HX2.out _).mono ?_
        rintro e V2 ⟨rfl, hb2⟩
        go_wp2_with fail
        have hA2 := hA1.trans (hb2.mono hA1.size)
        refine hK.out _ _ hA2 ?_
        clear hK K
        try simp only [Act.put, List.setIfInBounds_toArray, List.set_cons_zero, List.set_cons_succ]
        refine take1 6 (v := ?_) rfl (by kernel_rfl) (by kernel_rfl) (by kernel_rfl) (fun _ _ _ h => h) (by rfl) ?_ hA2 ?_
        rotate_left
        · intro V9 hA
          obtain ⟨f0, f1, f2, f3⟩ := HF.out _ hA
          clear hA
          go_simp
          try with_reducible rfl
        try simp only [Act.put, List.setIfInBounds_toArray, List.set_cons_zero, List.set_cons_succ]
        refine take1 7 (v := ?_) rfl (by kernel_rfl) (by kernel_rfl) (by kernel_rfl) (fun _ _ _ h => h) (by rfl) ?_ hA2 ?_
        rotate_left
        · intro V9 hA
          obtain ⟨f0, f1, f2, f3⟩ := HF.out _ hA
          clear hA
          go_simp
          try with_reducible rfl
        try simp only [Act.put, List.setIfInBounds_toArray, List.set_cons_zero, List.set_cons_succ]
        refine stop1 (by kernel_rfl) ?_
        obtain ⟨f0, f1, f2, hE⟩ := HF.out _ hA2
        go_wp2_with fail
        refine (HId.out _).mono ?_
        rintro e x0 ⟨rfl, hi0⟩
        have hJ0 := hA2.trans (hi0.mono hA2.size)
        obtain ⟨f0, f1, f2, hE0⟩ := HF.out _ hJ0
        go_wp2_with fail
        refine (HId.out _).mono ?_
        rintro e x1 ⟨rfl, hi1⟩
        have hJ1 := hJ0.trans (hi1.mono hJ0.size)
        obtain ⟨f0, f1, f2, hE1⟩ := HF.out _ hJ1
        go_wp2
        go_ret
        exact ⟨HA.out, hE1⟩
      · have HV : Hid (midT 43 ta td = .two 43 ta td) := Lib.hid (by unfold midT; rw [if_neg (fun h => h.1 rfl), if_neg (fun h => pa h.2), if_neg (fun h => pd h.2), if_neg (fun h => pq h.2)])
        rw [HV.out]
        rw [decide_eq_false pd] at ed
        clear HV pq pa pd
        generalize toB (showT ta) = X at *
        generalize toB (showT td) = Y at *
        go_enter Tryd.func137, Tryd.ntmps137
        go_wp2_with fail
        obtain ⟨W0, hW0⟩ : ∃ W0, w.alloc (.cells #[.int .u8 43, .iface T p, .iface T2 p2] 111) = W0 := ⟨_, rfl⟩
        have HF := Lib.hid (fun V hb => trio_box w W0 _ _ _ _ hW0 V hb)
        rw [hW0]
        clear hW0
        have hA0 : Below W0.heap.size W0 W0.drew := (Below.refl _ _).drew
        refine wp_region_held_drew (S := fun V => Below W0.heap.size W0 V) hmx hA0 (fun _ => ?_)
        generalize W0.drew = V0 at *
        refine take1 0 (v := ?_) rfl (by kernel_rfl) (by kernel_rfl) (by kernel_rfl) (fun _ _ _ h => h) (by rfl) ?_ hA0 ?_
        rotate_left
        · intro V9 hA
          obtain ⟨f0, f1, f2, f3⟩ := HF.out _ hA
          clear hA
          go_simp
          try with_reducible rfl
        try simp only [Act.put, List.setIfInBounds_toArray, List.set_cons_zero, List.set_cons_succ]
        refine take1 1 (v := ?_) rfl (by kernel_rfl) (by kernel_rfl) (by kernel_rfl) (fun _ _ _ h => h) (by rfl) ?_ hA0 ?_
        rotate_left
        · intro V9 hA
          obtain ⟨f0, f1, f2, f3⟩ := HF.out _ hA
          clear hA
          go_simp
          try with_reducible rfl
        try simp only [Act.put, List.setIfInBounds_toArray, List.set_cons_zero, List.set_cons_succ]
        refine take1 3 (v := ?_) rfl (by kernel_rfl) (by kernel_rfl) (by kernel_rfl) (fun _ _ _ h => h) (by rfl) ?_ hA0 ?_
        rotate_left
        · intro V9 hA
          obtain ⟨f0, f1, f2, f3⟩ := HF.out _ hA
          clear hA
          go_simp
          try with_reducible rfl
        try simp only [Act.put, List.setIfInBounds_toArray, List.set_cons_zero, List.set_cons_succ]
        refine take1 4 (v := ?_) rfl (by kernel_rfl) (by kernel_rfl) (by kernel_rfl) (fun _ _ _ h => h) (by rfl) ?_ hA0 ?_
        rotate_left
        · intro V9 hA
          obtain ⟨f0, f1, f2, f3⟩ := HF.out _ hA
          clear hA
          go_simp
          try with_reducible rfl
        try simp only [Act.put, List.setIfInBounds_toArray, List.set_cons_zero, List.set_cons_succ]
        refine step1 2 (by kernel_rfl) rfl (fun K hK => ?_)
        go_simp
        refine (HX.out _).mono ?_
        rintro e V1 ⟨rfl, hb1⟩
        go_wp2_with fail
        have hA1 := hA0.trans (hb1.mono hA0.size)
        refine hK.out _ _ hA1 ?_
        clear hK K
        try simp only [Act.put, List.setIfInBounds_toArray, List.set_cons_zero, List.set_cons_succ]
        refine step1 5 (by kernel_rfl) rfl (fun K hK => ?_)
        go_simp
        refine (HX2.out _).mono ?_
        rintro e V2 ⟨rfl, hb2⟩
        go_wp2_with fail
        have hA2 := hA1.trans (hb2.mono hA1.size)
        refine hK.out _ _ hA2 ?_
        clear hK K
        try simp only [Act.put, List.setIfInBounds_toArray, List.set_cons_zero, List.set_cons_succ]
        refine take1 6 (v := ?_) rfl (by kernel_rfl) (by kernel_rfl) (by kernel_rfl) (fun _ _ _ h => h) (by rfl) ?_ hA2 ?_
        rotate_left
        · intro V9 hA
          obtain ⟨f0, f1, f2, f3⟩ := HF.out _ hA
          clear hA
          go_simp
          try with_reducible rfl
        try simp only [Act.put, List.setIfInBounds_toArray, List.set_cons_zero, List.set_cons_succ]
        refine take1 7 (v := ?_) rfl (by kernel_rfl) (by kernel_rfl) (by kernel_rfl) (fun _ _ _ h => h) (by rfl) ?_ hA2 ?_
        rotate_left
        · intro V9 hA
          obtain ⟨f0, f1, f2, f3⟩ := HF.out _ hA
          clear hA
          go_simp
          try with_reducible rfl
        try simp only [Act.put, List.setIfInBounds_toArray, List.set_cons_zero, List.set_cons_succ]
        refine stop1 (by kernel_rfl) ?_
        obtain ⟨f0, f1, f2, hE⟩ := HF.out _ hA2
        go_wp2_with fail
        refine (HId.out _).mono ?_
        rintro e x0 ⟨rfl, hi0⟩
        have hJ0 := hA2.trans (hi0.mono hA2.size)
        obtain ⟨f0, f1, f2, hE0⟩ := HF.out _ hJ0
        go_wp2_with fail
        refine (HId.out _).mono ?_
        rintro e x1 ⟨rfl, hi1⟩
        have hJ1 := hJ0.trans (hi1.mono hJ0.size)
        obtain ⟨f0, f1, f2, hE1⟩ := HF.out _ hJ1
        go_wp2
        go_ret
        exact ⟨HT.out, hE1⟩
set_option maxHeartbeats 4000000 in
theorem rules_and (n : Nat) (h2 : n ≤ 12) (ta td : Tm) (oa : okT n ta = true) (od : okT n td = true) (hla : (showT ta).length ≤ 1000) (hld : (showT td).length ≤ 1000) (w : World) :
    Calls Tryd.prog 137 #[.agg #[.int .u8 38, .iface (tyT ta) (payT ta), .iface (tyT td) (payT td)]] w fun e w' => e = .returned (.iface (tyT (midT 38 ta td)) (payT (midT 38 ta td))) ∧ Below w.heap.size w w' := by
  have hmx : Tryd.prog.follows .mixedOrders = true := by kernel_rfl
  obtain ⟨T, p, k, hT, hp, hm, hcf, hX⟩ := text_face ta (texts_any n h2 ta oa hla)
  obtain ⟨T2, p2, k2, hT2, hp2, hm2, hcf2, hX2⟩ := text_face td (texts_any n h2 td od hld)
  have HX := Lib.hid hX
  have HX2 := Lib.hid hX2
  have ea : ((toB (showT ta)).toList == [101]) = decide (ta = .leaf 101) := by rw [eqT, decide_eq_decide]; exact show_leaf_eq ta 101 (by decide)
  have ed : ((toB (showT td)).toList == [101]) = decide (td = .leaf 101) := by rw [eqT, decide_eq_decide]; exact show_leaf_eq td 101 (by decide)
  have za : ((toB (showT ta)).toList == [48]) = decide (ta = .leaf 48) := by rw [eqT, decide_eq_decide]; exact show_leaf_eq ta 48 (by decide)
  have zd : ((toB (showT td)).toList == [48]) = decide (td = .leaf 48) := by rw [eqT, decide_eq_decide]; exact show_leaf_eq td 48 (by decide)
  have na : ((toB (showT ta)).toList == []) = false := by rw [eqT]; exact decide_eq_false (fun e => by have := show_pos ta; rw [e] at this; simp at this)
  have nd : ((toB (showT td)).toList == []) = false := by rw [eqT]; exact decide_eq_false (fun e => by have := show_pos td; rw [e] at this; simp at this)
  have eq : ((toB (showT ta)).toList == (toB (showT td)).toList) = decide (ta = td) := by rw [toB_list (showT td), eqT, decide_eq_decide]; exact show_eq n ta td oa od
  have HId := Lib.hid (fun W => idle_38 T T2 p p2 W)
  have HA : Hid (Ending.returned (.iface T p) = .returned (.iface (tyT ta) (payT ta))) := Lib.hid (by rw [hT, hp])
  have HD : Hid (Ending.returned (.iface T2 p2) = .returned (.iface (tyT td) (payT td))) := Lib.hid (by rw [hT2, hp2])
  have HT : Hid (Ending.returned (.iface 111 (.agg #[.int .u8 38, .iface T p, .iface T2 p2])) = .returned (.iface (tyT (.two 38 ta td)) (payT (.two 38 ta td)))) := Lib.hid (by subst hT hp hT2 hp2; rfl)
  rw [hT, hp, hT2, hp2]
  clear hT hp hT2 hp2 hX hX2 oa od hla hld
  by_cases pq : ta = td
  · have HV : Hid (midT 38 ta td = ta) := Lib.hid (by
      subst pq
      unfold midT
      by_cases h : ta = .leaf 101
      · rw [if_pos ⟨by decide, .inl h⟩, h]
      · rw [if_neg (fun g => by rcases g.2 with g | g <;> exact h g), if_neg (fun g => g.1 rfl), if_neg (fun g => g.1 rfl), if_pos ⟨by decide, rfl⟩])
    rw [HV.out]
    rw [decide_eq_true pq] at eq
    clear HV pq
    generalize toB (showT ta) = X at *
    generalize toB (showT td) = Y at *
    go_enter Tryd.func137, Tryd.ntmps137
    go_wp2_with fail
    obtain ⟨W0, hW0⟩ : ∃ W0, w.alloc (.cells #[.int .u8 38, .iface T p, .iface T2 p2] 111) = W0 := ⟨_, rfl⟩
    have HF := Lib.hid (fun V hb => trio_box w W0 _ _ _ _ hW0 V hb)
    rw [hW0]
    clear hW0
    have hA0 : Below W0.heap.size W0 W0.drew := (Below.refl _ _).drew
    refine wp_region_held_drew (S := fun V => Below W0.heap.size W0 V) hmx hA0 (fun _ => ?_)
    generalize W0.drew = V0 at *
    refine take1 0 (v := ?_) rfl (by kernel_rfl) (by kernel_rfl) (by kernel_rfl) (fun _ _ _ h => h) (by rfl) ?_ hA0 ?_
    rotate_left
    · intro V9 hA
      obtain ⟨f0, f1, f2, f3⟩ := HF.out _ hA
      clear hA
      go_simp
      try with_reducible rfl
    try simp only [Act.put, List.setIfInBounds_toArray, List.set_cons_zero, List.set_cons_succ]
    refine take1 1 (v := ?_) rfl (by kernel_rfl) (by kernel_rfl) (by kernel_rfl) (fun _ _ _ h => h) (by rfl) ?_ hA0 ?_
    rotate_left
    · intro V9 hA
      obtain ⟨f0, f1, f2, f3⟩ := HF.out _ hA
      clear hA
      go_simp
      try with_reducible rfl
    try simp only [Act.put, List.setIfInBounds_toArray, List.set_cons_zero, List.set_cons_succ]
    refine take1 3 (v := ?_) rfl (by kernel_rfl) (by kernel_rfl) (by kernel_rfl) (fun _ _ _ h => h) (by rfl) ?_ hA0 ?_
    rotate_left
    · intro V9 hA
      obtain ⟨f0, f1, f2, f3⟩ := HF.out _ hA
      clear hA
      go_simp
      try with_reducible rfl
    try simp only [Act.put, List.setIfInBounds_toArray, List.set_cons_zero, List.set_cons_succ]
    refine take1 4 (v := ?_) rfl (by kernel_rfl) (by kernel_rfl) (by kernel_rfl) (fun _ _ _ h => h) (by rfl) ?_ hA0 ?_
    rotate_left
    · intro V9 hA
      obtain ⟨f0, f1, f2, f3⟩ := HF.out _ hA
      clear hA
      go_simp
      try with_reducible rfl
    try simp only [Act.put, List.setIfInBounds_toArray, List.set_cons_zero, List.set_cons_succ]
    refine step1 2 (by kernel_rfl) rfl (fun K hK => ?_)
    go_simp
    refine (HX.out _).mono ?_
    rintro e V1 ⟨rfl, hb1⟩
    go_wp2_with fail
    have hA1 := hA0.trans (hb1.mono hA0.size)
    refine hK.out _ _ hA1 ?_
    clear hK K
    try simp only [Act.put, List.setIfInBounds_toArray, List.set_cons_zero, List.set_cons_succ]
    refine step1 5 (by kernel_rfl) rfl (fun K hK => ?_)
    go_simp
    refine (HX2.out _).mono ?_
    rintro e V2 ⟨rfl, hb2⟩
    go_wp2_with fail
    have hA2 := hA1.trans (hb2.mono hA1.size)
    refine hK.out _ _ hA2 ?_
    clear hK K
    try simp only [Act.put, List.setIfInBounds_toArray, List.set_cons_zero, List.set_cons_succ]
    refine take1 6 (v := ?_) rfl (by kernel_rfl) (by kernel_rfl) (by kernel_rfl) (fun _ _ _ h => h) (by rfl) ?_ hA2 ?_
    rotate_left
    · intro V9 hA
      obtain ⟨f0, f1, f2, f3⟩ := HF.out _ hA
      clear hA
      go_simp
      try with_reducible rfl
    try simp only [Act.put, List.setIfInBounds_toArray, List.set_cons_zero, List.set_cons_succ]
    refine take1 7 (v := ?_) rfl (by kernel_rfl) (by kernel_rfl) (by kernel_rfl) (fun _ _ _ h => h) (by rfl) ?_ hA2 ?_
    rotate_left
    · intro V9 hA
      obtain ⟨f0, f1, f2, f3⟩ := HF.out _ hA
      clear hA
      go_simp
      try with_reducible rfl
    try simp only [Act.put, List.setIfInBounds_toArray, List.set_cons_zero, List.set_cons_succ]
    refine stop1 (by kernel_rfl) ?_
    obtain ⟨f0, f1, f2, hE⟩ := HF.out _ hA2
    go_wp2
    go_ret
    exact ⟨HA.out, hE⟩
  · rw [decide_eq_false pq] at eq
    by_cases pe : ta = .leaf 101 ∨ td = .leaf 101
    · have HV : Hid (midT 38 ta td = .leaf 101) := Lib.hid (by unfold midT; rw [if_pos ⟨by decide, pe⟩])
      rw [HV.out]
      by_cases pa : ta = .leaf 101
      · rw [decide_eq_true pa] at ea
        clear HV pq pa pe
        generalize toB (showT ta) = X at *
        generalize toB (showT td) = Y at *
        go_enter Tryd.func137, Tryd.ntmps137
        go_wp2_with fail
        obtain ⟨W0, hW0⟩ : ∃ W0, w.alloc (.cells #[.int .u8 38, .iface T p, .iface T2 p2] 111) = W0 := ⟨_, rfl⟩
        have HF := Lib.hid (fun V hb => trio_box w W0 _ _ _ _ hW0 V hb)
        rw [hW0]
        clear hW0
        have hA0 : Below W0.heap.size W0 W0.drew := (Below.refl _ _).drew
        refine wp_region_held_drew (S := fun V => Below W0.heap.size W0 V) hmx hA0 (fun _ => ?_)
        generalize W0.drew = V0 at *
        refine take1 0 (v := ?_) rfl (by kernel_rfl) (by kernel_rfl) (by kernel_rfl) (fun _ _ _ h => h) (by rfl) ?_ hA0 ?_
        rotate_left
        · intro V9 hA
          obtain ⟨f0, f1, f2, f3⟩ := HF.out _ hA
          clear hA
          go_simp
          try with_reducible rfl
        try simp only [Act.put, List.setIfInBounds_toArray, List.set_cons_zero, List.set_cons_succ]
        refine take1 1 (v := ?_) rfl (by kernel_rfl) (by kernel_rfl) (by kernel_rfl) (fun _ _ _ h => h) (by rfl) ?_ hA0 ?_
        rotate_left
        · intro V9 hA
          obtain ⟨f0, f1, f2, f3⟩ := HF.out _ hA
          clear hA
          go_simp
          try with_reducible rfl
        try simp only [Act.put, List.setIfInBounds_toArray, List.set_cons_zero, List.set_cons_succ]
        refine take1 3 (v := ?_) rfl (by kernel_rfl) (by kernel_rfl) (by kernel_rfl) (fun _ _ _ h => h) (by rfl) ?_ hA0 ?_
        rotate_left
        · intro V9 hA
          obtain ⟨f0, f1, f2, f3⟩ := HF.out _ hA
          clear hA
          go_simp
          try with_reducible rfl
        try simp only [Act.put, List.setIfInBounds_toArray, List.set_cons_zero, List.set_cons_succ]
        refine take1 4 (v := ?_) rfl (by kernel_rfl) (by kernel_rfl) (by kernel_rfl) (fun _ _ _ h => h) (by rfl) ?_ hA0 ?_
        rotate_left
        · intro V9 hA
          obtain ⟨f0, f1, f2, f3⟩ := HF.out _ hA
          clear hA
          go_simp
          try with_reducible rfl
        try simp only [Act.put, List.setIfInBounds_toArray, List.set_cons_zero, List.set_cons_succ]
        refine step1 2 (by kernel_rfl) rfl (fun K hK => ?_)
        go_simp
        refine (HX.out _).mono ?_
        rintro e V1 ⟨rfl, hb1⟩
        go_wp2_with fail
        have hA1 := hA0.trans (hb1.mono hA0.size)
        refine hK.out _ _ hA1 ?_
        clear hK K
        try simp only [Act.put, List.setIfInBounds_toArray, List.set_cons_zero, List.set_cons_succ]
        refine step1 5 (by kernel_rfl) rfl (fun K hK => ?_)
        go_simp
        refine (HX2.out _).mono ?_
        rintro e V2 ⟨rfl, hb2⟩
        go_wp2_with fail
        have hA2 := hA1.trans (hb2.mono hA1.size)
        refine hK.out _ _ hA2 ?_
        clear hK K
        try simp only [Act.put, List.setIfInBounds_toArray, List.set_cons_zero, List.set_cons_succ]
        refine take1 6 (v := ?_) rfl (by kernel_rfl) (by kernel_rfl) (by kernel_rfl) (fun _ _ _ h => h) (by rfl) ?_ hA2 ?_
        rotate_left
        · intro V9 hA
          obtain ⟨f0, f1, f2, f3⟩ := HF.out _ hA
          clear hA
          go_simp
          try with_reducible rfl
        try simp only [Act.put, List.setIfInBounds_toArray, List.set_cons_zero, List.set_cons_succ]
        refine take1 7 (v := ?_) rfl (by kernel_rfl) (by kernel_rfl) (by kernel_rfl) (fun _ _ _ h => h) (by rfl) ?_ hA2 ?_
        rotate_left
        · intro V9 hA
          obtain ⟨f0, f1, f2, f3⟩ := HF.out _ hA
          clear hA
          go_simp
          try with_reducible rfl
        try simp only [Act.put, List.setIfInBounds_toArray, List.set_cons_zero, List.set_cons_succ]
        refine stop1 (by kernel_rfl) ?_
        obtain ⟨f0, f1, f2, hE⟩ := HF.out _ hA2
        go_wp2
        go_ret
        exact ⟨rfl, hE⟩
      · rw [decide_eq_false pa] at ea
        rw [decide_eq_true (pe.resolve_left pa)] at ed
        clear HV pq pa pe
        generalize toB (showT ta) = X at *
        generalize toB (showT td) = Y at *
        go_enter Tryd.func137, Tryd.ntmps137
        go_wp2_with fail
        obtain ⟨W0, hW0⟩ : ∃ W0, w.alloc (.cells #[.int .u8 38, .iface T p, .iface T2 p2] 111) = W0 := ⟨_, rfl⟩
        have HF := Lib.hid (fun V hb => trio_box w W0 _ _ _ _ hW0 V hb)
        rw [hW0]
        clear hW0
        have hA0 : Below W0.heap.size W0 W0.drew := (Below.refl _ _).drew
        refine wp_region_held_drew (S := fun V => Below W0.heap.size W0 V) hmx hA0 (fun _ => ?_)
        generalize W0.drew = V0 at *
        refine take1 0 (v := ?_) rfl (by kernel_rfl) (by kernel_rfl) (by kernel_rfl) (fun _ _ _ h => h) (by rfl) ?_ hA0 ?_
        rotate_left
        · intro V9 hA
          obtain ⟨f0, f1, f2, f3⟩ := HF.out _ hA
          clear hA
          go_simp
          try with_reducible rfl
        try simp only [Act.put, List.setIfInBounds_toArray, List.set_cons_zero, List.set_cons_succ]
        refine take1 1 (v := ?_) rfl (by kernel_rfl) (by kernel_rfl) (by kernel_rfl) (fun _ _ _ h => h) (by rfl) ?_ hA0 ?_
        rotate_left
        · intro V9 hA
          obtain ⟨f0, f1, f2, f3⟩ := HF.out _ hA
          clear hA
          go_simp
          try with_reducible rfl
        try simp only [Act.put, List.setIfInBounds_toArray, List.set_cons_zero, List.set_cons_succ]
        refine take1 3 (v := ?_) rfl (by kernel_rfl) (by kernel_rfl) (by kernel_rfl) (fun _ _ _ h => h) (by rfl) ?_ hA0 ?_
        rotate_left
        · intro V9 hA
          obtain ⟨f0, f1, f2, f3⟩ := HF.out _ hA
          clear hA
          go_simp
          try with_reducible rfl
        try simp only [Act.put, List.setIfInBounds_toArray, List.set_cons_zero, List.set_cons_succ]
        refine take1 4 (v := ?_) rfl (by kernel_rfl) (by kernel_rfl) (by kernel_rfl) (fun _ _ _ h => h) (by rfl) ?_ hA0 ?_
        rotate_left
        · intro V9 hA
          obtain ⟨f0, f1, f2, f3⟩ := HF.out _ hA
          clear hA
          go_simp
          try with_reducible rfl
        try simp only [Act.put, List.setIfInBounds_toArray, List.set_cons_zero, List.set_cons_succ]
        refine step1 2 (by kernel_rfl) rfl (fun K hK => ?_)
        go_simp
        refine (HX.out _).mono ?_
        rintro e V1 ⟨rfl, hb1⟩
        go_wp2_with fail
        have hA1 := hA0.trans (hb1.mono hA0.size)
        refine hK.out _ _ hA1 ?_
        clear hK K
        try simp only [Act.put, List.setIfInBounds_toArray, List.set_cons_zero, List.set_cons_succ]
        refine step1 5 (by kernel_rfl) rfl (fun K hK => ?_)
        go_simp
        refine (HX2.out _).mono ?_
        rintro e V2 ⟨rfl, hb2⟩
        go_wp2_with fail
        have hA2 := hA1.trans (hb2.mono hA1.size)
        refine hK.out _ _ hA2 ?_
        clear hK K
        try simp only [Act.put, List.setIfInBounds_toArray, List.set_cons_zero, List.set_cons_succ]
        refine take1 6 (v := ?_) rfl (by kernel_rfl) (by kernel_rfl) (by kernel_rfl) (fun _ _ _ h => h) (by rfl) ?_ hA2 ?_
        rotate_left
        · intro V9 hA
          obtain ⟨f0, f1, f2, f3⟩ := HF.out _ hA
          clear hA
          go_simp
          try with_reducible rfl
        try simp only [Act.put, List.setIfInBounds_toArray, List.set_cons_zero, List.set_cons_succ]
        refine take1 7 (v := ?_) rfl (by kernel_rfl) (by kernel_rfl) (by kernel_rfl) (fun _ _ _ h => h) (by rfl) ?_ hA2 ?_
        rotate_left
        · intro V9 hA
          obtain ⟨f0, f1, f2, f3⟩ := HF.out _ hA
          clear hA
          go_simp
          try with_reducible rfl
        try simp only [Act.put, List.setIfInBounds_toArray, List.set_cons_zero, List.set_cons_succ]
        refine stop1 (by kernel_rfl) ?_
        obtain ⟨f0, f1, f2, hE⟩ := HF.out _ hA2
        go_wp2
        go_ret
        exact ⟨rfl, hE⟩
    · have HV : Hid (midT 38 ta td = .two 38 ta td) := Lib.hid (by unfold midT; rw [if_neg (fun h => pe h.2), if_neg (fun h => h.1 rfl), if_neg (fun h => h.1 rfl), if_neg (fun h => pq h.2)])
      rw [HV.out]
      rw [decide_eq_false (fun e => pe (.inl e))] at ea
      rw [decide_eq_false (fun e => pe (.inr e))] at ed
      clear HV pq pe
      generalize toB (showT ta) = X at *
      generalize toB (showT td) = Y at *
      go_enter Tryd.func137, Tryd.ntmps137
      go_wp2_with fail
      obtain ⟨W0, hW0⟩ : ∃ W0, w.alloc (.cells #[.int .u8 38, .iface T p, .iface T2 p2] 111) = W0 := ⟨_, rfl⟩
      have HF := Lib.hid (fun V hb => trio_box w W0 _ _ _ _ hW0 V hb)
      rw [hW0]
      clear hW0
      have hA0 : Below W0.heap.size W0 W0.drew := (Below.refl _ _).drew
      refine wp_region_held_drew (S := fun V => Below W0.heap.size W0 V) hmx hA0 (fun _ => ?_)
      generalize W0.drew = V0 at *
      refine take1 0 (v := ?_) rfl (by kernel_rfl) (by kernel_rfl) (by kernel_rfl) (fun _ _ _ h => h) (by rfl) ?_ hA0 ?_
      rotate_left
      · intro V9 hA
        obtain ⟨f0, f1, f2, f3⟩ := HF.out _ hA
        clear hA
        go_simp
        try with_reducible rfl
      try simp only [Act.put, List.setIfInBounds_toArray, List.set_cons_zero, List.set_cons_succ]
      refine take1 1 (v := ?_) rfl (by kernel_rfl) (by kernel_rfl) (by kernel_rfl) (fun _ _ _ h => h) (by rfl) ?_ hA0 ?_
      rotate_left
      · intro V9 hA
        obtain ⟨f0, f1, f2, f3⟩ := HF.out _ hA
        clear hA
        go_simp
        try with_reducible rfl
      try simp only [Act.put, List.setIfInBounds_toArray, List.set_cons_zero, List.set_cons_succ]
      refine take1 3 (v := ?_) rfl (by kernel_rfl) (by kernel_rfl) (by kernel_rfl) (fun _ _ _ h => h) (by rfl) ?_ hA0 ?_
      rotate_left
      · intro V9 hA
        obtain ⟨f0, f1, f2, f3⟩ := HF.out _ hA
        clear hA
        go_simp
        try with_reducible rfl
      try simp only [Act.put, List.setIfInBounds_toArray, List.set_cons_zero, List.set_cons_succ]
      refine take1 4 (v := ?_) rfl (by kernel_rfl) (by kernel_rfl) (by kernel_rfl) (fun _ _ _ h => h) (by rfl) ?_ hA0 ?_
      rotate_left
      · intro V9 hA
        obtain ⟨f0, f1, f2, f3⟩ := HF.out _ hA
        clear hA
        go_simp
        try with_reducible rfl
      try simp only [Act.put, List.setIfInBounds_toArray, List.set_cons_zero, List.set_cons_succ]
      refine step1 2 (by kernel_rfl) rfl (fun K hK => ?_)
      go_simp
      refine (HX.out _).mono ?_
      rintro e V1 ⟨rfl, hb1⟩
      go_wp2_with fail
      have hA1 := hA0.trans (hb1.mono hA0.size)
      refine hK.out _ _ hA1 ?_
      clear hK K
      try simp only [Act.put, List.setIfInBounds_toArray, List.set_cons_zero, List.set_cons_succ]
      refine step1 5 (by kernel_rfl) rfl (fun K hK => ?_)
      go_simp
      refine (HX2.out _).mono ?_
      rintro e V2 ⟨rfl, hb2⟩
      go_wp2_with fail
      have hA2 := hA1.trans (hb2.mono hA1.size)
      refine hK.out _ _ hA2 ?_
      clear hK K
      try simp only [Act.put, List.setIfInBounds_toArray, List.set_cons_zero, List.set_cons_succ]
      refine take1 6 (v := ?_) rfl (by kernel_rfl) (by kernel_rfl) (by kernel_rfl) (fun _ _ _ h => h) (by rfl) ?_ hA2 ?_
      rotate_left
      · intro V9 hA
        obtain ⟨f0, f1, f2, f3⟩ := HF.out _ hA
        clear hA
        go_simp
        try with_reducible rfl
      try simp only [Act.put, List.setIfInBounds_toArray, List.set_cons_zero, List.set_cons_succ]
      refine take1 7 (v := ?_) rfl (by kernel_rfl) (by kernel_rfl) (by kernel_rfl) (fun _ _ _ h => h) (by rfl) ?_ hA2 ?_
      rotate_left
      · intro V9 hA
        obtain ⟨f0, f1, f2, f3⟩ := HF.out _ hA
        clear hA
        go_simp
        try with_reducible rfl
      try simp only [Act.put, List.setIfInBounds_toArray, List.set_cons_zero, List.set_cons_succ]
      refine stop1 (by kernel_rfl) ?_
      obtain ⟨f0, f1, f2, hE⟩ := HF.out _ hA2
      go_wp2_with fail
      refine (HId.out _).mono ?_
      rintro e x0 ⟨rfl, hi0⟩
      have hJ0 := hA2.trans (hi0.mono hA2.size)
      obtain ⟨f0, f1, f2, hE0⟩ := HF.out _ hJ0
      go_wp2_with fail
      refine (HId.out _).mono ?_
      rintro e x1 ⟨rfl, hi1⟩
      have hJ1 := hJ0.trans (hi1.mono hJ0.size)
      obtain ⟨f0, f1, f2, hE1⟩ := HF.out _ hJ1
      go_wp2
      go_ret
      exact ⟨HT.out, hE1⟩
set_option maxHeartbeats 4000000 in
theorem rules_point (n : Nat) (h2 : n ≤ 12) (ta td : Tm) (oa : okT n ta = true) (od : okT n td = true) (hla : (showT ta).length ≤ 1000) (hld : (showT td).length ≤ 1000) (w : World) :
    Calls Tryd.prog 137 #[.agg #[.int .u8 46, .iface (tyT ta) (payT ta), .iface (tyT td) (payT td)]] w fun e w' => e = .returned (.iface (tyT (midT 46 ta td)) (payT (midT 46 ta td))) ∧ Below w.heap.size w w' := by
  have hmx : Tryd.prog.follows .mixedOrders = true := by kernel_rfl
  obtain ⟨T, p, k, hT, hp, hm, hcf, hX⟩ := text_face ta (texts_any n h2 ta oa hla)
  obtain ⟨T2, p2, k2, hT2, hp2, hm2, hcf2, hX2⟩ := text_face td (texts_any n h2 td od hld)
  have HX := Lib.hid hX
  have HX2 := Lib.hid hX2
  have ea : ((toB (showT ta)).toList == [101]) = decide (ta = .leaf 101) := by rw [eqT, decide_eq_decide]; exact show_leaf_eq ta 101 (by decide)
  have ed : ((toB (showT td)).toList == [101]) = decide (td = .leaf 101) := by rw [eqT, decide_eq_decide]; exact show_leaf_eq td 101 (by decide)
  have za : ((toB (showT ta)).toList == [48]) = decide (ta = .leaf 48) := by rw [eqT, decide_eq_decide]; exact show_leaf_eq ta 48 (by decide)
  have zd : ((toB (showT td)).toList == [48]) = decide (td = .leaf 48) := by rw [eqT, decide_eq_decide]; exact show_leaf_eq td 48 (by decide)
  have na : ((toB (showT ta)).toList == []) = false := by rw [eqT]; exact decide_eq_false (fun e => by have := show_pos ta; rw [e] at this; simp at this)
  have nd : ((toB (showT td)).toList == []) = false := by rw [eqT]; exact decide_eq_false (fun e => by have := show_pos td; rw [e] at this; simp at this)
  have eq : ((toB (showT ta)).toList == (toB (showT td)).toList) = decide (ta = td) := by rw [toB_list (showT td), eqT, decide_eq_decide]; exact show_eq n ta td oa od
  have HId := Lib.hid (fun W => idle_46 T T2 p p2 W)
  have HA : Hid (Ending.returned (.iface T p) = .returned (.iface (tyT ta) (payT ta))) := Lib.hid (by rw [hT, hp])
  have HD : Hid (Ending.returned (.iface T2 p2) = .returned (.iface (tyT td) (payT td))) := Lib.hid (by rw [hT2, hp2])
  have HT : Hid (Ending.returned (.iface 111 (.agg #[.int .u8 46, .iface T p, .iface T2 p2])) = .returned (.iface (tyT (.two 46 ta td)) (payT (.two 46 ta td)))) := Lib.hid (by subst hT hp hT2 hp2; rfl)
  rw [hT, hp, hT2, hp2]
  clear hT hp hT2 hp2 hX hX2 oa od hla hld
  by_cases pe : ta = .leaf 101 ∨ td = .leaf 101
  · have HV : Hid (midT 46 ta td = .leaf 101) := Lib.hid (by unfold midT; rw [if_pos ⟨by decide, pe⟩])
    rw [HV.out]
    by_cases pa : ta = .leaf 101
    · rw [decide_eq_true pa] at ea
      clear HV pa pe
      generalize toB (showT ta) = X at *
      generalize toB (showT td) = Y at *
      go_enter Tryd.func137, Tryd.ntmps137
      go_wp2_with fail
      obtain ⟨W0, hW0⟩ : ∃ W0, w.alloc (.cells #[.int .u8 46, .iface T p, .iface T2 p2] 111) = W0 := ⟨_, rfl⟩
      have HF := Lib.hid (fun V hb => trio_box w W0 _ _ _ _ hW0 V hb)
      rw [hW0]
      clear hW0
      have hA0 : Below W0.heap.size W0 W0.drew := (Below.refl _ _).drew
      refine wp_region_held_drew (S := fun V => Below W0.heap.size W0 V) hmx hA0 (fun _ => ?_)
      generalize W0.drew = V0 at *
      refine take1 0 (v := ?_) rfl (by kernel_rfl) (by kernel_rfl) (by kernel_rfl) (fun _ _ _ h => h) (by rfl) ?_ hA0 ?_
      rotate_left
      · intro V9 hA
        obtain ⟨f0, f1, f2, f3⟩ := HF.out _ hA
        clear hA
        go_simp
        try with_reducible rfl
      try simp only [Act.put, List.setIfInBounds_toArray, List.set_cons_zero, List.set_cons_succ]
      refine take1 1 (v := ?_) rfl (by kernel_rfl) (by kernel_rfl) (by kernel_rfl) (fun _ _ _ h => h) (by rfl) ?_ hA0 ?_
      rotate_left
      · intro V9 hA
        obtain ⟨f0, f1, f2, f3⟩ := HF.out _ hA
        clear hA
        go_simp
        try with_reducible rfl
      try simp only [Act.put, List.setIfInBounds_toArray, List.set_cons_zero, List.set_cons_succ]
      refine take1 3 (v := ?_) rfl (by kernel_rfl) (by kernel_rfl) (by kernel_rfl) (fun _ _ _ h => h) (by rfl) ?_ hA0 ?_
      rotate_left
      · intro V9 hA
        obtain ⟨f0, f1, f2, f3⟩ := HF.out _ hA
        clear hA
        go_simp
        try with_reducible rfl
      try simp only [Act.put, List.setIfInBounds_toArray, List.set_cons_zero, List.set_cons_succ]
      refine take1 4 (v := ?_) rfl (by kernel_rfl) (by kernel_rfl) (by kernel_rfl) (fun _ _ _ h => h) (by rfl) ?_ hA0 ?_
      rotate_left
      · intro V9 hA
        obtain ⟨f0, f1, f2, f3⟩ := HF.out _ hA
        clear hA
        go_simp
        try with_reducible rfl
      try simp only [Act.put, List.setIfInBounds_toArray, List.set_cons_zero, List.set_cons_succ]
      refine step1 2 (by kernel_rfl) rfl (fun K hK => ?_)
      go_simp
      refine (HX.out _).mono ?_
      rintro e V1 ⟨rfl, hb1⟩
      go_wp2_with fail
      have hA1 := hA0.trans (hb1.mono hA0.size)
      refine hK.out _ _ hA1 ?_
      clear hK K
      try simp only [Act.put, List.setIfInBounds_toArray, List.set_cons_zero, List.set_cons_succ]
      refine step1 5 (by kernel_rfl) rfl (fun K hK => ?_)
      go_simp
      refine (HX2.out _).mono ?_
      rintro e V2 ⟨rfl, hb2⟩
      go_wp2_with fail
      have hA2 := hA1.trans (hb2.mono hA1.size)
      refine hK.out _ _ hA2 ?_
      clear hK K
      try simp only [Act.put, List.setIfInBounds_toArray, List.set_cons_zero, List.set_cons_succ]
      refine take1 6 (v := ?_) rfl (by kernel_rfl) (by kernel_rfl) (by kernel_rfl) (fun _ _ _ h => h) (by rfl) ?_ hA2 ?_
      rotate_left
      · intro V9 hA
        obtain ⟨f0, f1, f2, f3⟩ := HF.out _ hA
        clear hA
        go_simp
        try with_reducible rfl
      try simp only [Act.put, List.setIfInBounds_toArray, List.set_cons_zero, List.set_cons_succ]
      refine take1 7 (v := ?_) rfl (by kernel_rfl) (by kernel_rfl) (by kernel_rfl) (fun _ _ _ h => h) (by rfl) ?_ hA2 ?_
      rotate_left
      · intro V9 hA
        obtain ⟨f0, f1, f2, f3⟩ := HF.out _ hA
        clear hA
        go_simp
        try with_reducible rfl
      try simp only [Act.put, List.setIfInBounds_toArray, List.set_cons_zero, List.set_cons_succ]
      refine stop1 (by kernel_rfl) ?_
      obtain ⟨f0, f1, f2, hE⟩ := HF.out _ hA2
      go_wp2
      go_ret
      exact ⟨rfl, hE⟩
    · rw [decide_eq_false pa] at ea
      rw [decide_eq_true (pe.resolve_left pa)] at ed
      clear HV pa pe
      generalize toB (showT ta) = X at *
      generalize toB (showT td) = Y at *
      go_enter Tryd.func137, Tryd.ntmps137
      go_wp2_with fail
      obtain ⟨W0, hW0⟩ : ∃ W0, w.alloc (.cells #[.int .u8 46, .iface T p, .iface T2 p2] 111) = W0 := ⟨_, rfl⟩
      have HF := Lib.hid (fun V hb => trio_box w W0 _ _ _ _ hW0 V hb)
      rw [hW0]
      clear hW0
      have hA0 : Below W0.heap.size W0 W0.drew := (Below.refl _ _).drew
      refine wp_region_held_drew (S := fun V => Below W0.heap.size W0 V) hmx hA0 (fun _ => ?_)
      generalize W0.drew = V0 at *
      refine take1 0 (v := ?_) rfl (by kernel_rfl) (by kernel_rfl) (by kernel_rfl) (fun _ _ _ h => h) (by rfl) ?_ hA0 ?_
      rotate_left
      · intro V9 hA
        obtain ⟨f0, f1, f2, f3⟩ := HF.out _ hA
        clear hA
        go_simp
        try with_reducible rfl
      try simp only [Act.put, List.setIfInBounds_toArray, List.set_cons_zero, List.set_cons_succ]
      refine take1 1 (v := ?_) rfl (by kernel_rfl) (by kernel_rfl) (by kernel_rfl) (fun _ _ _ h => h) (by rfl) ?_ hA0 ?_
      rotate_left
      · intro V9 hA
        obtain ⟨f0, f1, f2, f3⟩ := HF.out _ hA
        clear hA
        go_simp
        try with_reducible rfl
      try simp only [Act.put, List.setIfInBounds_toArray, List.set_cons_zero, List.set_cons_succ]
      refine take1 3 (v := ?_) rfl (by kernel_rfl) (by kernel_rfl) (by kernel_rfl) (fun _ _ _ h => h) (by rfl) ?_ hA0 ?_
      rotate_left
      · intro V9 hA
        obtain ⟨f0, f1, f2, f3⟩ := HF.out _ hA
        clear hA
        go_simp
        try with_reducible rfl
      try simp only [Act.put, List.setIfInBounds_toArray, List.set_cons_zero, List.set_cons_succ]
      refine take1 4 (v := ?_) rfl (by kernel_rfl) (by kernel_rfl) (by kernel_rfl) (fun _ _ _ h => h) (by rfl) ?_ hA0 ?_
      rotate_left
      · intro V9 hA
        obtain ⟨f0, f1, f2, f3⟩ := HF.out _ hA
        clear hA
        go_simp
        try with_reducible rfl
      try simp only [Act.put, List.setIfInBounds_toArray, List.set_cons_zero, List.set_cons_succ]
      refine step1 2 (by kernel_rfl) rfl (fun K hK => ?_)
      go_simp
      refine (HX.out _).mono ?_
      rintro e V1 ⟨rfl, hb1⟩
      go_wp2_with fail
      have hA1 := hA0.trans (hb1.mono hA0.size)
      refine hK.out _ _ hA1 ?_
      clear hK K
      try simp only [Act.put, List.setIfInBounds_toArray, List.set_cons_zero, List.set_cons_succ]
      refine step1 5 (by kernel_rfl) rfl (fun K hK => ?_)
      go_simp
      refine (HX2.out _).mono ?_
      rintro e V2 ⟨rfl, hb2⟩
      go_wp2_with fail
      have hA2 := hA1.trans (hb2.mono hA1.size)
      refine hK.out _ _ hA2 ?_
      clear hK K
      try simp only [Act.put, List.setIfInBounds_toArray, List.set_cons_zero, List.set_cons_succ]
      refine take1 6 (v := ?_) rfl (by kernel_rfl) (by kernel_rfl) (by kernel_rfl) (fun _ _ _ h => h) (by rfl) ?_ hA2 ?_
      rotate_left
      · intro V9 hA
        obtain ⟨f0, f1, f2, f3⟩ := HF.out _ hA
        clear hA
        go_simp
        try with_reducible rfl
      try simp only [Act.put, List.setIfInBounds_toArray, List.set_cons_zero, List.set_cons_succ]
      refine take1 7 (v := ?_) rfl (by kernel_rfl) (by kernel_rfl) (by kernel_rfl) (fun _ _ _ h => h) (by rfl) ?_ hA2 ?_
      rotate_left
      · intro V9 hA
        obtain ⟨f0, f1, f2, f3⟩ := HF.out _ hA
        clear hA
        go_simp
        try with_reducible rfl
      try simp only [Act.put, List.setIfInBounds_toArray, List.set_cons_zero, List.set_cons_succ]
      refine stop1 (by kernel_rfl) ?_
      obtain ⟨f0, f1, f2, hE⟩ := HF.out _ hA2
      go_wp2
      go_ret
      exact ⟨rfl, hE⟩
  · rw [decide_eq_false (fun e => pe (.inl e))] at ea
    rw [decide_eq_false (fun e => pe (.inr e))] at ed
    by_cases pa : ta = .leaf 48
    · have HV : Hid (midT 46 ta td = td) := Lib.hid (by unfold midT; rw [if_neg (fun h => pe h.2), if_pos ⟨by decide, pa⟩])
      rw [HV.out]
      rw [decide_eq_true pa] at za
      clear HV pa pe
      generalize toB (showT ta) = X at *
      generalize toB (showT td) = Y at *
      go_enter Tryd.func137, Tryd.ntmps137
      go_wp2_with fail
      obtain ⟨W0, hW0⟩ : ∃ W0, w.alloc (.cells #[.int .u8 46, .iface T p, .iface T2 p2] 111) = W0 := ⟨_, rfl⟩
      have HF := Lib.hid (fun V hb => trio_box w W0 _ _ _ _ hW0 V hb)
      rw [hW0]
      clear hW0
      have hA0 : Below W0.heap.size W0 W0.drew := (Below.refl _ _).drew
      refine wp_region_held_drew (S := fun V => Below W0.heap.size W0 V) hmx hA0 (fun _ => ?_)
      generalize W0.drew = V0 at *
      refine take1 0 (v := ?_) rfl (by kernel_rfl) (by kernel_rfl) (by kernel_rfl) (fun _ _ _ h => h) (by rfl) ?_ hA0 ?_
      rotate_left
      · intro V9 hA
        obtain ⟨f0, f1, f2, f3⟩ := HF.out _ hA
        clear hA
        go_simp
        try with_reducible rfl
      try simp only [Act.put, List.setIfInBounds_toArray, List.set_cons_zero, List.set_cons_succ]
      refine take1 1 (v := ?_) rfl (by kernel_rfl) (by kernel_rfl) (by kernel_rfl) (fun _ _ _ h => h) (by rfl) ?_ hA0 ?_
      rotate_left
      · intro V9 hA
        obtain ⟨f0, f1, f2, f3⟩ := HF.out _ hA
        clear hA
        go_simp
        try with_reducible rfl
      try simp only [Act.put, List.setIfInBounds_toArray, List.set_cons_zero, List.set_cons_succ]
      refine take1 3 (v := ?_) rfl (by kernel_rfl) (by kernel_rfl) (by kernel_rfl) (fun _ _ _ h => h) (by rfl) ?_ hA0 ?_
      rotate_left
      · intro V9 hA
        obtain ⟨f0, f1, f2, f3⟩ := HF.out _ hA
        clear hA
        go_simp
        try with_reducible rfl
      try simp only [Act.put, List.setIfInBounds_toArray, List.set_cons_zero, List.set_cons_succ]
      refine take1 4 (v := ?_) rfl (by kernel_rfl) (by kernel_rfl) (by kernel_rfl) (fun _ _ _ h => h) (by rfl) ?_ hA0 ?_
      rotate_left
      · intro V9 hA
        obtain ⟨f0, f1, f2, f3⟩ := HF.out _ hA
        clear hA
        go_simp
        try with_reducible rfl
      try simp only [Act.put, List.setIfInBounds_toArray, List.set_cons_zero, List.set_cons_succ]
      refine step1 2 (by kernel_rfl) rfl (fun K hK => ?_)
      go_simp
      refine (HX.out _).mono ?_
      rintro e V1 ⟨rfl, hb1⟩
      go_wp2_with fail
      have hA1 := hA0.trans (hb1.mono hA0.size)
      refine hK.out _ _ hA1 ?_
      clear hK K
      try simp only [Act.put, List.setIfInBounds_toArray, List.set_cons_zero, List.set_cons_succ]
      refine step1 5 (by kernel_rfl) rfl (fun K hK => ?_)
      go_simp
      refine (HX2.out _).mono ?_
      rintro e V2 ⟨rfl, hb2⟩
      go_wp2_with fail
      have hA2 := hA1.trans (hb2.mono hA1.size)
      refine hK.out _ _ hA2 ?_
      clear hK K
      try simp only [Act.put, List.setIfInBounds_toArray, List.set_cons_zero, List.set_cons_succ]
      refine take1 6 (v := ?_) rfl (by kernel_rfl) (by kernel_rfl) (by kernel_rfl) (fun _ _ _ h => h) (by rfl) ?_ hA2 ?_
      rotate_left
      · intro V9 hA
        obtain ⟨f0, f1, f2, f3⟩ := HF.out _ hA
        clear hA
        go_simp
        try with_reducible rfl
      try simp only [Act.put, List.setIfInBounds_toArray, List.set_cons_zero, List.set_cons_succ]
      refine take1 7 (v := ?_) rfl (by kernel_rfl) (by kernel_rfl) (by kernel_rfl) (fun _ _ _ h => h) (by rfl) ?_ hA2 ?_
      rotate_left
      · intro V9 hA
        obtain ⟨f0, f1, f2, f3⟩ := HF.out _ hA
        clear hA
        go_simp
        try with_reducible rfl
      try simp only [Act.put, List.setIfInBounds_toArray, List.set_cons_zero, List.set_cons_succ]
      refine stop1 (by kernel_rfl) ?_
      obtain ⟨f0, f1, f2, hE⟩ := HF.out _ hA2
      go_wp2_with fail
      refine (HId.out _).mono ?_
      rintro e x0 ⟨rfl, hi0⟩
      have hJ0 := hA2.trans (hi0.mono hA2.size)
      obtain ⟨f0, f1, f2, hE0⟩ := HF.out _ hJ0
      go_wp2
      go_ret
      exact ⟨HD.out, hE0⟩
    · rw [decide_eq_false pa] at za
      by_cases pd : td = .leaf 48
      · have HV : Hid (midT 46 ta td = ta) := Lib.hid (by unfold midT; rw [if_neg (fun h => pe h.2), if_neg (fun h => pa h.2), if_pos ⟨by decide, pd⟩])
        rw [HV.out]
        rw [decide_eq_true pd] at zd
        clear HV pa pe pd
        generalize toB (showT ta) = X at *
        generalize toB (showT td) = Y at *
        go_enter Tryd.func137, Tryd.ntmps137
        go_wp2_with fail
        obtain ⟨W0, hW0⟩ : ∃ W0, w.alloc (.cells #[.int .u8 46, .iface T p, .iface T2 p2] 111) = W0 := ⟨_, rfl⟩
        have HF := Lib.hid (fun V hb => trio_box w W0 _ _ _ _ hW0 V hb)
        rw [hW0]
        clear hW0
        have hA0 : Below W0.heap.size W0 W0.drew := (Below.refl _ _).drew
        refine wp_region_held_drew (S := fun V => Below W0.heap.size W0 V) hmx hA0 (fun _ => ?_)
        generalize W0.drew = V0 at *
        refine take1 0 (v := ?_) rfl (by kernel_rfl) (by kernel_rfl) (by kernel_rfl) (fun _ _ _ h => h) (by rfl) ?_ hA0 ?_
        rotate_left
        · intro V9 hA
          obtain ⟨f0, f1, f2, f3⟩ := HF.out _ hA
          clear hA
          go_simp
          try with_reducible rfl
        try simp only [Act.put, List.setIfInBounds_toArray, List.set_cons_zero, List.set_cons_succ]
        refine take1 1 (v := ?_) rfl (by kernel_rfl) (by kernel_rfl) (by kernel_rfl) (fun _ _ _ h => h) (by rfl) ?_ hA0 ?_
        rotate_left
        · intro V9 hA
          obtain ⟨f0, f1, f2, f3⟩ := HF.out _ hA
          clear hA
          go_simp
          try with_reducible rfl
        try simp only [Act.put, List.setIfInBounds_toArray, List.set_cons_zero, List.set_cons_succ]
        refine take1 3 (v := ?_) rfl (by kernel_rfl) (by kernel_rfl) (by kernel_rfl) (fun _ _ _ h => h) (by rfl) ?_ hA0 ?_
        rotate_left
        · intro V9 hA
          obtain ⟨f0, f1, f2, f3⟩ := HF.out _ hA
          clear hA
          go_simp
          try with_reducible rfl
        try simp only [Act.put, List.setIfInBounds_toArray, List.set_cons_zero, List.set_cons_succ]
        refine take1 4 (v := ?_) rfl (by kernel_rfl) (by kernel_rfl) (by kernel_rfl) (fun _ _ _ h => h) (by rfl) ?_ hA0 ?_
        rotate_left
        · intro V9 hA
          obtain ⟨f0, f1, f2, f3⟩ := HF.out _ hA
          clear hA
          go_simp
          try with_reducible rfl
        try simp only [Act.put, List.setIfInBounds_toArray, List.set_cons_zero, List.set_cons_succ]
        refine step1 2 (by kernel_rfl) rfl (fun K hK => ?_)
        go_simp
        refine (HX.out _).mono ?_
        rintro e V1 ⟨rfl, hb1⟩
        go_wp2_with fail
        have hA1 := hA0.trans (hb1.mono hA0.size)
        refine hK.out _ _ hA1 ?_
        clear hK K
        try simp only [Act.put, List.setIfInBounds_toArray, List.set_cons_zero, List.set_cons_succ]
        refine step1 5 (by kernel_rfl) rfl (fun K hK => ?_)
        go_simp
        refine (HX2.out _).mono ?_
        rintro e V2 ⟨rfl, hb2⟩
        go_wp2_with fail
        have hA2 := hA1.trans (hb2.mono hA1.size)
        refine hK.out _ _ hA2 ?_
        clear hK K
        try simp only [Act.put, List.setIfInBounds_toArray, List.set_cons_zero, List.set_cons_succ]
        refine take1 6 (v := ?_) rfl (by kernel_rfl) (by kernel_rfl) (by kernel_rfl) (fun _ _ _ h => h) (by rfl) ?_ hA2 ?_
        rotate_left
        · intro V9 hA
          obtain ⟨f0, f1, f2, f3⟩ := HF.out _ hA
          clear hA
          go_simp
          try with_reducible rfl
        try simp only [Act.put, List.setIfInBounds_toArray, List.set_cons_zero, List.set_cons_succ]
        refine take1 7 (v := ?_) rfl (by kernel_rfl) (by kernel_rfl) (by kernel_rfl) (fun _ _ _ h => h) (by rfl) ?_ hA2 ?_
        rotate_left
        · intro V9 hA
          obtain ⟨f0, f1, f2, f3⟩ := HF.out _ hA
          clear hA
          go_simp
          try with_reducible rfl
        try simp only [Act.put, List.setIfInBounds_toArray, List.set_cons_zero, List.set_cons_succ]
        refine stop1 (by kernel_rfl) ?_
        obtain ⟨f0, f1, f2, hE⟩ := HF.out _ hA2
        go_wp2_with fail
        refine (HId.out _).mono ?_
        rintro e x0 ⟨rfl, hi0⟩
        have hJ0 := hA2.trans (hi0.mono hA2.size)
        obtain ⟨f0, f1, f2, hE0⟩ := HF.out _ hJ0
        go_wp2_with fail
        refine (HId.out _).mono ?_
        rintro e x1 ⟨rfl, hi1⟩
        have hJ1 := hJ0.trans (hi1.mono hJ0.size)
        obtain ⟨f0, f1, f2, hE1⟩ := HF.out _ hJ1
        go_wp2
        go_ret
        exact ⟨HA.out, hE1⟩
      · have HV : Hid (midT 46 ta td = .two 46 ta td) := Lib.hid (by unfold midT; rw [if_neg (fun h => pe h.2), if_neg (fun h => pa h.2), if_neg (fun h => pd h.2), if_neg (fun h => h.1 rfl)])
        rw [HV.out]
        rw [decide_eq_false pd] at zd
        clear HV pa pe pd
        generalize toB (showT ta) = X at *
        generalize toB (showT td) = Y at *
        go_enter Tryd.func137, Tryd.ntmps137
        go_wp2_with fail
        obtain ⟨W0, hW0⟩ : ∃ W0, w.alloc (.cells #[.int .u8 46, .iface T p, .iface T2 p2] 111) = W0 := ⟨_, rfl⟩
        have HF := Lib.hid (fun V hb => trio_box w W0 _ _ _ _ hW0 V hb)
        rw [hW0]
        clear hW0
        have hA0 : Below W0.heap.size W0 W0.drew := (Below.refl _ _).drew
        refine wp_region_held_drew (S := fun V => Below W0.heap.size W0 V) hmx hA0 (fun _ => ?_)
        generalize W0.drew = V0 at *
        refine take1 0 (v := ?_) rfl (by kernel_rfl) (by kernel_rfl) (by kernel_rfl) (fun _ _ _ h => h) (by rfl) ?_ hA0 ?_
        rotate_left
        · intro V9 hA
          obtain ⟨f0, f1, f2, f3⟩ := HF.out _ hA
          clear hA
          go_simp
          try with_reducible rfl
        try simp only [Act.put, List.setIfInBounds_toArray, List.set_cons_zero, List.set_cons_succ]
        refine take1 1 (v := ?_) rfl (by kernel_rfl) (by kernel_rfl) (by kernel_rfl) (fun _ _ _ h => h) (by rfl) ?_ hA0 ?_
        rotate_left
        · intro V9 hA
          obtain ⟨f0, f1, f2, f3⟩ := HF.out _ hA
          clear hA
          go_simp
          try with_reducible rfl
        try simp only [Act.put, List.setIfInBounds_toArray, List.set_cons_zero, List.set_cons_succ]
        refine take1 3 (v := ?_) rfl (by kernel_rfl) (by kernel_rfl) (by kernel_rfl) (fun _ _ _ h => h) (by rfl) ?_ hA0 ?_
        rotate_left
        · intro V9 hA
          obtain ⟨f0, f1, f2, f3⟩ := HF.out _ hA
          clear hA
          go_simp
          try with_reducible rfl
        try simp only [Act.put, List.setIfInBounds_toArray, List.set_cons_zero, List.set_cons_succ]
        refine take1 4 (v := ?_) rfl (by kernel_rfl) (by kernel_rfl) (by kernel_rfl) (fun _ _ _ h => h) (by rfl) ?_ hA0 ?_
        rotate_left
        · intro V9 hA
          obtain ⟨f0, f1, f2, f3⟩ := HF.out _ hA
          clear hA
          go_simp
          try with_reducible rfl
        try simp only [Act.put, List.setIfInBounds_toArray, List.set_cons_zero, List.set_cons_succ]
        refine step1 2 (by kernel_rfl) rfl (fun K hK => ?_)
        go_simp
        refine (HX.out _).mono ?_
        rintro e V1 ⟨rfl, hb1⟩
        go_wp2_with fail
        have hA1 := hA0.trans (hb1.mono hA0.size)
        refine hK.out _ _ hA1 ?_
        clear hK K
        try simp only [Act.put, List.setIfInBounds_toArray, List.set_cons_zero, List.set_cons_succ]
        refine step1 5 (by kernel_rfl) rfl (fun K hK => ?_)
        go_simp
        refine (HX2.out _).mono ?_
        rintro e V2 ⟨rfl, hb2⟩
        go_wp2_with fail
        have hA2 := hA1.trans (hb2.mono hA1.size)
        refine hK.out _ _ hA2 ?_
        clear hK K
        try simp only [Act.put, List.setIfInBounds_toArray, List.set_cons_zero, List.set_cons_succ]
        refine take1 6 (v := ?_) rfl (by kernel_rfl) (by kernel_rfl) (by kernel_rfl) (fun _ _ _ h => h) (by rfl) ?_ hA2 ?_
        rotate_left
        · intro V9 hA
          obtain ⟨f0, f1, f2, f3⟩ := HF.out _ hA
          clear hA
          go_simp
          try with_reducible rfl
        try simp only [Act.put, List.setIfInBounds_toArray, List.set_cons_zero, List.set_cons_succ]
        refine take1 7 (v := ?_) rfl (by kernel_rfl) (by kernel_rfl) (by kernel_rfl) (fun _ _ _ h => h) (by rfl) ?_ hA2 ?_
        rotate_left
        · intro V9 hA
          obtain ⟨f0, f1, f2, f3⟩ := HF.out _ hA
          clear hA
          go_simp
          try with_reducible rfl
        try simp only [Act.put, List.setIfInBounds_toArray, List.set_cons_zero, List.set_cons_succ]
        refine stop1 (by kernel_rfl) ?_
        obtain ⟨f0, f1, f2, hE⟩ := HF.out _ hA2
        go_wp2_with fail
        refine (HId.out _).mono ?_
        rintro e x0 ⟨rfl, hi0⟩
        have hJ0 := hA2.trans (hi0.mono hA2.size)
        obtain ⟨f0, f1, f2, hE0⟩ := HF.out _ hJ0
        go_wp2_with fail
        refine (HId.out _).mono ?_
        rintro e x1 ⟨rfl, hi1⟩
        have hJ1 := hJ0.trans (hi1.mono hJ0.size)
        obtain ⟨f0, f1, f2, hE1⟩ := HF.out _ hJ1
        go_wp2
        go_ret
        exact ⟨HT.out, hE1⟩
end Go.Proofs.YtecjhkpldcmlaaaDoor
