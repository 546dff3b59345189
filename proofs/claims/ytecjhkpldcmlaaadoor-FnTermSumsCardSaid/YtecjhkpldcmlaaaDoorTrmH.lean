/- Terms: the model reads pairs, and whole texts. Written by gen137.py. -/
import Derived.Test.YtecjhkpldcmlaaaDoorTrmG
namespace Go.Proofs.YtecjhkpldcmlaaaDoor
open Go.RowKit Go.Shelf
set_option linter.unusedVariables false
attribute [local go_sem] Oper.semAt_some
theorem small60 {i N : Nat} (h : i < N) (h6 : N ≤ 60) : i < 4096 := by omega
theorem drop_nil (s : ByteArray) (k : Nat) (h : k = s.size) : s.toList.drop k = [] := bytes_end s k (by omega)
theorem mid_cases (c : UInt8) : isMid c = true ∨ (isMid c = false ∧ c.toNat ≠ 43 ∧ c.toNat ≠ 38 ∧ c.toNat ≠ 46) := by
  cases h : isMid c
  · right
    unfold isMid at h
    rw [Bool.or_eq_false_iff, Bool.or_eq_false_iff] at h
    refine ⟨rfl, fun e => ?_, fun e => ?_, fun e => ?_⟩
    · rw [(u8_eq c 43 (by omega)).2 e] at h; exact absurd h.1.1 (by decide)
    · rw [(u8_eq c 38 (by omega)).2 e] at h; exact absurd h.1.2 (by decide)
    · rw [(u8_eq c 46 (by omega)).2 e] at h; exact absurd h.2 (by decide)
  · left; rfl
theorem mid_is {c : UInt8} (h : isMid c = true) : c.toNat = 43 ∨ c.toNat = 38 ∨ c.toNat = 46 := by
  unfold isMid at h
  rw [Bool.or_eq_true, Bool.or_eq_true, beq_iff_eq, beq_iff_eq, beq_iff_eq] at h
  rcases h with (rfl | rfl) | rfl
  · exact .inl rfl
  · exact .inr (.inl rfl)
  · exact .inr (.inr rfl)
theorem slice_two (W : World) (x y z u : Value) : ∀ W', Below (W.alloc (.cells #[x, y, z, u] 50)).heap.size (W.alloc (.cells #[x, y, z, u] 50)) W' →
    W'.cell? ⟨W.heap.size, 0, none⟩ = some x ∧ W'.cell? ⟨W.heap.size, 1, none⟩ = some y ∧ W'.cell? ⟨W.heap.size, 2, none⟩ = some z ∧ W'.cell? ⟨W.heap.size, 3, none⟩ = some u := by
  intro W' h
  have e : (W.alloc (.cells #[x, y, z, u] 50)).heap[W.heap.size]? = some (.cells #[x, y, z, u] 50 (0, 0)) := World.alloc_heap_new W _
  have e2 : W'.heap[W.heap.size]? = some (.cells #[x, y, z, u] 50 (0, 0)) := (h.block _ (by simp)).trans e
  refine ⟨?_, ?_, ?_, ?_⟩ <;> simp [World.cell?, e2]
set_option maxHeartbeats 8000000 in
theorem read_pair (n : Nat) (s : ByteArray) (k : Nat) (h1 : 1 ≤ n) (h2 : n ≤ 12) (hk : k < s.size) (h60 : s.size ≤ 60) (c : UInt8) (hd : s.toList.drop k = c :: s.toList.drop (k + 1)) (hidx : ∀ W, (Instr.index 9 (.string s) (.int .i64 (k : Int))).run Tryd.prog W = .ok (.int .u8 (c.toNat : Int)) W) (hc : c = 40) (ih : ∀ j, k < j → j ≤ s.size → ReadSays n s j) : ReadSays n s k := by
  intro w
  have hmx : Tryd.prog.follows .mixedOrders = true := by kernel_rfl
  subst hc
  have hc' : (((40 : UInt8).toNat : Nat) : Int) = 40 := rfl
  rw [hc'] at hidx
  have hp : placeB 40 = -1 := rfl
  have HP := Lib.hid (fun W => l11Place_any 40 W)
  rw [hp, hc'] at HP
  have HIH := Lib.hid ih
  have HD := Lib.hid hd
  have p1 : decide ((0 : Int) ≤ -1) = false := rfl
  clear hp ih hc'
  obtain ⟨N, hN⟩ : ∃ N, s.size = N := ⟨_, rfl⟩
  have HN := Lib.hid hN
  rw [hN] at hk h60
  have HL := Lib.hid (fun W => leaf101 W)
  have hB0 : Below w.heap.size w (w.alloc (.cells #[.int .u8 0, .slice none 0 0] 50)) := (Below.refl _ _).alloc (Nat.le_refl _) _
  have hD0 := Duo.new w 50 (.int .u8 0) (.slice none 0 0)
  have k1 : decide ((N : Int) ≤ (k : Int)) = false := decide_eq_false (by omega)
  have k2 : ¬ ((N : Int) ≤ (k : Int)) := by omega
  have k5 : ¬ (N ≤ k) := by omega
  have k6 : decide (N ≤ k) = false := decide_eq_false k5
  have k3 : (0 : Int) ≤ (k : Int) := by omega
  have k4 : (k : Int) < (N : Int) := by omega
  have HK := Lib.hid hk
  have H60 := Lib.hid h60
  obtain ⟨m1, m2⟩ := up_wraps k (by omega)
  clear hd hk h60
  go_enter Tryd.func66, Tryd.ntmps66
  go_wp2_with fail
  refine (HL.out _).mono ?_
  rintro e w1 ⟨⟨A, cap, rfl⟩, hb1⟩
  have hB2 := (hB0.trans (hb1.mono hB0.size)).alloc (hB0.trans (hb1.mono hB0.size)).size (.cells #[.int .u8 101, .slice A 0 cap] 50)
  have hD2 := (hD0.under hD0.lt hb1).alloc (.cells #[.int .u8 101, .slice A 0 cap] 50)
  have hE2 := Duo.new w1 50 (.int .u8 101) (.slice A 0 cap)
  have HL2 : Hid (w.heap.size < w1.heap.size) := Lib.hid (hD0.under hD0.lt hb1).lt
  clear hB0 hD0 hb1
  go_wp2_with fail
  refine (HP.out _).mono ?_
  rintro e w9 ⟨rfl, rfl⟩
  go_wp2_with fail
  refine (HIH.out (k + 1) (by omega) (by have := HK.out; rw [HN.out]; omega) _).mono ?_
  rintro e w3 ⟨hb3, hr⟩
  clear m1 m2
  have hB3 := hB2.trans (hb3.mono hB2.size)
  have hD3 := hD2.under hD2.lt hb3
  have hE3 := hE2.under hE2.lt hb3
  rcases hr with ⟨hno, z, A3, l3, c3, rfl⟩ | ⟨t, j, v, hyes, hj1, hj2, rfl, hI⟩
  · have HV2 : Hid (readL n (s.toList.drop k) = none) := Lib.hid (by rw [HD.out]; exact readL_open_none n _ hno)
    have hB4 := hB3.alloc hB3.size (.cells #[.int .u8 z, .slice A3 l3 c3] 50)
    have hD4 := hD3.alloc (.cells #[.int .u8 z, .slice A3 l3 c3] 50)
    have hE4 := hE3.alloc (.cells #[.int .u8 z, .slice A3 l3 c3] 50)
    obtain ⟨⟨f0, g0⟩, ⟨f1, g1⟩, ⟨r0, r1⟩, f3, g3, hBz, hKp⟩ := ret_box hB4 hD4 (.int .u8 101) (.slice A 0 cap)
    have q0 := hE4.cell0
    have q1 := hE4.cell1
    clear hno
    go_wp2
    exact bodyPost_ret (v := .tuple #[.agg #[.int .u8 101, .slice A 0 cap], .int .i64 0]) (by simp [results, Tryd.results66, go_sem, r0, r1]) rfl ⟨hBz, .inl ⟨HV2.out, _, _, _, _, rfl⟩⟩
  · obtain ⟨A3, l3, c3, rfl⟩ := hI.agg
    generalize (signT t).toNat = z at *
    have hB4 := hB3.alloc hB3.size (.cells #[.int .u8 (z : Int), .slice A3 l3 c3] 50)
    have hD4 := hD3.alloc (.cells #[.int .u8 (z : Int), .slice A3 l3 c3] 50)
    have hE4 := hE3.alloc (.cells #[.int .u8 (z : Int), .slice A3 l3 c3] 50)
    have hF4 := Duo.new w3 50 (.int .u8 (z : Int)) (.slice A3 l3 c3)
    have hI4 := hI.below ((Below.refl _ w3).alloc (Nat.le_refl _) (.cells #[.int .u8 (z : Int), .slice A3 l3 c3] 50))
    have HI4 := Lib.hid hI4
    have HNj : Hid (w.heap.size < w1.heap.size + 1) := Lib.hid (by have := HL2.out; omega)
    have jz : ((j : Int) == 0) = false := by simp; omega
    have jz2 : ¬ (j = 0) := by omega
    rw [HN.out] at hj2
    clear hI hI4
    by_cases hjN : j = N
    · have HV2 : Hid (readL n (s.toList.drop k) = none) := Lib.hid (by rw [HD.out]; rw [drop_nil s j (by rw [HN.out]; exact hjN)] at hyes; exact readL_open_end n _ t hyes)
      have j1 : decide ((N : Int) ≤ (j : Int)) = true := decide_eq_true (by omega)
      have j2 : (N : Int) ≤ (j : Int) := by omega
      have j3 : N ≤ j := by omega
      have j4 : decide (N ≤ j) = true := decide_eq_true j3
      clear hjN hyes hj1 hj2
      obtain ⟨⟨f0, g0⟩, ⟨f1, g1⟩, ⟨r0, r1⟩, f3, g3, hBz, hKp⟩ := ret_box hB4 hD4 (.int .u8 101) (.slice A 0 cap)
      have q0 := hE4.cell0
      have q1 := hE4.cell1
      go_wp2
      exact bodyPost_ret (v := .tuple #[.agg #[.int .u8 101, .slice A 0 cap], .int .i64 0]) (by simp [results, Tryd.results66, go_sem, r0, r1]) rfl ⟨hBz, .inl ⟨HV2.out, _, _, _, _, rfl⟩⟩
    · obtain ⟨m, hdm, himx⟩ := cons_at s j (by rw [HN.out]; omega)
      rw [hdm] at hyes
      have j1 : decide ((N : Int) ≤ (j : Int)) = false := decide_eq_false (by omega)
      have j2 : ¬ (N : Int) ≤ (j : Int) := by omega
      have j3 : ¬ N ≤ j := by omega
      have j4 : decide (N ≤ j) = false := decide_eq_false j3
      have j5 : (0 : Int) ≤ (j : Int) := by omega
      have j6 : (j : Int) < (N : Int) := by omega
      obtain ⟨m3, m4⟩ := up_wraps j (small60 (Nat.lt_of_le_of_ne hj2 hjN) H60.out)
      have HJ : Hid (k < j ∧ j < N) := Lib.hid (by omega)
      have HYes := Lib.hid hyes
      clear hyes hdm hjN hj1 hj2
      rcases mid_cases m with hm | ⟨hm, x1, x2, x3⟩
      · have HTwo : Hid (readL n (s.toList.drop k) = match readL n (s.toList.drop (j + 1)) with
            | some (b, e :: r2) => if e = 41 then some (.two m t b, r2) else none
            | _ => none) := Lib.hid (by rw [HD.out]; exact readL_open_two n _ t m _ HYes.out hm)
        have HMid := Lib.hid hm
        have hmi := mid_is hm
        have HMk : Hid (∀ (W : World) (M b : Nat) (a d : Tm) x y z u, M ≤ b → W.cell? ⟨b, 0, none⟩ = some x → W.cell? ⟨b, 1, none⟩ = some y → W.cell? ⟨b, 2, none⟩ = some z → W.cell? ⟨b, 3, none⟩ = some u → IsTmN W M a (.agg #[x, y]) → IsTmN W M d (.agg #[z, u]) → IsTmN W M (.two m a d) (.agg #[.int .u8 (m.toNat : Int), .slice (some ⟨b, 0, none⟩) 2 2])) :=
          Lib.hid (fun W M b a d x y z u h0 h1 h2 h3 h4 h5 h6 => ⟨b, x, y, z, u, rfl, h0, h1, h2, h3, h4, h5, h6⟩)
        clear hm HYes
        generalize m.toNat = y at *
        have hd3 : (((y : Int) != 43) = false) ∨ (((y : Int) != 43) = true ∧ ((y : Int) != 38) = false) ∨ (((y : Int) != 43) = true ∧ ((y : Int) != 38) = true ∧ ((y : Int) != 46) = false) := by
          rcases hmi with e | e | e
          · left; simp; omega
          · right; left; constructor <;> (simp; omega)
          · right; right; refine ⟨?_, ?_, ?_⟩ <;> (simp; omega)
        clear hmi
        rcases hd3 with d1 | ⟨d1, d2⟩ | ⟨d1, d2, d3⟩
        · go_wp2_with fail
          refine (HIH.out (j + 1) (by have := HJ.out; omega) (by have := HJ.out; rw [HN.out]; omega) _).mono ?_
          rintro e w5 ⟨hb5, hr5⟩
          clear m3 m4
          have hB5 := hB4.trans (hb5.mono hB4.size)
          have hD5 := hD4.under hD4.lt hb5
          have hE5 := hE4.under hE4.lt hb5
          have hF5 := hF4.under hF4.lt hb5
          rcases hr5 with ⟨hno, z5, A5, l5, c5, rfl⟩ | ⟨t5, i, v5, hyes5, hi1, hi2, rfl, hI5⟩
          · have HV2 : Hid (readL n (s.toList.drop k) = none) := Lib.hid (by rw [HTwo.out, hno])
            have hB6 := hB5.alloc hB5.size (.cells #[.int .u8 z5, .slice A5 l5 c5] 50)
            have hD6 := hD5.alloc (.cells #[.int .u8 z5, .slice A5 l5 c5] 50)
            have hE6 := hE5.alloc (.cells #[.int .u8 z5, .slice A5 l5 c5] 50)
            obtain ⟨⟨f0, g0⟩, ⟨f1, g1⟩, ⟨r0, r1⟩, f3, g3, hBz, hKp⟩ := ret_box hB6 hD6 (.int .u8 101) (.slice A 0 cap)
            have q0 := hE6.cell0
            have q1 := hE6.cell1
            clear hno
            go_wp2
            exact bodyPost_ret (v := .tuple #[.agg #[.int .u8 101, .slice A 0 cap], .int .i64 0]) (by simp [results, Tryd.results66, go_sem, r0, r1]) rfl ⟨hBz, .inl ⟨HV2.out, _, _, _, _, rfl⟩⟩
          · obtain ⟨A5, l5, c5, rfl⟩ := hI5.agg
            generalize (signT t5).toNat = z5 at *
            have hB6 := hB5.alloc hB5.size (.cells #[.int .u8 (z5 : Int), .slice A5 l5 c5] 50)
            have hD6 := hD5.alloc (.cells #[.int .u8 (z5 : Int), .slice A5 l5 c5] 50)
            have hE6 := hE5.alloc (.cells #[.int .u8 (z5 : Int), .slice A5 l5 c5] 50)
            have hF6 := hF5.alloc (.cells #[.int .u8 (z5 : Int), .slice A5 l5 c5] 50)
            have hG6 := Duo.new w5 50 (.int .u8 (z5 : Int)) (.slice A5 l5 c5)
            have HI6 := Lib.hid ((HI4.out.below hb5).below ((Below.refl _ w5).alloc (Nat.le_refl _) (.cells #[.int .u8 (z5 : Int), .slice A5 l5 c5] 50)))
            have HI5 := Lib.hid (hI5.below ((Below.refl _ w5).alloc (Nat.le_refl _) (.cells #[.int .u8 (z5 : Int), .slice A5 l5 c5] 50)))
            have iz : ((i : Int) == 0) = false := by simp; omega
            have iz2 : ¬ (i = 0) := by omega
            rw [HN.out] at hi2
            clear hI5
            by_cases hiN : i = N
            · have HV2 : Hid (readL n (s.toList.drop k) = none) := Lib.hid (by rw [HTwo.out]; rw [drop_nil s i (by rw [HN.out]; exact hiN)] at hyes5; rw [hyes5])
              have i1 : decide ((N : Int) ≤ (i : Int)) = true := decide_eq_true (by omega)
              have i2 : (N : Int) ≤ (i : Int) := by omega
              have i3 : N ≤ i := by omega
              have i4 : decide (N ≤ i) = true := decide_eq_true i3
              clear hiN hyes5 hi1 hi2
              obtain ⟨⟨f0, g0⟩, ⟨f1, g1⟩, ⟨r0, r1⟩, f3, g3, hBz, hKp⟩ := ret_box hB6 hD6 (.int .u8 101) (.slice A 0 cap)
              have q0 := hE6.cell0
              have q1 := hE6.cell1
              go_wp2
              exact bodyPost_ret (v := .tuple #[.agg #[.int .u8 101, .slice A 0 cap], .int .i64 0]) (by simp [results, Tryd.results66, go_sem, r0, r1]) rfl ⟨hBz, .inl ⟨HV2.out, _, _, _, _, rfl⟩⟩
            · obtain ⟨q, hdq, hiqx⟩ := cons_at s i (by rw [HN.out]; omega)
              rw [hdq] at hyes5
              have i1 : decide ((N : Int) ≤ (i : Int)) = false := decide_eq_false (by omega)
              have i2 : ¬ (N : Int) ≤ (i : Int) := by omega
              have i3 : ¬ N ≤ i := by omega
              have i4 : decide (N ≤ i) = false := decide_eq_false i3
              have i5 : (0 : Int) ≤ (i : Int) := by omega
              have i6 : (i : Int) < (N : Int) := by omega
              obtain ⟨m5, m6⟩ := up_wraps i (small60 (Nat.lt_of_le_of_ne hi2 hiN) H60.out)
              have HI : Hid (j + 1 < i ∧ i < N) := Lib.hid (by omega)
              clear hdq hiN hi1 hi2
              by_cases hq : q = 41
              · subst hq
                have hq' : (((41 : UInt8).toNat : Nat) : Int) = 41 := rfl
                rw [hq'] at hiqx
                have HV2 : Hid (readL n (s.toList.drop k) = some (.two m t t5, s.toList.drop (i + 1))) := Lib.hid (by rw [HTwo.out, hyes5]; exact if_pos rfl)
                clear hq' hyes5
                have q2 := hF6.cell0
                have q3 := hF6.cell1
                go_wp2
                clear q2 q3
                obtain ⟨V0, hV0⟩ : ∃ V0, (w5.alloc (.cells #[.int .u8 (z5 : Int), .slice A5 l5 c5] 50)).drew = V0 := ⟨_, rfl⟩
                have hB6d := hB6.drew
                have hA0 : Duo V0 w3.heap.size 50 (.int .u8 (z : Int)) (.slice A3 l3 c3) ∧ Duo V0 w5.heap.size 50 (.int .u8 (z5 : Int)) (.slice A5 l5 c5) := by rw [← hV0]; exact ⟨hF6, hG6⟩
                have hD6d : Duo V0 w.heap.size 50 (.int .u8 0) (.slice none 0 0) := by rw [← hV0]; exact hD6
                have HI6d := Lib.hid ((HI6.out).below (Below.refl _ _).drew)
                have HI5d := Lib.hid ((HI5.out).below (Below.refl _ _).drew)
                rw [hV0] at hB6d HI6d HI5d
                have hl3 : w.heap.size < w3.heap.size := hD3.lt
                have hl5 : w.heap.size < w5.heap.size := hD5.lt
                have HLs : Hid (w.heap.size < w3.heap.size ∧ w.heap.size < w5.heap.size) := Lib.hid ⟨hl3, hl5⟩
                clear hl3 hl5
                refine wp_region_held_drew (S := fun V => Duo V w3.heap.size 50 (.int .u8 (z : Int)) (.slice A3 l3 c3) ∧ Duo V w5.heap.size 50 (.int .u8 (z5 : Int)) (.slice A5 l5 c5)) hmx (by rw [hV0]; exact hA0) (fun _ => ?_)
                rw [hV0]
                clear hV0
                refine take1 0 (v := ?_) rfl (by kernel_rfl) (by kernel_rfl) (by kernel_rfl) (fun _ _ _ h => h) (by rfl) ?_ hA0 ?_
                rotate_left
                · intro V9 hA
                  have f1 := hA.1.cell0
                  have f2 := hA.1.cell1
                  have f3 := hA.2.cell0
                  have f4 := hA.2.cell1
                  clear hA
                  go_simp
                  try with_reducible rfl
                try simp only [Act.put, List.setIfInBounds_toArray, List.set_cons_zero, List.set_cons_succ]
                refine take1 1 (v := ?_) rfl (by kernel_rfl) (by kernel_rfl) (by kernel_rfl) (fun _ _ _ h => h) (by rfl) ?_ hA0 ?_
                rotate_left
                · intro V9 hA
                  have f1 := hA.1.cell0
                  have f2 := hA.1.cell1
                  have f3 := hA.2.cell0
                  have f4 := hA.2.cell1
                  clear hA
                  go_simp
                  try with_reducible rfl
                try simp only [Act.put, List.setIfInBounds_toArray, List.set_cons_zero, List.set_cons_succ]
                refine take1 2 (v := ?_) rfl (by kernel_rfl) (by kernel_rfl) (by kernel_rfl) (fun _ _ _ h => h) (by rfl) ?_ hA0 ?_
                rotate_left
                · intro V9 hA
                  have f1 := hA.1.cell0
                  have f2 := hA.1.cell1
                  have f3 := hA.2.cell0
                  have f4 := hA.2.cell1
                  clear hA
                  go_simp
                  try with_reducible rfl
                try simp only [Act.put, List.setIfInBounds_toArray, List.set_cons_zero, List.set_cons_succ]
                refine take1 3 (v := ?_) rfl (by kernel_rfl) (by kernel_rfl) (by kernel_rfl) (fun _ _ _ h => h) (by rfl) ?_ hA0 ?_
                rotate_left
                · intro V9 hA
                  have f1 := hA.1.cell0
                  have f2 := hA.1.cell1
                  have f3 := hA.2.cell0
                  have f4 := hA.2.cell1
                  clear hA
                  go_simp
                  try with_reducible rfl
                try simp only [Act.put, List.setIfInBounds_toArray, List.set_cons_zero, List.set_cons_succ]
                refine take1 4 (v := ?_) rfl (by kernel_rfl) (by kernel_rfl) (by kernel_rfl) (fun _ _ _ h => h) (by rfl) ?_ hA0 ?_
                rotate_left
                · intro V9 hA
                  have f1 := hA.1.cell0
                  have f2 := hA.1.cell1
                  have f3 := hA.2.cell0
                  have f4 := hA.2.cell1
                  clear hA
                  go_simp
                  try with_reducible rfl
                try simp only [Act.put, List.setIfInBounds_toArray, List.set_cons_zero, List.set_cons_succ]
                refine take1 7 (v := ?_) rfl (by kernel_rfl) (by kernel_rfl) (by kernel_rfl) (fun _ _ _ h => h) (by rfl) ?_ hA0 ?_
                rotate_left
                · intro V9 hA
                  clear hA
                  go_simp
                  try with_reducible rfl
                try simp only [Act.put, List.setIfInBounds_toArray, List.set_cons_zero, List.set_cons_succ]
                refine take1 8 (v := ?_) rfl (by kernel_rfl) (by kernel_rfl) (by kernel_rfl) (fun _ _ _ h => h) (by rfl) ?_ hA0 ?_
                rotate_left
                · intro V9 hA
                  clear hA
                  go_simp
                  try with_reducible rfl
                try simp only [Act.put, List.setIfInBounds_toArray, List.set_cons_zero, List.set_cons_succ]
                have hB7 := hB6d.alloc hB6d.size (.cells #[.int .u8 (z : Int), .slice A3 l3 c3, .int .u8 (z5 : Int), .slice A5 l5 c5] 50)
                have hD7 := hD6d.alloc (.cells #[.int .u8 (z : Int), .slice A3 l3 c3, .int .u8 (z5 : Int), .slice A5 l5 c5] 50)
                have hA1 := (⟨hA0.1.alloc (.cells #[.int .u8 (z : Int), .slice A3 l3 c3, .int .u8 (z5 : Int), .slice A5 l5 c5] 50), hA0.2.alloc (.cells #[.int .u8 (z : Int), .slice A3 l3 c3, .int .u8 (z5 : Int), .slice A5 l5 c5] 50)⟩ : _ ∧ _)
                refine step1 5 (by kernel_rfl) rfl (fun K hK => ?_)
                go_simp
                refine hK.out _ _ hA1 ?_
                clear hK K
                try simp only [Act.put, List.setIfInBounds_toArray, List.set_cons_zero, List.set_cons_succ]
                refine take1 6 (v := ?_) rfl (by kernel_rfl) (by kernel_rfl) (by kernel_rfl) (fun _ _ _ h => h) (by rfl) ?_ hA1 ?_
                rotate_left
                · intro V9 hA
                  clear hA
                  go_simp
                  try with_reducible rfl
                try simp only [Act.put, List.setIfInBounds_toArray, List.set_cons_zero, List.set_cons_succ]
                obtain ⟨⟨f0, g0⟩, ⟨f1, g1⟩, ⟨r0, r1⟩, f3, g3, hBz, hKp⟩ := ret_box hB7 hD7 (.int .u8 (y : Int)) (.slice (some ⟨V0.heap.size, 0, none⟩) 2 2)
                have hA2 := (⟨(hA1.1.same (hKp _ HLs.out.1)), (hA1.2.same (hKp _ HLs.out.2))⟩ : _ ∧ _)
                refine step1 9 (by kernel_rfl) rfl (fun K hK => ?_)
                go_simp
                refine hK.out _ _ hA2 ?_
                clear hK K
                try simp only [Act.put, List.setIfInBounds_toArray, List.set_cons_zero, List.set_cons_succ]
                refine take1 10 (v := ?_) rfl (by kernel_rfl) (by kernel_rfl) (by kernel_rfl) (fun _ _ _ h => h) (by rfl) ?_ hA2 ?_
                rotate_left
                · intro V9 hA
                  clear hA
                  go_simp
                  try with_reducible rfl
                try simp only [Act.put, List.setIfInBounds_toArray, List.set_cons_zero, List.set_cons_succ]
                refine stop1 (by kernel_rfl) ?_
                have hs4 := slice_two V0 (.int .u8 (z : Int)) (.slice A3 l3 c3) (.int .u8 (z5 : Int)) (.slice A5 l5 c5) _ (Below.refl _ _)
                have hV : w.heap.size < V0.heap.size := hD6d.lt
                have hkc : ∀ (i : Nat) (v : Value), (V0.alloc (.cells #[.int .u8 (z : Int), .slice A3 l3 c3, .int .u8 (z5 : Int), .slice A5 l5 c5] 50)).cell? ⟨V0.heap.size, i, none⟩ = some v → (((V0.alloc (.cells #[.int .u8 (z : Int), .slice A3 l3 c3, .int .u8 (z5 : Int), .slice A5 l5 c5] 50)).setCell ⟨w.heap.size, 0, none⟩ (.int .u8 (y : Int))).setCell ⟨w.heap.size, 1, none⟩ (.slice (some ⟨V0.heap.size, 0, none⟩) 2 2)).cell? ⟨V0.heap.size, i, none⟩ = some v := fun i v h =>
                  (World.cell?_of_block (hKp V0.heap.size hV)).trans h
                have hal : Below V0.heap.size V0 (V0.alloc (.cells #[.int .u8 (z : Int), .slice A3 l3 c3, .int .u8 (z5 : Int), .slice A5 l5 c5] 50)) := (Below.refl _ V0).alloc (Nat.le_refl _) _
                have HQ := Lib.hid (HMk.out _ w.heap.size V0.heap.size t t5 _ _ _ _ (Nat.le_of_lt hV) (hkc 0 _ hs4.1) (hkc 1 _ hs4.2.1) (hkc 2 _ hs4.2.2.1) (hkc 3 _ hs4.2.2.2)
                  (IsTmN.keep (M := w.heap.size) (by have := HNj.out; simp; omega) (fun b hb _ => hKp b (by have := HNj.out; simp at hb; omega)) t (HI6d.out.below hal))
                  (IsTmN.keep (M := w.heap.size) (by have := HLs.out; simp; omega) (fun b hb _ => hKp b (by have := HLs.out; simp at hb; omega)) t5 (HI5d.out.below hal)))
                clear hs4 hV hkc hal hKp HMk
                go_wp2
                exact bodyPost_ret (v := .tuple #[.agg #[.int .u8 (y : Int), .slice (some ⟨V0.heap.size, 0, none⟩) 2 2], .int .i64 ((i + 1 : Nat) : Int)]) (by simp [results, Tryd.results66, go_sem, r0, r1]) rfl ⟨hBz, .inr ⟨.two m t t5, i + 1, _, HV2.out, by have := HJ.out; have := HI.out; omega, by rw [HN.out]; have := HI.out; omega, rfl, HQ.out⟩⟩
              · have HV2 : Hid (readL n (s.toList.drop k) = none) := Lib.hid (by rw [HTwo.out, hyes5]; exact if_neg hq)
                have hq2 : q.toNat ≠ 41 := fun e => hq ((u8_eq q 41 (by omega)).2 e)
                clear hq hyes5
                generalize q.toNat = o at *
                have d4 : ((o : Int) != 41) = true := by simp; omega
                have d5 : ((o : Int) == 41) = false := by simp; omega
                clear hq2
                obtain ⟨⟨f0, g0⟩, ⟨f1, g1⟩, ⟨r0, r1⟩, f3, g3, hBz, hKp⟩ := ret_box hB6 hD6 (.int .u8 101) (.slice A 0 cap)
                have q0 := hE6.cell0
                have q1 := hE6.cell1
                go_wp2
                exact bodyPost_ret (v := .tuple #[.agg #[.int .u8 101, .slice A 0 cap], .int .i64 0]) (by simp [results, Tryd.results66, go_sem, r0, r1]) rfl ⟨hBz, .inl ⟨HV2.out, _, _, _, _, rfl⟩⟩
        · go_wp2_with fail
          refine (HIH.out (j + 1) (by have := HJ.out; omega) (by have := HJ.out; rw [HN.out]; omega) _).mono ?_
          rintro e w5 ⟨hb5, hr5⟩
          clear m3 m4
          have hB5 := hB4.trans (hb5.mono hB4.size)
          have hD5 := hD4.under hD4.lt hb5
          have hE5 := hE4.under hE4.lt hb5
          have hF5 := hF4.under hF4.lt hb5
          rcases hr5 with ⟨hno, z5, A5, l5, c5, rfl⟩ | ⟨t5, i, v5, hyes5, hi1, hi2, rfl, hI5⟩
          · have HV2 : Hid (readL n (s.toList.drop k) = none) := Lib.hid (by rw [HTwo.out, hno])
            have hB6 := hB5.alloc hB5.size (.cells #[.int .u8 z5, .slice A5 l5 c5] 50)
            have hD6 := hD5.alloc (.cells #[.int .u8 z5, .slice A5 l5 c5] 50)
            have hE6 := hE5.alloc (.cells #[.int .u8 z5, .slice A5 l5 c5] 50)
            obtain ⟨⟨f0, g0⟩, ⟨f1, g1⟩, ⟨r0, r1⟩, f3, g3, hBz, hKp⟩ := ret_box hB6 hD6 (.int .u8 101) (.slice A 0 cap)
            have q0 := hE6.cell0
            have q1 := hE6.cell1
            clear hno
            go_wp2
            exact bodyPost_ret (v := .tuple #[.agg #[.int .u8 101, .slice A 0 cap], .int .i64 0]) (by simp [results, Tryd.results66, go_sem, r0, r1]) rfl ⟨hBz, .inl ⟨HV2.out, _, _, _, _, rfl⟩⟩
          · obtain ⟨A5, l5, c5, rfl⟩ := hI5.agg
            generalize (signT t5).toNat = z5 at *
            have hB6 := hB5.alloc hB5.size (.cells #[.int .u8 (z5 : Int), .slice A5 l5 c5] 50)
            have hD6 := hD5.alloc (.cells #[.int .u8 (z5 : Int), .slice A5 l5 c5] 50)
            have hE6 := hE5.alloc (.cells #[.int .u8 (z5 : Int), .slice A5 l5 c5] 50)
            have hF6 := hF5.alloc (.cells #[.int .u8 (z5 : Int), .slice A5 l5 c5] 50)
            have hG6 := Duo.new w5 50 (.int .u8 (z5 : Int)) (.slice A5 l5 c5)
            have HI6 := Lib.hid ((HI4.out.below hb5).below ((Below.refl _ w5).alloc (Nat.le_refl _) (.cells #[.int .u8 (z5 : Int), .slice A5 l5 c5] 50)))
            have HI5 := Lib.hid (hI5.below ((Below.refl _ w5).alloc (Nat.le_refl _) (.cells #[.int .u8 (z5 : Int), .slice A5 l5 c5] 50)))
            have iz : ((i : Int) == 0) = false := by simp; omega
            have iz2 : ¬ (i = 0) := by omega
            rw [HN.out] at hi2
            clear hI5
            by_cases hiN : i = N
            · have HV2 : Hid (readL n (s.toList.drop k) = none) := Lib.hid (by rw [HTwo.out]; rw [drop_nil s i (by rw [HN.out]; exact hiN)] at hyes5; rw [hyes5])
              have i1 : decide ((N : Int) ≤ (i : Int)) = true := decide_eq_true (by omega)
              have i2 : (N : Int) ≤ (i : Int) := by omega
              have i3 : N ≤ i := by omega
              have i4 : decide (N ≤ i) = true := decide_eq_true i3
              clear hiN hyes5 hi1 hi2
              obtain ⟨⟨f0, g0⟩, ⟨f1, g1⟩, ⟨r0, r1⟩, f3, g3, hBz, hKp⟩ := ret_box hB6 hD6 (.int .u8 101) (.slice A 0 cap)
              have q0 := hE6.cell0
              have q1 := hE6.cell1
              go_wp2
              exact bodyPost_ret (v := .tuple #[.agg #[.int .u8 101, .slice A 0 cap], .int .i64 0]) (by simp [results, Tryd.results66, go_sem, r0, r1]) rfl ⟨hBz, .inl ⟨HV2.out, _, _, _, _, rfl⟩⟩
            · obtain ⟨q, hdq, hiqx⟩ := cons_at s i (by rw [HN.out]; omega)
              rw [hdq] at hyes5
              have i1 : decide ((N : Int) ≤ (i : Int)) = false := decide_eq_false (by omega)
              have i2 : ¬ (N : Int) ≤ (i : Int) := by omega
              have i3 : ¬ N ≤ i := by omega
              have i4 : decide (N ≤ i) = false := decide_eq_false i3
              have i5 : (0 : Int) ≤ (i : Int) := by omega
              have i6 : (i : Int) < (N : Int) := by omega
              obtain ⟨m5, m6⟩ := up_wraps i (small60 (Nat.lt_of_le_of_ne hi2 hiN) H60.out)
              have HI : Hid (j + 1 < i ∧ i < N) := Lib.hid (by omega)
              clear hdq hiN hi1 hi2
              by_cases hq : q = 41
              · subst hq
                have hq' : (((41 : UInt8).toNat : Nat) : Int) = 41 := rfl
                rw [hq'] at hiqx
                have HV2 : Hid (readL n (s.toList.drop k) = some (.two m t t5, s.toList.drop (i + 1))) := Lib.hid (by rw [HTwo.out, hyes5]; exact if_pos rfl)
                clear hq' hyes5
                have q2 := hF6.cell0
                have q3 := hF6.cell1
                go_wp2
                clear q2 q3
                obtain ⟨V0, hV0⟩ : ∃ V0, (w5.alloc (.cells #[.int .u8 (z5 : Int), .slice A5 l5 c5] 50)).drew = V0 := ⟨_, rfl⟩
                have hB6d := hB6.drew
                have hA0 : Duo V0 w3.heap.size 50 (.int .u8 (z : Int)) (.slice A3 l3 c3) ∧ Duo V0 w5.heap.size 50 (.int .u8 (z5 : Int)) (.slice A5 l5 c5) := by rw [← hV0]; exact ⟨hF6, hG6⟩
                have hD6d : Duo V0 w.heap.size 50 (.int .u8 0) (.slice none 0 0) := by rw [← hV0]; exact hD6
                have HI6d := Lib.hid ((HI6.out).below (Below.refl _ _).drew)
                have HI5d := Lib.hid ((HI5.out).below (Below.refl _ _).drew)
                rw [hV0] at hB6d HI6d HI5d
                have hl3 : w.heap.size < w3.heap.size := hD3.lt
                have hl5 : w.heap.size < w5.heap.size := hD5.lt
                have HLs : Hid (w.heap.size < w3.heap.size ∧ w.heap.size < w5.heap.size) := Lib.hid ⟨hl3, hl5⟩
                clear hl3 hl5
                refine wp_region_held_drew (S := fun V => Duo V w3.heap.size 50 (.int .u8 (z : Int)) (.slice A3 l3 c3) ∧ Duo V w5.heap.size 50 (.int .u8 (z5 : Int)) (.slice A5 l5 c5)) hmx (by rw [hV0]; exact hA0) (fun _ => ?_)
                rw [hV0]
                clear hV0
                refine take1 0 (v := ?_) rfl (by kernel_rfl) (by kernel_rfl) (by kernel_rfl) (fun _ _ _ h => h) (by rfl) ?_ hA0 ?_
                rotate_left
                · intro V9 hA
                  have f1 := hA.1.cell0
                  have f2 := hA.1.cell1
                  have f3 := hA.2.cell0
                  have f4 := hA.2.cell1
                  clear hA
                  go_simp
                  try with_reducible rfl
                try simp only [Act.put, List.setIfInBounds_toArray, List.set_cons_zero, List.set_cons_succ]
                refine take1 1 (v := ?_) rfl (by kernel_rfl) (by kernel_rfl) (by kernel_rfl) (fun _ _ _ h => h) (by rfl) ?_ hA0 ?_
                rotate_left
                · intro V9 hA
                  have f1 := hA.1.cell0
                  have f2 := hA.1.cell1
                  have f3 := hA.2.cell0
                  have f4 := hA.2.cell1
                  clear hA
                  go_simp
                  try with_reducible rfl
                try simp only [Act.put, List.setIfInBounds_toArray, List.set_cons_zero, List.set_cons_succ]
                refine take1 2 (v := ?_) rfl (by kernel_rfl) (by kernel_rfl) (by kernel_rfl) (fun _ _ _ h => h) (by rfl) ?_ hA0 ?_
                rotate_left
                · intro V9 hA
                  have f1 := hA.1.cell0
                  have f2 := hA.1.cell1
                  have f3 := hA.2.cell0
                  have f4 := hA.2.cell1
                  clear hA
                  go_simp
                  try with_reducible rfl
                try simp only [Act.put, List.setIfInBounds_toArray, List.set_cons_zero, List.set_cons_succ]
                refine take1 3 (v := ?_) rfl (by kernel_rfl) (by kernel_rfl) (by kernel_rfl) (fun _ _ _ h => h) (by rfl) ?_ hA0 ?_
                rotate_left
                · intro V9 hA
                  have f1 := hA.1.cell0
                  have f2 := hA.1.cell1
                  have f3 := hA.2.cell0
                  have f4 := hA.2.cell1
                  clear hA
                  go_simp
                  try with_reducible rfl
                try simp only [Act.put, List.setIfInBounds_toArray, List.set_cons_zero, List.set_cons_succ]
                refine take1 4 (v := ?_) rfl (by kernel_rfl) (by kernel_rfl) (by kernel_rfl) (fun _ _ _ h => h) (by rfl) ?_ hA0 ?_
                rotate_left
                · intro V9 hA
                  have f1 := hA.1.cell0
                  have f2 := hA.1.cell1
                  have f3 := hA.2.cell0
                  have f4 := hA.2.cell1
                  clear hA
                  go_simp
                  try with_reducible rfl
                try simp only [Act.put, List.setIfInBounds_toArray, List.set_cons_zero, List.set_cons_succ]
                refine take1 7 (v := ?_) rfl (by kernel_rfl) (by kernel_rfl) (by kernel_rfl) (fun _ _ _ h => h) (by rfl) ?_ hA0 ?_
                rotate_left
                · intro V9 hA
                  clear hA
                  go_simp
                  try with_reducible rfl
                try simp only [Act.put, List.setIfInBounds_toArray, List.set_cons_zero, List.set_cons_succ]
                refine take1 8 (v := ?_) rfl (by kernel_rfl) (by kernel_rfl) (by kernel_rfl) (fun _ _ _ h => h) (by rfl) ?_ hA0 ?_
                rotate_left
                · intro V9 hA
                  clear hA
                  go_simp
                  try with_reducible rfl
                try simp only [Act.put, List.setIfInBounds_toArray, List.set_cons_zero, List.set_cons_succ]
                have hB7 := hB6d.alloc hB6d.size (.cells #[.int .u8 (z : Int), .slice A3 l3 c3, .int .u8 (z5 : Int), .slice A5 l5 c5] 50)
                have hD7 := hD6d.alloc (.cells #[.int .u8 (z : Int), .slice A3 l3 c3, .int .u8 (z5 : Int), .slice A5 l5 c5] 50)
                have hA1 := (⟨hA0.1.alloc (.cells #[.int .u8 (z : Int), .slice A3 l3 c3, .int .u8 (z5 : Int), .slice A5 l5 c5] 50), hA0.2.alloc (.cells #[.int .u8 (z : Int), .slice A3 l3 c3, .int .u8 (z5 : Int), .slice A5 l5 c5] 50)⟩ : _ ∧ _)
                refine step1 5 (by kernel_rfl) rfl (fun K hK => ?_)
                go_simp
                refine hK.out _ _ hA1 ?_
                clear hK K
                try simp only [Act.put, List.setIfInBounds_toArray, List.set_cons_zero, List.set_cons_succ]
                refine take1 6 (v := ?_) rfl (by kernel_rfl) (by kernel_rfl) (by kernel_rfl) (fun _ _ _ h => h) (by rfl) ?_ hA1 ?_
                rotate_left
                · intro V9 hA
                  clear hA
                  go_simp
                  try with_reducible rfl
                try simp only [Act.put, List.setIfInBounds_toArray, List.set_cons_zero, List.set_cons_succ]
                obtain ⟨⟨f0, g0⟩, ⟨f1, g1⟩, ⟨r0, r1⟩, f3, g3, hBz, hKp⟩ := ret_box hB7 hD7 (.int .u8 (y : Int)) (.slice (some ⟨V0.heap.size, 0, none⟩) 2 2)
                have hA2 := (⟨(hA1.1.same (hKp _ HLs.out.1)), (hA1.2.same (hKp _ HLs.out.2))⟩ : _ ∧ _)
                refine step1 9 (by kernel_rfl) rfl (fun K hK => ?_)
                go_simp
                refine hK.out _ _ hA2 ?_
                clear hK K
                try simp only [Act.put, List.setIfInBounds_toArray, List.set_cons_zero, List.set_cons_succ]
                refine take1 10 (v := ?_) rfl (by kernel_rfl) (by kernel_rfl) (by kernel_rfl) (fun _ _ _ h => h) (by rfl) ?_ hA2 ?_
                rotate_left
                · intro V9 hA
                  clear hA
                  go_simp
                  try with_reducible rfl
                try simp only [Act.put, List.setIfInBounds_toArray, List.set_cons_zero, List.set_cons_succ]
                refine stop1 (by kernel_rfl) ?_
                have hs4 := slice_two V0 (.int .u8 (z : Int)) (.slice A3 l3 c3) (.int .u8 (z5 : Int)) (.slice A5 l5 c5) _ (Below.refl _ _)
                have hV : w.heap.size < V0.heap.size := hD6d.lt
                have hkc : ∀ (i : Nat) (v : Value), (V0.alloc (.cells #[.int .u8 (z : Int), .slice A3 l3 c3, .int .u8 (z5 : Int), .slice A5 l5 c5] 50)).cell? ⟨V0.heap.size, i, none⟩ = some v → (((V0.alloc (.cells #[.int .u8 (z : Int), .slice A3 l3 c3, .int .u8 (z5 : Int), .slice A5 l5 c5] 50)).setCell ⟨w.heap.size, 0, none⟩ (.int .u8 (y : Int))).setCell ⟨w.heap.size, 1, none⟩ (.slice (some ⟨V0.heap.size, 0, none⟩) 2 2)).cell? ⟨V0.heap.size, i, none⟩ = some v := fun i v h =>
                  (World.cell?_of_block (hKp V0.heap.size hV)).trans h
                have hal : Below V0.heap.size V0 (V0.alloc (.cells #[.int .u8 (z : Int), .slice A3 l3 c3, .int .u8 (z5 : Int), .slice A5 l5 c5] 50)) := (Below.refl _ V0).alloc (Nat.le_refl _) _
                have HQ := Lib.hid (HMk.out _ w.heap.size V0.heap.size t t5 _ _ _ _ (Nat.le_of_lt hV) (hkc 0 _ hs4.1) (hkc 1 _ hs4.2.1) (hkc 2 _ hs4.2.2.1) (hkc 3 _ hs4.2.2.2)
                  (IsTmN.keep (M := w.heap.size) (by have := HNj.out; simp; omega) (fun b hb _ => hKp b (by have := HNj.out; simp at hb; omega)) t (HI6d.out.below hal))
                  (IsTmN.keep (M := w.heap.size) (by have := HLs.out; simp; omega) (fun b hb _ => hKp b (by have := HLs.out; simp at hb; omega)) t5 (HI5d.out.below hal)))
                clear hs4 hV hkc hal hKp HMk
                go_wp2
                exact bodyPost_ret (v := .tuple #[.agg #[.int .u8 (y : Int), .slice (some ⟨V0.heap.size, 0, none⟩) 2 2], .int .i64 ((i + 1 : Nat) : Int)]) (by simp [results, Tryd.results66, go_sem, r0, r1]) rfl ⟨hBz, .inr ⟨.two m t t5, i + 1, _, HV2.out, by have := HJ.out; have := HI.out; omega, by rw [HN.out]; have := HI.out; omega, rfl, HQ.out⟩⟩
              · have HV2 : Hid (readL n (s.toList.drop k) = none) := Lib.hid (by rw [HTwo.out, hyes5]; exact if_neg hq)
                have hq2 : q.toNat ≠ 41 := fun e => hq ((u8_eq q 41 (by omega)).2 e)
                clear hq hyes5
                generalize q.toNat = o at *
                have d4 : ((o : Int) != 41) = true := by simp; omega
                have d5 : ((o : Int) == 41) = false := by simp; omega
                clear hq2
                obtain ⟨⟨f0, g0⟩, ⟨f1, g1⟩, ⟨r0, r1⟩, f3, g3, hBz, hKp⟩ := ret_box hB6 hD6 (.int .u8 101) (.slice A 0 cap)
                have q0 := hE6.cell0
                have q1 := hE6.cell1
                go_wp2
                exact bodyPost_ret (v := .tuple #[.agg #[.int .u8 101, .slice A 0 cap], .int .i64 0]) (by simp [results, Tryd.results66, go_sem, r0, r1]) rfl ⟨hBz, .inl ⟨HV2.out, _, _, _, _, rfl⟩⟩
        · go_wp2_with fail
          refine (HIH.out (j + 1) (by have := HJ.out; omega) (by have := HJ.out; rw [HN.out]; omega) _).mono ?_
          rintro e w5 ⟨hb5, hr5⟩
          clear m3 m4
          have hB5 := hB4.trans (hb5.mono hB4.size)
          have hD5 := hD4.under hD4.lt hb5
          have hE5 := hE4.under hE4.lt hb5
          have hF5 := hF4.under hF4.lt hb5
          rcases hr5 with ⟨hno, z5, A5, l5, c5, rfl⟩ | ⟨t5, i, v5, hyes5, hi1, hi2, rfl, hI5⟩
          · have HV2 : Hid (readL n (s.toList.drop k) = none) := Lib.hid (by rw [HTwo.out, hno])
            have hB6 := hB5.alloc hB5.size (.cells #[.int .u8 z5, .slice A5 l5 c5] 50)
            have hD6 := hD5.alloc (.cells #[.int .u8 z5, .slice A5 l5 c5] 50)
            have hE6 := hE5.alloc (.cells #[.int .u8 z5, .slice A5 l5 c5] 50)
            obtain ⟨⟨f0, g0⟩, ⟨f1, g1⟩, ⟨r0, r1⟩, f3, g3, hBz, hKp⟩ := ret_box hB6 hD6 (.int .u8 101) (.slice A 0 cap)
            have q0 := hE6.cell0
            have q1 := hE6.cell1
            clear hno
            go_wp2
            exact bodyPost_ret (v := .tuple #[.agg #[.int .u8 101, .slice A 0 cap], .int .i64 0]) (by simp [results, Tryd.results66, go_sem, r0, r1]) rfl ⟨hBz, .inl ⟨HV2.out, _, _, _, _, rfl⟩⟩
          · obtain ⟨A5, l5, c5, rfl⟩ := hI5.agg
            generalize (signT t5).toNat = z5 at *
            have hB6 := hB5.alloc hB5.size (.cells #[.int .u8 (z5 : Int), .slice A5 l5 c5] 50)
            have hD6 := hD5.alloc (.cells #[.int .u8 (z5 : Int), .slice A5 l5 c5] 50)
            have hE6 := hE5.alloc (.cells #[.int .u8 (z5 : Int), .slice A5 l5 c5] 50)
            have hF6 := hF5.alloc (.cells #[.int .u8 (z5 : Int), .slice A5 l5 c5] 50)
            have hG6 := Duo.new w5 50 (.int .u8 (z5 : Int)) (.slice A5 l5 c5)
            have HI6 := Lib.hid ((HI4.out.below hb5).below ((Below.refl _ w5).alloc (Nat.le_refl _) (.cells #[.int .u8 (z5 : Int), .slice A5 l5 c5] 50)))
            have HI5 := Lib.hid (hI5.below ((Below.refl _ w5).alloc (Nat.le_refl _) (.cells #[.int .u8 (z5 : Int), .slice A5 l5 c5] 50)))
            have iz : ((i : Int) == 0) = false := by simp; omega
            have iz2 : ¬ (i = 0) := by omega
            rw [HN.out] at hi2
            clear hI5
            by_cases hiN : i = N
            · have HV2 : Hid (readL n (s.toList.drop k) = none) := Lib.hid (by rw [HTwo.out]; rw [drop_nil s i (by rw [HN.out]; exact hiN)] at hyes5; rw [hyes5])
              have i1 : decide ((N : Int) ≤ (i : Int)) = true := decide_eq_true (by omega)
              have i2 : (N : Int) ≤ (i : Int) := by omega
              have i3 : N ≤ i := by omega
              have i4 : decide (N ≤ i) = true := decide_eq_true i3
              clear hiN hyes5 hi1 hi2
              obtain ⟨⟨f0, g0⟩, ⟨f1, g1⟩, ⟨r0, r1⟩, f3, g3, hBz, hKp⟩ := ret_box hB6 hD6 (.int .u8 101) (.slice A 0 cap)
              have q0 := hE6.cell0
              have q1 := hE6.cell1
              go_wp2
              exact bodyPost_ret (v := .tuple #[.agg #[.int .u8 101, .slice A 0 cap], .int .i64 0]) (by simp [results, Tryd.results66, go_sem, r0, r1]) rfl ⟨hBz, .inl ⟨HV2.out, _, _, _, _, rfl⟩⟩
            · obtain ⟨q, hdq, hiqx⟩ := cons_at s i (by rw [HN.out]; omega)
              rw [hdq] at hyes5
              have i1 : decide ((N : Int) ≤ (i : Int)) = false := decide_eq_false (by omega)
              have i2 : ¬ (N : Int) ≤ (i : Int) := by omega
              have i3 : ¬ N ≤ i := by omega
              have i4 : decide (N ≤ i) = false := decide_eq_false i3
              have i5 : (0 : Int) ≤ (i : Int) := by omega
              have i6 : (i : Int) < (N : Int) := by omega
              obtain ⟨m5, m6⟩ := up_wraps i (small60 (Nat.lt_of_le_of_ne hi2 hiN) H60.out)
              have HI : Hid (j + 1 < i ∧ i < N) := Lib.hid (by omega)
              clear hdq hiN hi1 hi2
              by_cases hq : q = 41
              · subst hq
                have hq' : (((41 : UInt8).toNat : Nat) : Int) = 41 := rfl
                rw [hq'] at hiqx
                have HV2 : Hid (readL n (s.toList.drop k) = some (.two m t t5, s.toList.drop (i + 1))) := Lib.hid (by rw [HTwo.out, hyes5]; exact if_pos rfl)
                clear hq' hyes5
                have q2 := hF6.cell0
                have q3 := hF6.cell1
                go_wp2
                clear q2 q3
                obtain ⟨V0, hV0⟩ : ∃ V0, (w5.alloc (.cells #[.int .u8 (z5 : Int), .slice A5 l5 c5] 50)).drew = V0 := ⟨_, rfl⟩
                have hB6d := hB6.drew
                have hA0 : Duo V0 w3.heap.size 50 (.int .u8 (z : Int)) (.slice A3 l3 c3) ∧ Duo V0 w5.heap.size 50 (.int .u8 (z5 : Int)) (.slice A5 l5 c5) := by rw [← hV0]; exact ⟨hF6, hG6⟩
                have hD6d : Duo V0 w.heap.size 50 (.int .u8 0) (.slice none 0 0) := by rw [← hV0]; exact hD6
                have HI6d := Lib.hid ((HI6.out).below (Below.refl _ _).drew)
                have HI5d := Lib.hid ((HI5.out).below (Below.refl _ _).drew)
                rw [hV0] at hB6d HI6d HI5d
                have hl3 : w.heap.size < w3.heap.size := hD3.lt
                have hl5 : w.heap.size < w5.heap.size := hD5.lt
                have HLs : Hid (w.heap.size < w3.heap.size ∧ w.heap.size < w5.heap.size) := Lib.hid ⟨hl3, hl5⟩
                clear hl3 hl5
                refine wp_region_held_drew (S := fun V => Duo V w3.heap.size 50 (.int .u8 (z : Int)) (.slice A3 l3 c3) ∧ Duo V w5.heap.size 50 (.int .u8 (z5 : Int)) (.slice A5 l5 c5)) hmx (by rw [hV0]; exact hA0) (fun _ => ?_)
                rw [hV0]
                clear hV0
                refine take1 0 (v := ?_) rfl (by kernel_rfl) (by kernel_rfl) (by kernel_rfl) (fun _ _ _ h => h) (by rfl) ?_ hA0 ?_
                rotate_left
                · intro V9 hA
                  have f1 := hA.1.cell0
                  have f2 := hA.1.cell1
                  have f3 := hA.2.cell0
                  have f4 := hA.2.cell1
                  clear hA
                  go_simp
                  try with_reducible rfl
                try simp only [Act.put, List.setIfInBounds_toArray, List.set_cons_zero, List.set_cons_succ]
                refine take1 1 (v := ?_) rfl (by kernel_rfl) (by kernel_rfl) (by kernel_rfl) (fun _ _ _ h => h) (by rfl) ?_ hA0 ?_
                rotate_left
                · intro V9 hA
                  have f1 := hA.1.cell0
                  have f2 := hA.1.cell1
                  have f3 := hA.2.cell0
                  have f4 := hA.2.cell1
                  clear hA
                  go_simp
                  try with_reducible rfl
                try simp only [Act.put, List.setIfInBounds_toArray, List.set_cons_zero, List.set_cons_succ]
                refine take1 2 (v := ?_) rfl (by kernel_rfl) (by kernel_rfl) (by kernel_rfl) (fun _ _ _ h => h) (by rfl) ?_ hA0 ?_
                rotate_left
                · intro V9 hA
                  have f1 := hA.1.cell0
                  have f2 := hA.1.cell1
                  have f3 := hA.2.cell0
                  have f4 := hA.2.cell1
                  clear hA
                  go_simp
                  try with_reducible rfl
                try simp only [Act.put, List.setIfInBounds_toArray, List.set_cons_zero, List.set_cons_succ]
                refine take1 3 (v := ?_) rfl (by kernel_rfl) (by kernel_rfl) (by kernel_rfl) (fun _ _ _ h => h) (by rfl) ?_ hA0 ?_
                rotate_left
                · intro V9 hA
                  have f1 := hA.1.cell0
                  have f2 := hA.1.cell1
                  have f3 := hA.2.cell0
                  have f4 := hA.2.cell1
                  clear hA
                  go_simp
                  try with_reducible rfl
                try simp only [Act.put, List.setIfInBounds_toArray, List.set_cons_zero, List.set_cons_succ]
                refine take1 4 (v := ?_) rfl (by kernel_rfl) (by kernel_rfl) (by kernel_rfl) (fun _ _ _ h => h) (by rfl) ?_ hA0 ?_
                rotate_left
                · intro V9 hA
                  have f1 := hA.1.cell0
                  have f2 := hA.1.cell1
                  have f3 := hA.2.cell0
                  have f4 := hA.2.cell1
                  clear hA
                  go_simp
                  try with_reducible rfl
                try simp only [Act.put, List.setIfInBounds_toArray, List.set_cons_zero, List.set_cons_succ]
                refine take1 7 (v := ?_) rfl (by kernel_rfl) (by kernel_rfl) (by kernel_rfl) (fun _ _ _ h => h) (by rfl) ?_ hA0 ?_
                rotate_left
                · intro V9 hA
                  clear hA
                  go_simp
                  try with_reducible rfl
                try simp only [Act.put, List.setIfInBounds_toArray, List.set_cons_zero, List.set_cons_succ]
                refine take1 8 (v := ?_) rfl (by kernel_rfl) (by kernel_rfl) (by kernel_rfl) (fun _ _ _ h => h) (by rfl) ?_ hA0 ?_
                rotate_left
                · intro V9 hA
                  clear hA
                  go_simp
                  try with_reducible rfl
                try simp only [Act.put, List.setIfInBounds_toArray, List.set_cons_zero, List.set_cons_succ]
                have hB7 := hB6d.alloc hB6d.size (.cells #[.int .u8 (z : Int), .slice A3 l3 c3, .int .u8 (z5 : Int), .slice A5 l5 c5] 50)
                have hD7 := hD6d.alloc (.cells #[.int .u8 (z : Int), .slice A3 l3 c3, .int .u8 (z5 : Int), .slice A5 l5 c5] 50)
                have hA1 := (⟨hA0.1.alloc (.cells #[.int .u8 (z : Int), .slice A3 l3 c3, .int .u8 (z5 : Int), .slice A5 l5 c5] 50), hA0.2.alloc (.cells #[.int .u8 (z : Int), .slice A3 l3 c3, .int .u8 (z5 : Int), .slice A5 l5 c5] 50)⟩ : _ ∧ _)
                refine step1 5 (by kernel_rfl) rfl (fun K hK => ?_)
                go_simp
                refine hK.out _ _ hA1 ?_
                clear hK K
                try simp only [Act.put, List.setIfInBounds_toArray, List.set_cons_zero, List.set_cons_succ]
                refine take1 6 (v := ?_) rfl (by kernel_rfl) (by kernel_rfl) (by kernel_rfl) (fun _ _ _ h => h) (by rfl) ?_ hA1 ?_
                rotate_left
                · intro V9 hA
                  clear hA
                  go_simp
                  try with_reducible rfl
                try simp only [Act.put, List.setIfInBounds_toArray, List.set_cons_zero, List.set_cons_succ]
                obtain ⟨⟨f0, g0⟩, ⟨f1, g1⟩, ⟨r0, r1⟩, f3, g3, hBz, hKp⟩ := ret_box hB7 hD7 (.int .u8 (y : Int)) (.slice (some ⟨V0.heap.size, 0, none⟩) 2 2)
                have hA2 := (⟨(hA1.1.same (hKp _ HLs.out.1)), (hA1.2.same (hKp _ HLs.out.2))⟩ : _ ∧ _)
                refine step1 9 (by kernel_rfl) rfl (fun K hK => ?_)
                go_simp
                refine hK.out _ _ hA2 ?_
                clear hK K
                try simp only [Act.put, List.setIfInBounds_toArray, List.set_cons_zero, List.set_cons_succ]
                refine take1 10 (v := ?_) rfl (by kernel_rfl) (by kernel_rfl) (by kernel_rfl) (fun _ _ _ h => h) (by rfl) ?_ hA2 ?_
                rotate_left
                · intro V9 hA
                  clear hA
                  go_simp
                  try with_reducible rfl
                try simp only [Act.put, List.setIfInBounds_toArray, List.set_cons_zero, List.set_cons_succ]
                refine stop1 (by kernel_rfl) ?_
                have hs4 := slice_two V0 (.int .u8 (z : Int)) (.slice A3 l3 c3) (.int .u8 (z5 : Int)) (.slice A5 l5 c5) _ (Below.refl _ _)
                have hV : w.heap.size < V0.heap.size := hD6d.lt
                have hkc : ∀ (i : Nat) (v : Value), (V0.alloc (.cells #[.int .u8 (z : Int), .slice A3 l3 c3, .int .u8 (z5 : Int), .slice A5 l5 c5] 50)).cell? ⟨V0.heap.size, i, none⟩ = some v → (((V0.alloc (.cells #[.int .u8 (z : Int), .slice A3 l3 c3, .int .u8 (z5 : Int), .slice A5 l5 c5] 50)).setCell ⟨w.heap.size, 0, none⟩ (.int .u8 (y : Int))).setCell ⟨w.heap.size, 1, none⟩ (.slice (some ⟨V0.heap.size, 0, none⟩) 2 2)).cell? ⟨V0.heap.size, i, none⟩ = some v := fun i v h =>
                  (World.cell?_of_block (hKp V0.heap.size hV)).trans h
                have hal : Below V0.heap.size V0 (V0.alloc (.cells #[.int .u8 (z : Int), .slice A3 l3 c3, .int .u8 (z5 : Int), .slice A5 l5 c5] 50)) := (Below.refl _ V0).alloc (Nat.le_refl _) _
                have HQ := Lib.hid (HMk.out _ w.heap.size V0.heap.size t t5 _ _ _ _ (Nat.le_of_lt hV) (hkc 0 _ hs4.1) (hkc 1 _ hs4.2.1) (hkc 2 _ hs4.2.2.1) (hkc 3 _ hs4.2.2.2)
                  (IsTmN.keep (M := w.heap.size) (by have := HNj.out; simp; omega) (fun b hb _ => hKp b (by have := HNj.out; simp at hb; omega)) t (HI6d.out.below hal))
                  (IsTmN.keep (M := w.heap.size) (by have := HLs.out; simp; omega) (fun b hb _ => hKp b (by have := HLs.out; simp at hb; omega)) t5 (HI5d.out.below hal)))
                clear hs4 hV hkc hal hKp HMk
                go_wp2
                exact bodyPost_ret (v := .tuple #[.agg #[.int .u8 (y : Int), .slice (some ⟨V0.heap.size, 0, none⟩) 2 2], .int .i64 ((i + 1 : Nat) : Int)]) (by simp [results, Tryd.results66, go_sem, r0, r1]) rfl ⟨hBz, .inr ⟨.two m t t5, i + 1, _, HV2.out, by have := HJ.out; have := HI.out; omega, by rw [HN.out]; have := HI.out; omega, rfl, HQ.out⟩⟩
              · have HV2 : Hid (readL n (s.toList.drop k) = none) := Lib.hid (by rw [HTwo.out, hyes5]; exact if_neg hq)
                have hq2 : q.toNat ≠ 41 := fun e => hq ((u8_eq q 41 (by omega)).2 e)
                clear hq hyes5
                generalize q.toNat = o at *
                have d4 : ((o : Int) != 41) = true := by simp; omega
                have d5 : ((o : Int) == 41) = false := by simp; omega
                clear hq2
                obtain ⟨⟨f0, g0⟩, ⟨f1, g1⟩, ⟨r0, r1⟩, f3, g3, hBz, hKp⟩ := ret_box hB6 hD6 (.int .u8 101) (.slice A 0 cap)
                have q0 := hE6.cell0
                have q1 := hE6.cell1
                go_wp2
                exact bodyPost_ret (v := .tuple #[.agg #[.int .u8 101, .slice A 0 cap], .int .i64 0]) (by simp [results, Tryd.results66, go_sem, r0, r1]) rfl ⟨hBz, .inl ⟨HV2.out, _, _, _, _, rfl⟩⟩
      · have HV2 : Hid (readL n (s.toList.drop k) = none) := Lib.hid (by rw [HD.out]; exact readL_open_mid n _ t m _ HYes.out hm)
        clear hm HYes
        generalize m.toNat = y at *
        have d1 : ((y : Int) != 43) = true := by simp; omega
        have d2 : ((y : Int) != 38) = true := by simp; omega
        have d3 : ((y : Int) != 46) = true := by simp; omega
        have e1 : ((y : Int) == 43) = false := by simp; omega
        have e2 : ((y : Int) == 38) = false := by simp; omega
        have e3 : ((y : Int) == 46) = false := by simp; omega
        clear x1 x2 x3
        obtain ⟨⟨f0, g0⟩, ⟨f1, g1⟩, ⟨r0, r1⟩, f3, g3, hBz, hKp⟩ := ret_box hB4 hD4 (.int .u8 101) (.slice A 0 cap)
        have q0 := hE4.cell0
        have q1 := hE4.cell1
        go_wp2
        exact bodyPost_ret (v := .tuple #[.agg #[.int .u8 101, .slice A 0 cap], .int .i64 0]) (by simp [results, Tryd.results66, go_sem, r0, r1]) rfl ⟨hBz, .inl ⟨HV2.out, _, _, _, _, rfl⟩⟩
/-- The model reads any text of at most 60 bytes. -/
theorem l11Read_any (n : Nat) (s : ByteArray) (h1 : 1 ≤ n) (h2 : n ≤ 12) (h60 : s.size ≤ 60) (d : Nat) : ∀ k, k ≤ s.size → s.size - k ≤ d → ReadSays n s k := by
  induction d with
  | zero => intro k hk hd; exact read_end n s k (by omega) h60
  | succ d ih =>
    intro k hk hd
    by_cases hlt : k < s.size
    · obtain ⟨c, hc, hidx⟩ := cons_at s k hlt
      by_cases he : c = 101
      · exact read_e n s k h1 h2 hlt h60 c hc hidx he
      · by_cases hp : 0 ≤ placeB c
        · by_cases hn : placeB c < (n : Int)
          · exact read_place n s k h1 h2 hlt h60 c hc hidx hp hn
          · exact read_far n s k h1 h2 hlt h60 c hc hidx hp (by omega)
        · by_cases hf : isFront c = true
          · exact read_front n s k h1 h2 hlt h60 c hc hidx hf (ih (k + 1) (by omega) (by omega))
          · by_cases h40 : c = 40
            · exact read_pair n s k h1 h2 hlt h60 c hc hidx h40 (fun j h3 h4 => ih j h4 (by omega))
            · exact read_other n s k h1 h2 hlt h60 c hc hidx (by omega) he (by simpa using hf) h40
    · exact read_end n s k (by omega) h60
/-- What the model's reading of a whole text tells. -/
def OfPost (n : Int) (s : ByteArray) (w : World) (e : Ending) (w' : World) : Prop :=
  Below w.heap.size w w' ∧ ((termO n s.toList = none ∧ ∃ z A l c, e = .returned (.tuple #[.agg #[.int .u8 z, .slice A l c], .bool false])) ∨
    ∃ t v, termO n s.toList = some t ∧ e = .returned (.tuple #[v, .bool true]) ∧ IsTm w' t v)
theorem term_read (n : Nat) (s : ByteArray) (h1 : 1 ≤ n) (h2 : n ≤ 12) (h60 : s.size ≤ 60) : termO (n : Int) s.toList = match readL n s.toList with | some (t, []) => some t | _ => none := by
  unfold termO
  rw [if_pos ⟨⟨by omega, by omega⟩, by rw [bytes_len]; exact h60⟩, Int.toNat_natCast]
  rfl
theorem term_out (n : Int) (s : ByteArray) (h : ¬ ((1 ≤ n ∧ n ≤ 12) ∧ s.size ≤ 60)) : termO n s.toList = none := by
  unfold termO
  rw [if_neg (by rw [bytes_len]; exact h)]
theorem ringIn_of (n : Int) (W : World) : Calls Tryd.prog 57 #[.int .i64 n, .int .i64 0] W fun e w' => e = .returned (.bool (decide (1 ≤ n ∧ n ≤ 12))) ∧ W = w' := by
  by_cases h : 1 ≤ n ∧ n ≤ 12
  · obtain ⟨m, rfl⟩ : ∃ m : Nat, n = (m : Int) := ⟨n.toNat, by omega⟩
    rw [decide_eq_true h]
    exact specIn_yes m 0 W (by omega) (by omega) (Nat.two_pow_pos m)
  · rw [decide_eq_false h]
    exact specIn_no n 0 W (fun hh => h ⟨hh.1, hh.2.1⟩)
set_option maxHeartbeats 2000000 in
/-- The model reads any whole text. -/
theorem l11Of_any (n : Int) (s : ByteArray) (w : World) (hsz : s.size ≤ 1048576) : Calls Tryd.prog 38 #[.int .i64 n, .string s] w (OfPost n s w) := by
  have HR := Lib.hid (fun W => ringIn_of n W)
  have HL := Lib.hid (fun W => leaf101 W)
  have hB0 : Below w.heap.size w (w.alloc (.cells #[.int .u8 0, .slice none 0 0] 50)) := (Below.refl _ _).alloc (Nat.le_refl _) _
  have hD0 := Duo.new w 50 (.int .u8 0) (.slice none 0 0)
  obtain ⟨N, hN⟩ : ∃ N, s.size = N := ⟨_, rfl⟩
  have HN := Lib.hid hN
  by_cases hn : 1 ≤ n ∧ n ≤ 12
  · rw [decide_eq_true hn] at HR
    by_cases h60 : N ≤ 60
    · obtain ⟨m, rfl⟩ : ∃ m : Nat, n = (m : Int) := ⟨n.toNat, by omega⟩
      have HX := Lib.hid (l11Read_any m s (by omega) (by omega) (by omega) N 0 (by omega) (by omega))
      have HT := Lib.hid (term_read m s (by omega) (by omega) (by omega))
      have g60 : decide (60 < (N : Int)) = false := decide_eq_false (by omega)
      have g0 : ¬ (60 < (N : Int)) := by omega
      have g61 : ¬ (60 < N) := by omega
      clear hn hsz h60
      go_enter Tryd.func38, Tryd.ntmps38
      go_wp2_with fail
      refine (HR.out _).mono ?_
      rintro e w1 ⟨rfl, rfl⟩
      go_wp2_with fail
      refine (HX.out _).mono ?_
      rintro e w3 ⟨hb3, hr⟩
      have hB3 := hB0.trans (hb3.mono hB0.size)
      have hD3 := hD0.under hD0.lt hb3
      clear hB0 hD0
      rcases hr with ⟨hno, z, A3, l3, c3, rfl⟩ | ⟨t, j, v, hyes, hj1, hj2, rfl, hI⟩
      · have HV2 : Hid (termO (m : Int) s.toList = none) := Lib.hid (by rw [HT.out]; rw [List.drop_zero] at hno; rw [hno])
        have hB4 := hB3.alloc hB3.size (.cells #[.int .u8 z, .slice A3 l3 c3] 50)
        have hD4 := hD3.alloc (.cells #[.int .u8 z, .slice A3 l3 c3] 50)
        obtain ⟨⟨f0, g0⟩, ⟨f1, g1⟩, ⟨r0, r1⟩, f3, g3, hBz, hKp⟩ := ret_box hB4 hD4 (.int .u8 z) (.slice A3 l3 c3)
        clear hno HT
        go_wp2
        exact bodyPost_ret (v := .tuple #[.agg #[.int .u8 z, .slice A3 l3 c3], .bool false]) (by simp [results, Tryd.results38, go_sem, r0, r1]) rfl ⟨hBz, .inl ⟨HV2.out, _, _, _, _, rfl⟩⟩
      · obtain ⟨A3, l3, c3, rfl⟩ := hI.agg
        generalize (signT t).toNat = z at *
        have hB4 := hB3.alloc hB3.size (.cells #[.int .u8 (z : Int), .slice A3 l3 c3] 50)
        have hD4 := hD3.alloc (.cells #[.int .u8 (z : Int), .slice A3 l3 c3] 50)
        obtain ⟨⟨f0, g0⟩, ⟨f1, g1⟩, ⟨r0, r1⟩, f3, g3, hBz, hKp⟩ := ret_box hB4 hD4 (.int .u8 (z : Int)) (.slice A3 l3 c3)
        have HI := Lib.hid (IsTmN.is t (IsTmN.keep (M := 0) (Nat.zero_le _) (fun b hb _ => hKp b (by simp at hb; omega)) t (hI.below ((Below.refl _ w3).alloc (Nat.le_refl _) (.cells #[.int .u8 (z : Int), .slice A3 l3 c3] 50)))))
        have e1 : decide ((0 : Int) < (j : Int)) = true := decide_eq_true (by omega)
        have e2 : (0 : Int) < (j : Int) := by omega
        have e3 : 0 < j := by omega
        rw [List.drop_zero] at hyes
        by_cases hjN : j = N
        · have HV2 : Hid (termO (m : Int) s.toList = some t) := Lib.hid (by rw [HT.out, hyes, drop_nil s j (by omega)])
          have e4 : ((j : Int) == (N : Int)) = true := by simp; omega
          clear hyes HT hI hKp hB3 hB4 hD3 hD4 hjN hj1 hj2
          go_wp2
          exact bodyPost_ret (v := .tuple #[.agg #[.int .u8 (z : Int), .slice A3 l3 c3], .bool true]) (by simp [results, Tryd.results38, go_sem, r0, r1]) rfl ⟨hBz, .inr ⟨t, _, HV2.out, rfl, HI.out⟩⟩
        · have HV2 : Hid (termO (m : Int) s.toList = none) := Lib.hid (by
            obtain ⟨c, hc, _⟩ := cons_at s j (by omega)
            rw [HT.out, hyes, hc])
          have e4 : ((j : Int) == (N : Int)) = false := by simp; omega
          clear hyes HT hI hKp hB3 hB4 hD3 hD4 hjN hj1 hj2
          go_wp2
          exact bodyPost_ret (v := .tuple #[.agg #[.int .u8 (z : Int), .slice A3 l3 c3], .bool false]) (by simp [results, Tryd.results38, go_sem, r0, r1]) rfl ⟨hBz, .inl ⟨HV2.out, _, _, _, _, rfl⟩⟩
    · have HV2 := Lib.hid (term_out n s (by omega))
      have g60 : decide (60 < (N : Int)) = true := decide_eq_true (by omega)
      have g0 : (60 < (N : Int)) := by omega
      have g61 : 60 < N := by omega
      clear hn hsz h60
      go_enter Tryd.func38, Tryd.ntmps38
      go_wp2_with fail
      refine (HR.out _).mono ?_
      rintro e w1 ⟨rfl, rfl⟩
      go_wp2_with fail
      refine (HL.out _).mono ?_
      rintro e w3 ⟨⟨A3, c3, rfl⟩, hb3⟩
      have hB3 := hB0.trans (hb3.mono hB0.size)
      have hD3 := hD0.under hD0.lt hb3
      clear hB0 hD0
      obtain ⟨⟨f0, g0⟩, ⟨f1, g1⟩, ⟨r0, r1⟩, f3, g3, hBz, hKp⟩ := ret_box hB3 hD3 (.int .u8 101) (.slice A3 0 c3)
      go_wp2
      exact bodyPost_ret (v := .tuple #[.agg #[.int .u8 101, .slice A3 0 c3], .bool false]) (by simp [results, Tryd.results38, go_sem, r0, r1]) rfl ⟨hBz, .inl ⟨HV2.out, _, _, _, _, rfl⟩⟩
  · have HV2 := Lib.hid (term_out n s (fun h => hn h.1))
    rw [decide_eq_false hn] at HR
    clear hn hsz
    go_enter Tryd.func38, Tryd.ntmps38
    go_wp2_with fail
    refine (HR.out _).mono ?_
    rintro e w1 ⟨rfl, rfl⟩
    go_wp2_with fail
    refine (HL.out _).mono ?_
    rintro e w3 ⟨⟨A3, c3, rfl⟩, hb3⟩
    have hB3 := hB0.trans (hb3.mono hB0.size)
    have hD3 := hD0.under hD0.lt hb3
    clear hB0 hD0
    obtain ⟨⟨f0, g0⟩, ⟨f1, g1⟩, ⟨r0, r1⟩, f3, g3, hBz, hKp⟩ := ret_box hB3 hD3 (.int .u8 101) (.slice A3 0 c3)
    go_wp2
    exact bodyPost_ret (v := .tuple #[.agg #[.int .u8 101, .slice A3 0 c3], .bool false]) (by simp [results, Tryd.results38, go_sem, r0, r1]) rfl ⟨hBz, .inl ⟨HV2.out, _, _, _, _, rfl⟩⟩
end Go.Proofs.YtecjhkpldcmlaaaDoor
