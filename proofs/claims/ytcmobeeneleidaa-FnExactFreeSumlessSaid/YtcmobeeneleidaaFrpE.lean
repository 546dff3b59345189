/- Free sets, the program's side: freeMany, leastWatch, neat. Written by gen48.py. -/
import Derived.Test.YtcmobeeneleidaaFrpD
namespace Go.Proofs.Ytcmobeeneleidaa
open Go.RowKit Go.Shelf
set_option linter.unusedVariables false
attribute [local go_sem] Oper.semAt_some
set_option maxRecDepth 100000 in
set_option maxHeartbeats 4000000 in
theorem freeMany_any (n s : Nat) (w : World) (h1 : 1 ≤ n) (h2 : n ≤ 12) (hs : s < 2 ^ n) :
    Calls Try.prog 36 #[.agg #[.int .i64 (n:Int), .int .i64 (s:Int)]] w fun e w' => e = .returned (.int .i64 ((manyF n s : Nat) : Int)) ∧ Below w.heap.size w w' := by
  have hp := pow_le n h2
  have HF := Lib.hid (fun W => free_any n s W h1 h2 hs)
  refine (callsIn_wide (n := 9)).1 ?_
  refine callsIn_of_wp_marks Try.func36 rfl trivial ?_ rfl
  simp only [Try.ntmps36, List.size_toArray, List.length_cons, List.length_nil, Nat.reduceAdd, Nat.reduceSub, Array.replicate_succ, Array.replicate_zero, List.push_toArray, List.append_toArray, List.nil_append, List.cons_append]
  have bT0 := Boxed.new (w.alloc (.cells #[.int .i64 (n:Int), .int .i64 (s:Int)] 39)) 3 (.int .i64 0)
  have hA0 : Below w.heap.size w ((w.alloc (.cells #[.int .i64 (n:Int), .int .i64 (s:Int)] 39)).alloc (.cells #[.int .i64 0] 3)) := ((Below.refl _ w).alloc (Nat.le_refl _) _).alloc (by simp) _
  have hz0 : ((w.alloc (.cells #[.int .i64 (n:Int), .int .i64 (s:Int)] 39)).alloc (.cells #[.int .i64 0] 3)).heap.size = w.heap.size + 2 := by simp
  simp only [World.size_alloc] at bT0
  gi_wp2_with (refine ⟨trivial, ?_⟩; gi_at_call 34; refine (callsIn_wide.2 (HF.out _)).mono ?_; rintro e W1 ⟨R, H, rfl, hR, hH, bR, bH, hb1⟩)
  have bT := boxed_below bT0 bT0.lt hb1
  have hB0 := hA0.trans (hb1.mono (by omega))
  have hz1 := hb1.size
  rw [hz0] at hR hH hz1
  clear bT0 hA0 hb1 hz0
  refine wpIn_rangeFunc_ownF rfl (by omega) (gf := 62) (lb := #[.pointer (some ⟨R, 0, none⟩), .pointer (some ⟨H, 0, none⟩)]) rfl trivial (enters_of Try.func62 (by kernel_rfl) rfl)
    (stops_isFree 8 (by omega) R H w.heap.size n s h1 h2 hs W1 bR bH) KS.trans (KS.put (by omega)) (Below.refl _ _) (fun _ => rfl)
    (fun pre W => Boxed W (w.heap.size + 1) 3 (.int .i64 ((foldP cntS 0 (vals pre) : Nat) : Int)) ∧ Below w.heap.size w W)
    (fun _ _ _ => False)
    (OwnFrom.and (Own.from (boxed_own _ _ _) _) (ownFrom_below (Nat.le_refl _) (by omega)))
    (fun _ _ _ _ _ hs _ _ => hs)
    ⟨bT, hB0⟩
    (fun x => { tmps := #[.agg #[.int .i64 (n:Int), .int .i64 (s:Int)], .pointer (some ⟨w.heap.size, 0, none⟩), .int .i64 0, .pointer (some ⟨w.heap.size + 1, 0, none⟩), .agg #[.int .i64 (n:Int), .int .i64 (s:Int)], .func (.func 62) #[] #[.pointer (some ⟨R, 0, none⟩), .pointer (some ⟨H, 0, none⟩)], .int .i64 (x.val : Int), undef, undef, undef], defers := [] }) ?assign ?body ?done ?stop
  case assign =>
    intro l x W K hK
    gi_wp2
    simpa using hK
  case body =>
    rintro l pre x W ⟨bT1, hB1⟩ hlen
    have hsW := hB1.size
    have lT := bT1.lt
    have HS := Lib.hid (foldP_snoc cntS 0 pre x)
    have hc : foldP cntS 0 (vals pre) < 5000 := by rw [foldP_cnt]; simpa [vals] using hlen
    have cT := bT1.cell
    have fT := bT1.frozen
    have HU : Hid (∀ m : Nat, cntS m x.val = m + 1) := Lib.hid (fun m => rfl)
    generalize foldP cntS 0 (vals pre) = m at *
    have hw : IntKind.i64.wrap ((m : Int) + 1) = ((m + 1 : Nat) : Int) := by rw [IntWalk.i64_in _ ⟨by omega, by omega⟩]; rfl
    have hA := (Aside.refl (w.heap.size + 1) W).set (.int .i64 ((m + 1 : Nat) : Int))
    have bT2 := bT1.set (.int .i64 ((m + 1 : Nat) : Int))
    gi_wp2
    exact ⟨hA.others bT1, ⟨hA.kb (by omega) (by omega) hsW, hA.kb (by omega) (by omega) hsW⟩, by rw [HS.out, HU.out]; exact bT2, hB1.trans (hA.below (by omega) hsW)⟩
  case done =>
    rintro D ys W hD rfl ⟨bT1, hB⟩ hK
    have cT := bT1.cell
    have HE : Hid (cntP (fsetN n s) (2 ^ n) = manyF n s) := Lib.hid rfl
    rw [foldP_come _ _ _ _ _ (Nat.le_refl _), cnt_run, HE.out] at cT
    gi_wp2
    refine ⟨by simp, .inl ⟨_, _, rfl, run_takeDeferred hK, ?_⟩⟩
    exact ⟨_, results_tmp rfl _ _ _, rfl, hB.trans (belowK_b (w := w) (Nat.le_refl _) W D _ _ (by omega) hK rfl rfl)⟩
  case stop =>
    rintro D c pre W _ _ h _
    exact h.elim
set_option maxRecDepth 100000 in
set_option maxHeartbeats 4000000 in
theorem leastWatch_any (n s : Nat) (w : World) (h1 : 1 ≤ n) (h2 : n ≤ 12) (hs : s < 2 ^ n) :
    Calls Try.prog 46 #[.agg #[.int .i64 (n:Int), .int .i64 (s:Int)]] w fun e w' => e = .returned (.int .i64 ((watchF n s : Nat) : Int)) ∧ Below w.heap.size w w' := by
  have hp := pow_le n h2
  refine (callsIn_wide (n := 9)).1 ?_
  refine callsIn_of_wp_marks Try.func46 rfl trivial ?_ rfl
  simp only [Try.ntmps46, List.size_toArray, List.length_cons, List.length_nil, Nat.reduceAdd, Nat.reduceSub, Array.replicate_succ, Array.replicate_zero, List.push_toArray, List.append_toArray, List.nil_append, List.cons_append]
  have hD0 := (Duo.new w 39 (.int .i64 (n:Int)) (.int .i64 (s:Int)))
  have d0 := hD0.cell0
  have d1 := hD0.cell1
  gi_wp2_with (refine ⟨trivial, ?_⟩; gi_at_call 50; refine (callsIn_wide.2 (setsThat_any _ _ _ _ _)).mono ?_; rintro e W1 ⟨rfl, rfl⟩)
  clear d0 d1 hD0
  have bT := ((Boxed.new (w.alloc (.cells #[.int .i64 (n:Int), .int .i64 (s:Int)] 39)) 3 (.int .i64 (n:Int))).alloc (.cells #[.int .i64 (n:Int)] 36)).alloc (.cells #[.func (.func 59) #[.agg #[.int .i64 (n:Int), .int .i64 (s:Int)]] #[]] 56)
  have bR := (Boxed.new ((w.alloc (.cells #[.int .i64 (n:Int), .int .i64 (s:Int)] 39)).alloc (.cells #[.int .i64 (n:Int)] 3)) 36 (.int .i64 (n:Int))).alloc (.cells #[.func (.func 59) #[.agg #[.int .i64 (n:Int), .int .i64 (s:Int)]] #[]] 56)
  have bH := Boxed.new (((w.alloc (.cells #[.int .i64 (n:Int), .int .i64 (s:Int)] 39)).alloc (.cells #[.int .i64 (n:Int)] 3)).alloc (.cells #[.int .i64 (n:Int)] 36)) 56 (.func (.func 59) #[.agg #[.int .i64 (n:Int), .int .i64 (s:Int)]] #[])
  have hB0 : Below w.heap.size w ((((w.alloc (.cells #[.int .i64 (n:Int), .int .i64 (s:Int)] 39)).alloc (.cells #[.int .i64 (n:Int)] 3)).alloc (.cells #[.int .i64 (n:Int)] 36)).alloc (.cells #[.func (.func 59) #[.agg #[.int .i64 (n:Int), .int .i64 (s:Int)]] #[]] 56)) := ((((Below.refl _ w).alloc (Nat.le_refl _) _).alloc (by simp) _).alloc (by simp; omega) _).alloc (by simp; omega) _
  have hsz : ((((w.alloc (.cells #[.int .i64 (n:Int), .int .i64 (s:Int)] 39)).alloc (.cells #[.int .i64 (n:Int)] 3)).alloc (.cells #[.int .i64 (n:Int)] 36)).alloc (.cells #[.func (.func 59) #[.agg #[.int .i64 (n:Int), .int .i64 (s:Int)]] #[]] 56)).heap.size = w.heap.size + 4 := by simp
  simp only [World.size_alloc] at bT bR bH
  obtain ⟨W0, hW0⟩ : ∃ W0, ((((w.alloc (.cells #[.int .i64 (n:Int), .int .i64 (s:Int)] 39)).alloc (.cells #[.int .i64 (n:Int)] 3)).alloc (.cells #[.int .i64 (n:Int)] 36)).alloc (.cells #[.func (.func 59) #[.agg #[.int .i64 (n:Int), .int .i64 (s:Int)]] #[]] 56)) = W0 := ⟨_, rfl⟩
  rw [hW0] at bT bR bH hB0 hsz ⊢
  clear hW0
  refine wpIn_rangeFunc_ownF rfl (by omega) (gf := 62) (lb := #[.pointer (some ⟨w.heap.size + 1 + 1, 0, none⟩), .pointer (some ⟨w.heap.size + 1 + 1 + 1, 0, none⟩)]) rfl trivial (enters_of Try.func62 (by kernel_rfl) rfl)
    (stops_watches 8 (by omega) (w.heap.size + 1 + 1) (w.heap.size + 1 + 1 + 1) w.heap.size n s h1 h2 hs W0 bR bH) KS.trans (KS.put (by omega)) (Below.refl _ _) (fun _ => rfl)
    (fun pre W => Boxed W (w.heap.size + 1) 3 (.int .i64 ((foldP lowS n (vals pre) : Nat) : Int)) ∧ Below w.heap.size w W)
    (fun _ _ _ => False)
    (OwnFrom.and (Own.from (boxed_own _ _ _) _) (ownFrom_below (Nat.le_refl _) (by omega)))
    (fun _ _ _ _ _ hs _ _ => hs)
    ⟨bT, hB0⟩
    (fun x => { tmps := #[.agg #[.int .i64 (n:Int), .int .i64 (s:Int)], .pointer (some ⟨w.heap.size, 0, none⟩), .int .i64 0, .pointer (some ⟨w.heap.size + 1, 0, none⟩), .int .i64 (x.val : Int), .pointer (some ⟨w.heap.size, 0, none⟩), .pointer (some ⟨w.heap.size, 0, none⟩), .int .i64 (n:Int), .pointer (some ⟨w.heap.size, 0, none⟩), .agg #[.int .i64 (n:Int)], .agg #[.int .i64 (n:Int), .int .i64 (s:Int)], .func (.func 59) #[.agg #[.int .i64 (n:Int), .int .i64 (s:Int)]] #[], .func (.func 62) #[] #[.pointer (some ⟨w.heap.size + 1 + 1, 0, none⟩), .pointer (some ⟨w.heap.size + 1 + 1 + 1, 0, none⟩)], .int .i64 (x.val : Int), undef, undef, undef, undef, undef], defers := [] }) ?assign ?body ?done ?stop
  case assign =>
    intro l x W K hK
    gi_wp2
    exact hK
  case body =>
    rintro l pre x W ⟨bT1, hB1⟩ hlen
    have hx := x.isLt
    have hm := lowS_le (2 ^ n) n h2 hp pre
    have hz := size12 hp hx
    have hsW := hB1.size
    have lT := bT1.lt
    have hmx : Try.prog.follows .mixedOrders = true := by kernel_rfl
    have HS := foldP_snoc lowS n pre x
    have Hsize := Lib.hid (fun W => placesSize_any x.val W (by omega))
    have HY := fun h => lowS_yes (m := foldP lowS n (vals pre)) (x := x.val) h
    have HNo := fun h => lowS_no (m := foldP lowS n (vals pre)) (x := x.val) h
    generalize foldP lowS n (vals pre) = m at *
    generalize sizeN x.val = z at *
    by_cases hlt : z < m
    · have k1 : (z : Int) < (m : Int) := by omega
      rw [HY hlt] at HS
      have HS := Lib.hid HS
      clear HY HNo hlt
      gi_wp2
      have hA0 := Aside.start (w.heap.size + 1) W
      have bT_0 := (show Boxed W.drew _ _ _ from bT1)
      refine region_round (fun W2 => Aside (w.heap.size + 1) W W2) hmx (by kernel_rfl) (fun ⟨_, _, h⟩ => h) hA0 (fun _ => ?_)
      refine take1 1 (v := ?_) rfl (by kernel_rfl) (by kernel_rfl) (by kernel_rfl) (fun _ _ _ h => h) (by rfl) ?_ hA0 ?_
      rotate_left
      · intro W2 hA
        clear hA
        go_simp
        try with_reducible rfl
      try simp only [Act.put, List.setIfInBounds_toArray, List.set_cons_zero, List.set_cons_succ]
      refine step2 0 2 (by kernel_rfl) rfl rfl (fun K hK => ?_) (fun K hK => ?_)
      · have cT_ := bT_0.cell
        go_simp
        refine hK.out _ _ hA0 ?_
        clear hK K
        try simp only [Act.put, List.setIfInBounds_toArray, List.set_cons_zero, List.set_cons_succ]
        refine step1 2 (by kernel_rfl) rfl (fun K hK => ?_)
        go_simp
        refine (Hsize.out _).mono ?_
        rintro e W1' ⟨rfl, hb1⟩
        go_wp2_with fail
        have hA1 := hA0.call hb1
        have bT_1 := boxed_below bT_0 bT_0.lt hb1
        refine hK.out _ _ hA1 ?_
        clear hK K
        try simp only [Act.put, List.setIfInBounds_toArray, List.set_cons_zero, List.set_cons_succ]
        refine take1 3 (v := ?_) rfl (by kernel_rfl) (by kernel_rfl) (by kernel_rfl) (fun _ _ _ h => h) (by rfl) ?_ hA1 ?_
        rotate_left
        · intro W2 hA
          clear hA
          go_simp
          try with_reducible rfl
        try simp only [Act.put, List.setIfInBounds_toArray, List.set_cons_zero, List.set_cons_succ]
        have cT_9 := bT_1.cell
        have fT_9 := bT_1.frozen
        refine step1 4 (by kernel_rfl) rfl (fun K hK => ?_)
        go_simp
        refine hK.out _ _ (hA1.set _) ?_
        clear hK K
        try simp only [Act.put, List.setIfInBounds_toArray, List.set_cons_zero, List.set_cons_succ]
        refine stop1 (by kernel_rfl) ?_
        gi_wp2
        exact ⟨(hA1.set _).others bT1, ⟨(hA1.set _).kb (by omega) (by omega) hsW, (hA1.set _).kb (by omega) (by omega) hsW⟩, by rw [HS.out]; exact (bT_1.set _), hB1.trans ((hA1.set _).below (by omega) hsW)⟩
      · go_simp
        refine (Hsize.out _).mono ?_
        rintro e W1' ⟨rfl, hb1⟩
        go_wp2_with fail
        have hA1 := hA0.call hb1
        have bT_1 := boxed_below bT_0 bT_0.lt hb1
        refine hK.out _ _ hA1 ?_
        clear hK K
        try simp only [Act.put, List.setIfInBounds_toArray, List.set_cons_zero, List.set_cons_succ]
        refine step1 0 (by kernel_rfl) rfl (fun K hK => ?_)
        have cT_ := bT_1.cell
        go_simp
        refine hK.out _ _ hA1 ?_
        clear hK K
        try simp only [Act.put, List.setIfInBounds_toArray, List.set_cons_zero, List.set_cons_succ]
        refine take1 3 (v := ?_) rfl (by kernel_rfl) (by kernel_rfl) (by kernel_rfl) (fun _ _ _ h => h) (by rfl) ?_ hA1 ?_
        rotate_left
        · intro W2 hA
          clear hA
          go_simp
          try with_reducible rfl
        try simp only [Act.put, List.setIfInBounds_toArray, List.set_cons_zero, List.set_cons_succ]
        have cT_9 := bT_1.cell
        have fT_9 := bT_1.frozen
        refine step1 4 (by kernel_rfl) rfl (fun K hK => ?_)
        go_simp
        refine hK.out _ _ (hA1.set _) ?_
        clear hK K
        try simp only [Act.put, List.setIfInBounds_toArray, List.set_cons_zero, List.set_cons_succ]
        refine stop1 (by kernel_rfl) ?_
        gi_wp2
        exact ⟨(hA1.set _).others bT1, ⟨(hA1.set _).kb (by omega) (by omega) hsW, (hA1.set _).kb (by omega) (by omega) hsW⟩, by rw [HS.out]; exact (bT_1.set _), hB1.trans ((hA1.set _).below (by omega) hsW)⟩
    · have k1 : ¬ (z : Int) < (m : Int) := by omega
      rw [HNo hlt] at HS
      have HS := Lib.hid HS
      clear HY HNo hlt
      gi_wp2
      have hA0 := Aside.start (w.heap.size + 1) W
      have bT_0 := (show Boxed W.drew _ _ _ from bT1)
      refine region_round (fun W2 => Aside (w.heap.size + 1) W W2) hmx (by kernel_rfl) (fun ⟨_, _, h⟩ => h) hA0 (fun _ => ?_)
      refine take1 1 (v := ?_) rfl (by kernel_rfl) (by kernel_rfl) (by kernel_rfl) (fun _ _ _ h => h) (by rfl) ?_ hA0 ?_
      rotate_left
      · intro W2 hA
        clear hA
        go_simp
        try with_reducible rfl
      try simp only [Act.put, List.setIfInBounds_toArray, List.set_cons_zero, List.set_cons_succ]
      refine step2 0 2 (by kernel_rfl) rfl rfl (fun K hK => ?_) (fun K hK => ?_)
      · have cT_ := bT_0.cell
        go_simp
        refine hK.out _ _ hA0 ?_
        clear hK K
        try simp only [Act.put, List.setIfInBounds_toArray, List.set_cons_zero, List.set_cons_succ]
        refine step1 2 (by kernel_rfl) rfl (fun K hK => ?_)
        go_simp
        refine (Hsize.out _).mono ?_
        rintro e W1' ⟨rfl, hb1⟩
        go_wp2_with fail
        have hA1 := hA0.call hb1
        have bT_1 := boxed_below bT_0 bT_0.lt hb1
        refine hK.out _ _ hA1 ?_
        clear hK K
        try simp only [Act.put, List.setIfInBounds_toArray, List.set_cons_zero, List.set_cons_succ]
        refine take1 3 (v := ?_) rfl (by kernel_rfl) (by kernel_rfl) (by kernel_rfl) (fun _ _ _ h => h) (by rfl) ?_ hA1 ?_
        rotate_left
        · intro W2 hA
          clear hA
          go_simp
          try with_reducible rfl
        try simp only [Act.put, List.setIfInBounds_toArray, List.set_cons_zero, List.set_cons_succ]
        have cT_9 := bT_1.cell
        have fT_9 := bT_1.frozen
        refine step1 4 (by kernel_rfl) rfl (fun K hK => ?_)
        go_simp
        refine hK.out _ _ (hA1.set _) ?_
        clear hK K
        try simp only [Act.put, List.setIfInBounds_toArray, List.set_cons_zero, List.set_cons_succ]
        refine stop1 (by kernel_rfl) ?_
        gi_wp2
        exact ⟨(hA1.set _).others bT1, ⟨(hA1.set _).kb (by omega) (by omega) hsW, (hA1.set _).kb (by omega) (by omega) hsW⟩, by rw [HS.out]; exact (bT_1.set _), hB1.trans ((hA1.set _).below (by omega) hsW)⟩
      · go_simp
        refine (Hsize.out _).mono ?_
        rintro e W1' ⟨rfl, hb1⟩
        go_wp2_with fail
        have hA1 := hA0.call hb1
        have bT_1 := boxed_below bT_0 bT_0.lt hb1
        refine hK.out _ _ hA1 ?_
        clear hK K
        try simp only [Act.put, List.setIfInBounds_toArray, List.set_cons_zero, List.set_cons_succ]
        refine step1 0 (by kernel_rfl) rfl (fun K hK => ?_)
        have cT_ := bT_1.cell
        go_simp
        refine hK.out _ _ hA1 ?_
        clear hK K
        try simp only [Act.put, List.setIfInBounds_toArray, List.set_cons_zero, List.set_cons_succ]
        refine take1 3 (v := ?_) rfl (by kernel_rfl) (by kernel_rfl) (by kernel_rfl) (fun _ _ _ h => h) (by rfl) ?_ hA1 ?_
        rotate_left
        · intro W2 hA
          clear hA
          go_simp
          try with_reducible rfl
        try simp only [Act.put, List.setIfInBounds_toArray, List.set_cons_zero, List.set_cons_succ]
        have cT_9 := bT_1.cell
        have fT_9 := bT_1.frozen
        refine step1 4 (by kernel_rfl) rfl (fun K hK => ?_)
        go_simp
        refine hK.out _ _ (hA1.set _) ?_
        clear hK K
        try simp only [Act.put, List.setIfInBounds_toArray, List.set_cons_zero, List.set_cons_succ]
        refine stop1 (by kernel_rfl) ?_
        gi_wp2
        exact ⟨(hA1.set _).others bT1, ⟨(hA1.set _).kb (by omega) (by omega) hsW, (hA1.set _).kb (by omega) (by omega) hsW⟩, by rw [HS.out]; exact (bT_1.set _), hB1.trans ((hA1.set _).below (by omega) hsW)⟩
  case done =>
    rintro D ys W hD rfl ⟨bT1, hB⟩ hK
    have cT := bT1.cell
    have HE : Hid (lowN (wideN n s) n (2 ^ n) = watchF n s) := Lib.hid rfl
    rw [foldP_come _ _ _ _ _ (Nat.le_refl _), low_run, HE.out] at cT
    gi_wp2
    refine ⟨by simp, .inl ⟨_, _, rfl, run_takeDeferred hK, ?_⟩⟩
    exact ⟨_, results_tmp rfl _ _ _, rfl, hB.trans (belowK_b (w := w) (Nat.le_refl _) W D _ _ (by omega) hK rfl rfl)⟩
  case stop =>
    rintro D c pre W _ _ h _
    exact h.elim
end Go.Proofs.Ytcmobeeneleidaa
