import Derived.Test.YthccchelemnnfaaHeld
namespace Go.Proofs.Ythccchelemnnfaa
open Go.RowKit Go.Shelf
set_option linter.unusedVariables false
attribute [local go_sem] Oper.semAt_some
set_option maxRecDepth 100000 in
set_option maxHeartbeats 2000000 in
theorem turn_any (n s : Nat) (m : Int) (w : World) (h1 : 1 ≤ n) (h2 : n ≤ 12) (hs : s < 2 ^ n) (hm1 : -1000 ≤ m) (hm2 : m ≤ 1000) :
    Calls Try.prog 56 #[.agg #[.int .i64 (n:Int)], .int .i64 (s:Int), .int .i64 m] w fun e w' => e = .returned (.int .i64 ((turnN n s m : Nat) : Int)) ∧ Below w.heap.size w w' := by
  refine (callsIn_wide (n := 9)).1 ?_
  refine callsIn_of_wp_marks Try.func56 rfl trivial ?_ rfl
  simp only [Try.ntmps56, List.size_toArray, List.length_cons, List.length_nil, Nat.reduceAdd, Nat.reduceSub, Array.replicate_succ, Array.replicate_zero, List.push_toArray, List.append_toArray, List.nil_append, List.cons_append]
  gi_wp2_with (refine ⟨trivial, ?_⟩; gi_at_call 65; refine (callsIn_wide.2 (places_any s _)).mono ?_; rintro e w' ⟨rfl, rfl⟩)
  have bR := (((Boxed.new w 42 (.int .i64 (n:Int))).alloc (.cells #[.int .i64 m] 3)).alloc (.cells #[.int .i64 0] 45)).alloc (.cells #[.int .i64 (s:Int)] 45)
  have bM := ((Boxed.new (w.alloc (.cells #[.int .i64 (n:Int)] 42)) 3 (.int .i64 m)).alloc (.cells #[.int .i64 0] 45)).alloc (.cells #[.int .i64 (s:Int)] 45)
  have bT := (Boxed.new ((w.alloc (.cells #[.int .i64 (n:Int)] 42)).alloc (.cells #[.int .i64 m] 3)) 45 (.int .i64 0)).alloc (.cells #[.int .i64 (s:Int)] 45)
  have bP := Boxed.new (((w.alloc (.cells #[.int .i64 (n:Int)] 42)).alloc (.cells #[.int .i64 m] 3)).alloc (.cells #[.int .i64 0] 45)) 45 (.int .i64 (s:Int))
  simp only [World.size_alloc] at bM bT bP
  have hB0 : Below w.heap.size w ((((w.alloc (.cells #[.int .i64 (n:Int)] 42)).alloc (.cells #[.int .i64 m] 3)).alloc (.cells #[.int .i64 0] 45)).alloc (.cells #[.int .i64 (s:Int)] 45)) :=
    ((((Below.refl _ w).alloc (Nat.le_refl _) _).alloc (by simp) _).alloc (by simp; omega) _).alloc (by simp; omega) _
  have hsz : ((((w.alloc (.cells #[.int .i64 (n:Int)] 42)).alloc (.cells #[.int .i64 m] 3)).alloc (.cells #[.int .i64 0] 45)).alloc (.cells #[.int .i64 (s:Int)] 45)).heap.size = w.heap.size + 4 := by simp
  obtain ⟨W0, hW0⟩ : ∃ W0, ((((w.alloc (.cells #[.int .i64 (n:Int)] 42)).alloc (.cells #[.int .i64 m] 3)).alloc (.cells #[.int .i64 0] 45)).alloc (.cells #[.int .i64 (s:Int)] 45)) = W0 := ⟨_, rfl⟩
  rw [hW0] at bR bM bT bP hB0 hsz ⊢
  clear hW0
  refine wpIn_rangeFunc_ownF rfl (by omega) (gf := 72) (lb := #[.pointer (some ⟨w.heap.size + 1 + 1 + 1, 0, none⟩)]) rfl trivial (enters_of Try.func72 (by kernel_rfl) rfl)
    (places_stops 8 (by omega) (w.heap.size + 1 + 1 + 1) w.heap.size n s hs h2 W0 bP) KB.trans (KB.put (by omega)) (Below.refl _ _) (fun _ => rfl)
    (fun pre W => ((Boxed W w.heap.size 42 (.int .i64 (n:Int)) ∧ Boxed W (w.heap.size + 1) 3 (.int .i64 m)) ∧ Boxed W (w.heap.size + 1 + 1) 45 (.int .i64 ((fold (turnS n m) 0 (vals pre) : Nat) : Int))) ∧ Below w.heap.size w W)
    (fun _ _ _ => False)
    (OwnFrom.and (OwnFrom.and (OwnFrom.and (Own.from (boxed_own _ _ _) _) (Own.from (boxed_own _ _ _) _)) (Own.from (boxed_own _ _ _) _)) (ownFrom_below (Nat.le_refl _) (by omega)))
    (fun _ _ _ _ _ hs _ _ => hs)
    ⟨⟨⟨bR, bM⟩, bT⟩, hB0⟩
    (fun x => { tmps := #[.agg #[.int .i64 (n:Int)], .int .i64 (s:Int), .int .i64 m, .pointer (some ⟨w.heap.size, 0, none⟩), undef, .pointer (some ⟨w.heap.size + 1, 0, none⟩), .int .i64 0, .pointer (some ⟨w.heap.size + 1 + 1, 0, none⟩), .int .i64 (x.val : Int), .int .i64 (s:Int), .func (.func 72) #[] #[.pointer (some ⟨w.heap.size + 1 + 1 + 1, 0, none⟩)], .int .i64 (x.val : Int), undef, undef, undef, undef, undef, undef, undef, undef], defers := [] }) ?assign ?body ?done ?stop
  case assign =>
    intro l x W K hK
    gi_wp2
    exact hK
  case body =>
    rintro l pre x W ⟨⟨⟨bR1, bM1⟩, bT1⟩, hB1⟩ _
    have cR := bR1.cell
    have cM := bM1.cell
    have cT := bT1.cell
    have hx := x.isLt
    obtain ⟨hv1, hv2⟩ := mul_small (a := (x.val : Int)) (by omega) (by omega) hm1 hm2
    have ho := fold_lt (turnS n m) n (2 ^ n) 0 (Nat.two_pow_pos n) (turnS_lt n m h1) pre
    have hp := pow_le n h2
    have hr := rest_lt n ((x.val : Int) * m) h1
    have hsW := hB1.size
    have lR := bR1.lt
    have lT := bT1.lt
    have lM := bM1.lt
    have HS := Lib.hid (fold_snoc (turnS n m) 0 pre x)
    have hmx : Try.prog.follows .mixedOrders = true := by kernel_rfl
    have Hrest := Lib.hid (fun W => rest_any n ((x.val : Int) * m) W h1 h2 ⟨by omega, by omega⟩)
    have Hwith := Lib.hid (fun W => with_any (fold (turnS n m) 0 (vals pre)) (rest n ((x.val : Int) * m)) W (by omega) (by omega))
    have E := IntWalk.i64_in ((x.val : Int) * m) ⟨by omega, by omega⟩
    gi_wp2
    have hA0 := Aside.start (w.heap.size + 1 + 1) W
    have bT_0 := (show Boxed W.drew _ _ _ from bT1)
    refine region_round (fun W2 => Aside (w.heap.size + 1 + 1) W W2) hmx (by kernel_rfl) (fun ⟨_, _, h⟩ => h) hA0 (fun _ => ?_)
    refine take1 1 (v := ?_) rfl (by kernel_rfl) (by kernel_rfl) (by kernel_rfl) (fun _ _ _ h => h) (by rfl) ?_ hA0 ?_
    rotate_left
    · intro W2 hA
      have c0 := (hA.box bR1 (by omega)).cell
      have c1 := (hA.box bM1 (by omega)).cell
      clear hA
      go_simp
      try with_reducible rfl
    try simp only [Act.put, List.setIfInBounds_toArray, List.set_cons_zero, List.set_cons_succ]
    refine take1 2 (v := ?_) rfl (by kernel_rfl) (by kernel_rfl) (by kernel_rfl) (fun _ _ _ h => h) (by rfl) ?_ hA0 ?_
    rotate_left
    · intro W2 hA
      have c0 := (hA.box bR1 (by omega)).cell
      have c1 := (hA.box bM1 (by omega)).cell
      clear hA
      go_simp
      try with_reducible rfl
    try simp only [Act.put, List.setIfInBounds_toArray, List.set_cons_zero, List.set_cons_succ]
    refine take1 3 (v := ?_) rfl (by kernel_rfl) (by kernel_rfl) (by kernel_rfl) (fun _ _ _ h => h) (by rfl) ?_ hA0 ?_
    rotate_left
    · intro W2 hA
      have c0 := (hA.box bR1 (by omega)).cell
      have c1 := (hA.box bM1 (by omega)).cell
      clear hA
      go_simp
      try with_reducible rfl
    try simp only [Act.put, List.setIfInBounds_toArray, List.set_cons_zero, List.set_cons_succ]
    refine take1 4 (v := ?_) rfl (by kernel_rfl) (by kernel_rfl) (by kernel_rfl) (fun _ _ _ h => h) (by rfl) ?_ hA0 ?_
    rotate_left
    · intro W2 hA
      have c0 := (hA.box bR1 (by omega)).cell
      have c1 := (hA.box bM1 (by omega)).cell
      clear hA
      go_simp
      try with_reducible rfl
    try simp only [Act.put, List.setIfInBounds_toArray, List.set_cons_zero, List.set_cons_succ]
    refine step2 0 5 (by kernel_rfl) rfl rfl (fun K hK => ?_) (fun K hK => ?_)
    · have cT_ := bT_0.cell
      go_simp
      refine hK.out _ _ hA0 ?_
      clear hK K
      try simp only [Act.put, List.setIfInBounds_toArray, List.set_cons_zero, List.set_cons_succ]
      refine step1 5 (by kernel_rfl) rfl (fun K hK => ?_)
      go_simp
      refine (Hrest.out _).mono ?_
      rintro e W1' ⟨rfl, hb1⟩
      go_wp2_with fail
      have hA1 := hA0.call hb1
      have bT_1 := boxed_below bT_0 bT_0.lt hb1
      refine hK.out _ _ hA1 ?_
      clear hK K
      try simp only [Act.put, List.setIfInBounds_toArray, List.set_cons_zero, List.set_cons_succ]
      refine step1 6 (by kernel_rfl) rfl (fun K hK => ?_)
      go_simp
      refine (Hwith.out _).mono ?_
      rintro e W3 ⟨rfl, rfl⟩
      go_wp2_with fail
      refine hK.out _ _ hA1 ?_
      clear hK K
      try simp only [Act.put, List.setIfInBounds_toArray, List.set_cons_zero, List.set_cons_succ]
      have cT_9 := bT_1.cell
      have fT_9 := bT_1.frozen
      refine step1 7 (by kernel_rfl) rfl (fun K hK => ?_)
      go_simp
      refine hK.out _ _ (hA1.set _) ?_
      clear hK K
      try simp only [Act.put, List.setIfInBounds_toArray, List.set_cons_zero, List.set_cons_succ]
      refine stop1 (by kernel_rfl) ?_
      gi_wp2
      exact ⟨(hA1.set _).others bT1, (hA1.set _).kb (by omega) (by omega) hsW, ⟨⟨(hA1.set _).box bR1 (by omega), (hA1.set _).box bM1 (by omega)⟩, by rw [HS.out]; exact (bT_1.set _)⟩, hB1.trans ((hA1.set _).below (by omega) hsW)⟩
    · go_simp
      refine (Hrest.out _).mono ?_
      rintro e W1' ⟨rfl, hb1⟩
      go_wp2_with fail
      have hA1 := hA0.call hb1
      have bT_1 := boxed_below bT_0 bT_0.lt hb1
      refine hK.out _ _ hA1 ?_
      clear hK K
      try simp only [Act.put, List.setIfInBounds_toArray, List.set_cons_zero, List.set_cons_succ]
      refine step1 0 (by kernel_rfl) rfl (fun K hK => ?_)
      have cT_ := bT_1.cell
      go_simp
      refine hK.out _ _ hA1 ?_
      clear hK K
      try simp only [Act.put, List.setIfInBounds_toArray, List.set_cons_zero, List.set_cons_succ]
      refine step1 6 (by kernel_rfl) rfl (fun K hK => ?_)
      go_simp
      refine (Hwith.out _).mono ?_
      rintro e W3 ⟨rfl, rfl⟩
      go_wp2_with fail
      refine hK.out _ _ hA1 ?_
      clear hK K
      try simp only [Act.put, List.setIfInBounds_toArray, List.set_cons_zero, List.set_cons_succ]
      have cT_9 := bT_1.cell
      have fT_9 := bT_1.frozen
      refine step1 7 (by kernel_rfl) rfl (fun K hK => ?_)
      go_simp
      refine hK.out _ _ (hA1.set _) ?_
      clear hK K
      try simp only [Act.put, List.setIfInBounds_toArray, List.set_cons_zero, List.set_cons_succ]
      refine stop1 (by kernel_rfl) ?_
      gi_wp2
      exact ⟨(hA1.set _).others bT1, (hA1.set _).kb (by omega) (by omega) hsW, ⟨⟨(hA1.set _).box bR1 (by omega), (hA1.set _).box bM1 (by omega)⟩, by rw [HS.out]; exact (bT_1.set _)⟩, hB1.trans ((hA1.set _).below (by omega) hsW)⟩
  case done =>
    rintro D ys W hD rfl ⟨⟨_, bT1⟩, hB⟩ hK
    have cT := bT1.cell
    rw [fold_come] at cT
    gi_wp2
    refine ⟨by simp, .inl ⟨_, _, rfl, run_takeDeferred hK, ?_⟩⟩
    exact ⟨_, results_tmp rfl _ _ _, rfl, hB.trans (belowK_b (w := w) (Nat.le_refl _) W D _ _ (by omega) hK rfl rfl)⟩
  case stop =>
    rintro D c pre W _ _ h _
    exact h.elim
end Go.Proofs.Ythccchelemnnfaa
