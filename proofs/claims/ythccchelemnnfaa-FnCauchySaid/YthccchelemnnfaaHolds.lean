import Derived.Test.YthccchelemnnfaaHeld
namespace Go.Proofs.Ythccchelemnnfaa
open Go.RowKit Go.Shelf
set_option linter.unusedVariables false
attribute [local go_sem] Oper.semAt_some
set_option maxRecDepth 100000 in
set_option maxHeartbeats 4000000 in
theorem holds_any (n s : Nat) (w : World) (h1 : 1 ≤ n) (h2 : n ≤ 12) (hs : s < 2 ^ n) :
    Calls Try.prog 46 #[.agg #[.int .i64 (n:Int)], .int .i64 (s:Int)] w fun e w' => e = .returned (.int .i64 ((holdsN n s : Nat) : Int)) ∧ Below w.heap.size w w' := by
  refine (callsIn_wide (n := 9)).1 ?_
  refine callsIn_of_wp_marks Try.func46 rfl trivial ?_ rfl
  simp only [Try.ntmps46, List.size_toArray, List.length_cons, List.length_nil, Nat.reduceAdd, Nat.reduceSub, Array.replicate_succ, Array.replicate_zero, List.push_toArray, List.append_toArray, List.nil_append, List.cons_append]
  gi_wp2_with (first | (refine ⟨trivial, ?_⟩; gi_at_call 64; refine (callsIn_wide.2 (all_any n _ h2)).mono ?_; rintro e W1 ⟨rfl, hb1⟩) | (refine ⟨trivial, ?_⟩; gi_at_call 65; refine (callsIn_wide.2 (places_any _ _)).mono ?_; rintro e w' ⟨rfl, rfl⟩))
  have bR0 := ((Boxed.new w 42 (.int .i64 (n:Int))).alloc (.cells #[.int .i64 (s:Int)] 45)).alloc (.cells #[.int .i64 0] 45)
  have bM0 := (Boxed.new (w.alloc (.cells #[.int .i64 (n:Int)] 42)) 45 (.int .i64 (s:Int))).alloc (.cells #[.int .i64 0] 45)
  have bT0 := Boxed.new ((w.alloc (.cells #[.int .i64 (n:Int)] 42)).alloc (.cells #[.int .i64 (s:Int)] 45)) 45 (.int .i64 0)
  simp only [World.size_alloc] at bM0 bT0
  have hA0 : Below w.heap.size w (((w.alloc (.cells #[.int .i64 (n:Int)] 42)).alloc (.cells #[.int .i64 (s:Int)] 45)).alloc (.cells #[.int .i64 0] 45)) := ((((Below.refl _ w).alloc (Nat.le_refl _) _).alloc (by simp) _).alloc (by simp; omega) _)
  have hz0 : (((w.alloc (.cells #[.int .i64 (n:Int)] 42)).alloc (.cells #[.int .i64 (s:Int)] 45)).alloc (.cells #[.int .i64 0] 45)).heap.size = w.heap.size + 3 := by simp
  obtain ⟨A0, hA⟩ : ∃ A0, (((w.alloc (.cells #[.int .i64 (n:Int)] 42)).alloc (.cells #[.int .i64 (s:Int)] 45)).alloc (.cells #[.int .i64 0] 45)) = A0 := ⟨_, rfl⟩
  rw [hA] at hb1 hA0 hz0 bR0 bM0 bT0
  clear hA
  have hz1 := hb1.size
  have bR := (boxed_below bR0 bR0.lt hb1).alloc (.cells #[.int .i64 ((2 ^ n - 1 : Nat) : Int)] 45)
  have bM := (boxed_below bM0 bM0.lt hb1).alloc (.cells #[.int .i64 ((2 ^ n - 1 : Nat) : Int)] 45)
  have bT := (boxed_below bT0 bT0.lt hb1).alloc (.cells #[.int .i64 ((2 ^ n - 1 : Nat) : Int)] 45)
  have bP := Boxed.new W1 45 (.int .i64 ((2 ^ n - 1 : Nat) : Int))
  have hB0 : Below w.heap.size w (W1.alloc (.cells #[.int .i64 ((2 ^ n - 1 : Nat) : Int)] 45)) := (hA0.trans (hb1.mono (by omega))).alloc (by omega) _
  have hsz : (W1.alloc (.cells #[.int .i64 ((2 ^ n - 1 : Nat) : Int)] 45)).heap.size = W1.heap.size + 1 := by simp
  obtain ⟨W0, hW0⟩ : ∃ W0, W1.alloc (.cells #[.int .i64 ((2 ^ n - 1 : Nat) : Int)] 45) = W0 := ⟨_, rfl⟩
  rw [hW0] at bR bM bT bP hB0 hsz ⊢
  clear hW0
  refine wpIn_rangeFunc_ownF rfl (by omega) (gf := 72) (lb := #[.pointer (some ⟨W1.heap.size, 0, none⟩)]) rfl trivial (enters_of Try.func72 (by kernel_rfl) rfl)
    (places_stops 8 (by omega) W1.heap.size w.heap.size n (2 ^ n - 1) (by have := Nat.two_pow_pos n; omega) h2 W0 bP) KB.trans (KB.put (by omega)) (Below.refl _ _) (fun _ => rfl)
    (fun pre W => ((Boxed W (w.heap.size) 42 (.int .i64 (n:Int)) ∧ Boxed W (w.heap.size + 1) 45 (.int .i64 (s:Int))) ∧ Boxed W (w.heap.size + 1 + 1) 45 (.int .i64 ((fold (holdS n s) 0 (vals pre) : Nat) : Int))) ∧ Below w.heap.size w W)
    (fun _ _ _ => False)
    (OwnFrom.and (OwnFrom.and (OwnFrom.and (Own.from (boxed_own _ _ _) _) (Own.from (boxed_own _ _ _) _)) (Own.from (boxed_own _ _ _) _)) (ownFrom_below (Nat.le_refl _) (by omega)))
    (fun _ _ _ _ _ hs _ _ => hs)
    ⟨⟨⟨bR, bM⟩, bT⟩, hB0⟩
    (fun x => { tmps := #[.agg #[.int .i64 (n:Int)], .int .i64 (s:Int), .pointer (some ⟨w.heap.size, 0, none⟩), .pointer (some ⟨w.heap.size + 1, 0, none⟩), .int .i64 0, .pointer (some ⟨w.heap.size + 1 + 1, 0, none⟩), .int .i64 (x.val : Int), .agg #[.int .i64 (n:Int)], .int .i64 ((2 ^ n - 1 : Nat) : Int), .func (.func 72) #[] #[.pointer (some ⟨W1.heap.size, 0, none⟩)], .int .i64 (x.val : Int), undef, undef, undef, undef, undef, undef, undef, undef, undef, undef], defers := [] }) ?assign ?body ?done ?stop
  case assign =>
    intro l x W K hK
    gi_wp2
    exact hK
  case body =>
    rintro l pre x W ⟨⟨⟨bR1, bM1⟩, bT1⟩, hB1⟩ _
    have cR := bR1.cell
    have cM := bM1.cell
    have cT := bT1.cell
    have hx := x.isLt
    have ho := fold_lt (holdS n s) n (2 ^ n) 0 (Nat.two_pow_pos n) (holdS_lt n s) pre
    have hp := pow_le n h2
    have hsW := hB1.size
    have lR := bR1.lt
    have lM := bM1.lt
    have lT := bT1.lt
    have hmx : Try.prog.follows .mixedOrders = true := by kernel_rfl
    have HS := Lib.hid (fold_snoc (holdS n s) 0 pre x)
    have Hwith := Lib.hid (fun W => with_any (fold (holdS n s) 0 (vals pre)) x.val W (by omega) (by omega))
    have hsh := fun W => shift_any n s (x.val : Int) W h1 h2 (pow_mono h2 hs) (by omega) (by omega)
    by_cases hg : shiftN n s (x.val : Int) = s
    · rw [hg] at hsh
      have HU := Lib.hid (show holdS n s x.val (fold (holdS n s) 0 (vals pre)) = fold (holdS n s) 0 (vals pre) ||| 2 ^ x.val from by simp [holdS, hg])
      have Hsh := Lib.hid hsh
      clear hsh hg
      gi_wp2
      have hA0 := Aside.start (w.heap.size + 1 + 1) W
      have bT_0 := (show Boxed W.drew _ _ _ from bT1)
      refine region_round (fun W2 => Aside (w.heap.size + 1 + 1) W W2) hmx (by kernel_rfl) (fun ⟨_, _, h⟩ => h) hA0 (fun _ => ?_)
      refine take1 0 (v := ?_) rfl (by kernel_rfl) (by kernel_rfl) (by kernel_rfl) (fun _ _ _ h => h) (by rfl) ?_ hA0 ?_
      rotate_left
      · intro W2 hA
        have c0 := (hA.box bR1 (by omega)).cell
        have c1 := (hA.box bM1 (by omega)).cell
        clear hA
        go_simp
        try with_reducible rfl
      try simp only [Act.put, List.setIfInBounds_toArray, List.set_cons_zero, List.set_cons_succ]
      refine take1 1 (v := ?_) rfl (by kernel_rfl) (by kernel_rfl) (by kernel_rfl) (fun _ _ _ h => h) (by rfl) ?_ hA0 ?_
      rotate_left
      · intro W2 hA
        have c0 := (hA.box bR1 (by omega)).cell
        have c1 := (hA.box bM1 (by omega)).cell
        clear hA
        go_simp
        try with_reducible rfl
      try simp only [Act.put, List.setIfInBounds_toArray, List.set_cons_zero, List.set_cons_succ]
      refine take1 2 (v := ?_) rfl (by kernel_rfl) (by kernel_rfl) (by kernel_rfl) (fun _ _ _ h => h) (by rfl) ?_ hA0 ?_
      rotate_left
      · intro W2 hA
        have c0 := (hA.box bR1 (by omega)).cell
        have c1 := (hA.box bM1 (by omega)).cell
        clear hA
        go_simp
        try with_reducible rfl
      try simp only [Act.put, List.setIfInBounds_toArray, List.set_cons_zero, List.set_cons_succ]
      refine take1 4 (v := ?_) rfl (by kernel_rfl) (by kernel_rfl) (by kernel_rfl) (fun _ _ _ h => h) (by rfl) ?_ hA0 ?_
      rotate_left
      · intro W2 hA
        have c0 := (hA.box bR1 (by omega)).cell
        have c1 := (hA.box bM1 (by omega)).cell
        clear hA
        go_simp
        try with_reducible rfl
      try simp only [Act.put, List.setIfInBounds_toArray, List.set_cons_zero, List.set_cons_succ]
      refine step1 3 (by kernel_rfl) rfl (fun K hK => ?_)
      go_simp
      refine (Hsh.out _).mono ?_
      rintro e W1' ⟨rfl, hb1⟩
      go_wp2_with fail
      have hA1 := hA0.call hb1
      have bT_1 := boxed_below bT_0 bT_0.lt hb1
      refine hK.out _ _ hA1 ?_
      clear hK K
      try simp only [Act.put, List.setIfInBounds_toArray, List.set_cons_zero, List.set_cons_succ]
      refine take1 5 (v := ?_) rfl (by kernel_rfl) (by kernel_rfl) (by kernel_rfl) (fun _ _ _ h => h) (by rfl) ?_ hA1 ?_
      rotate_left
      · intro W2 hA
        have c0 := (hA.box bR1 (by omega)).cell
        have c1 := (hA.box bM1 (by omega)).cell
        clear hA
        go_simp
        try with_reducible rfl
      try simp only [Act.put, List.setIfInBounds_toArray, List.set_cons_zero, List.set_cons_succ]
      refine stop1 (by kernel_rfl) ?_
      have cT_8 := bT_1.cell
      have fT_8 := bT_1.frozen
      gi_wp2_with (refine ⟨trivial, ?_⟩; gi_at_call 67; refine (CallsIn.inRound l (callsIn_wide.2 (Hwith.out _))).mono ?_; rintro e W3 ⟨rfl, rfl⟩)
      exact ⟨(hA1.set _).others bT1, (hA1.set _).kb (by omega) (by omega) hsW, ⟨⟨(hA1.set _).box bR1 (by omega), (hA1.set _).box bM1 (by omega)⟩, by rw [HS.out, HU.out]; exact bT_1.set _⟩, hB1.trans ((hA1.set _).below (by omega) hsW)⟩
    · have HU := Lib.hid (show holdS n s x.val (fold (holdS n s) 0 (vals pre)) = fold (holdS n s) 0 (vals pre) from by simp [holdS, hg])
      generalize shiftN n s (x.val : Int) = g at hsh hg
      have hq : (((g : Int)) == (s : Int)) = false := by simp; omega
      have hq2 : decide (g = s) = false := by simpa using hg
      have hq3 : (g == s) = false := by simpa using hg
      have Hsh := Lib.hid hsh
      clear hsh
      gi_wp2
      have hA0 := Aside.start (w.heap.size + 1 + 1) W
      have bT_0 := (show Boxed W.drew _ _ _ from bT1)
      refine region_round (fun W2 => Aside (w.heap.size + 1 + 1) W W2) hmx (by kernel_rfl) (fun ⟨_, _, h⟩ => h) hA0 (fun _ => ?_)
      refine take1 0 (v := ?_) rfl (by kernel_rfl) (by kernel_rfl) (by kernel_rfl) (fun _ _ _ h => h) (by rfl) ?_ hA0 ?_
      rotate_left
      · intro W2 hA
        have c0 := (hA.box bR1 (by omega)).cell
        have c1 := (hA.box bM1 (by omega)).cell
        clear hA
        go_simp
        try with_reducible rfl
      try simp only [Act.put, List.setIfInBounds_toArray, List.set_cons_zero, List.set_cons_succ]
      refine take1 1 (v := ?_) rfl (by kernel_rfl) (by kernel_rfl) (by kernel_rfl) (fun _ _ _ h => h) (by rfl) ?_ hA0 ?_
      rotate_left
      · intro W2 hA
        have c0 := (hA.box bR1 (by omega)).cell
        have c1 := (hA.box bM1 (by omega)).cell
        clear hA
        go_simp
        try with_reducible rfl
      try simp only [Act.put, List.setIfInBounds_toArray, List.set_cons_zero, List.set_cons_succ]
      refine take1 2 (v := ?_) rfl (by kernel_rfl) (by kernel_rfl) (by kernel_rfl) (fun _ _ _ h => h) (by rfl) ?_ hA0 ?_
      rotate_left
      · intro W2 hA
        have c0 := (hA.box bR1 (by omega)).cell
        have c1 := (hA.box bM1 (by omega)).cell
        clear hA
        go_simp
        try with_reducible rfl
      try simp only [Act.put, List.setIfInBounds_toArray, List.set_cons_zero, List.set_cons_succ]
      refine take1 4 (v := ?_) rfl (by kernel_rfl) (by kernel_rfl) (by kernel_rfl) (fun _ _ _ h => h) (by rfl) ?_ hA0 ?_
      rotate_left
      · intro W2 hA
        have c0 := (hA.box bR1 (by omega)).cell
        have c1 := (hA.box bM1 (by omega)).cell
        clear hA
        go_simp
        try with_reducible rfl
      try simp only [Act.put, List.setIfInBounds_toArray, List.set_cons_zero, List.set_cons_succ]
      refine step1 3 (by kernel_rfl) rfl (fun K hK => ?_)
      go_simp
      refine (Hsh.out _).mono ?_
      rintro e W1' ⟨rfl, hb1⟩
      go_wp2_with fail
      have hA1 := hA0.call hb1
      have bT_1 := boxed_below bT_0 bT_0.lt hb1
      refine hK.out _ _ hA1 ?_
      clear hK K
      try simp only [Act.put, List.setIfInBounds_toArray, List.set_cons_zero, List.set_cons_succ]
      refine take1 5 (v := ?_) rfl (by kernel_rfl) (by kernel_rfl) (by kernel_rfl) (fun _ _ _ h => h) (by rfl) ?_ hA1 ?_
      rotate_left
      · intro W2 hA
        have c0 := (hA.box bR1 (by omega)).cell
        have c1 := (hA.box bM1 (by omega)).cell
        clear hA
        go_simp
        try with_reducible rfl
      try simp only [Act.put, List.setIfInBounds_toArray, List.set_cons_zero, List.set_cons_succ]
      refine stop1 (by kernel_rfl) ?_
      gi_wp2
      exact ⟨hA1.others bT1, hA1.kb (by omega) (by omega) hsW, ⟨⟨hA1.box bR1 (by omega), hA1.box bM1 (by omega)⟩, by rw [HS.out, HU.out]; exact bT_1⟩, hB1.trans (hA1.below (by omega) hsW)⟩
  case done =>
    rintro D ys W hD rfl ⟨⟨_, bT1⟩, hB⟩ hK
    have cT := bT1.cell
    rw [fold_come] at cT
    gi_wp2
    refine ⟨by simp, .inl ⟨_, _, rfl, run_takeDeferred hK, ?_⟩⟩
    exact ⟨_, results_tmp rfl _ _ _, rfl, hB.trans (belowK_b (w := w) (Nat.le_refl _) W D _ _ (by omega) hK rfl rfl)⟩
  case stop =>
    rintro D c pre W _ _ h _
    exact h.elim
end Go.Proofs.Ythccchelemnnfaa
