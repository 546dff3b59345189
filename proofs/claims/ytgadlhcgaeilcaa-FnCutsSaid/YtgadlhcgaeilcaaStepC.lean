/- The number of arcs from a set to others: the program. -/
import Derived.Test.YtgadlhcgaeilcaaStepP
import Derived.Test.YtgadlhcgaeilcaaStepZ
namespace Go.Proofs.Ytgadlhcgaeilcaa
open Go.RowKit Go.Shelf
set_option linter.unusedVariables false
attribute [local go_sem] Oper.semAt_some
theorem cutS_lt (n s t v x k : Nat) (h2 : n ≤ 12) (hx : x < 12 * k + 1) : cutS n s t v x < 12 * (k + 1) + 1 := by
  unfold cutS
  have := sizeN_le n (lessN (shiftN n s v) t) h2 (lessN_lt _ (shiftN_lt n s v))
  omega
theorem cutF_lt (n s t : Nat) (h2 : n ≤ 12) (pre : List Nat) : fold (cutS n s t) 0 pre ≤ 12 * pre.length := by
  have h : ∀ (l : List Nat) (a : Nat), l.foldl (fun x v => cutS n s t v x) a ≤ a + 12 * l.length := by
    intro l
    induction l with
    | nil => intro a; simp
    | cons v l ih =>
      intro a
      have := ih (cutS n s t v a)
      have hb := sizeN_le n (lessN (shiftN n s v) t) h2 (lessN_lt _ (shiftN_lt n s v))
      simp only [List.foldl_cons, List.length_cons]
      have e : cutS n s t v a = a + sizeN (lessN (shiftN n s v) t) := rfl
      omega
  have := h pre 0
  unfold fold
  omega
set_option maxRecDepth 100000 in
set_option maxHeartbeats 4000000 in
theorem cuts_any (n s t : Nat) (w : World) (h1 : 1 ≤ n) (h2 : n ≤ 12) (hs : s < 2 ^ n) (ht : t < 2 ^ n) :
    Calls Try.prog 64 #[.agg #[.int .i64 (n:Int), .int .i64 (s:Int)], .int .i64 (t:Int)] w fun e w' => e = .returned (.int .i64 ((cutsN n s t : Nat) : Int)) ∧ Below w.heap.size w w' := by
  refine (callsIn_wide (n := 9)).1 ?_
  refine callsIn_of_wp_marks Try.func64 rfl trivial ?_ rfl
  simp only [Try.ntmps64, List.size_toArray, List.length_cons, List.length_nil, Nat.reduceAdd, Nat.reduceSub, Array.replicate_succ, Array.replicate_zero, List.push_toArray, List.append_toArray, List.nil_append, List.cons_append]
  gi_wp2_with (refine ⟨trivial, ?_⟩; gi_at_call 68; refine (callsIn_wide.2 (places_any _ _)).mono ?_; rintro e w' ⟨rfl, rfl⟩)
  have bR := (((Duo.new w 37 (.int .i64 (n:Int)) (.int .i64 (s:Int))).alloc (.cells #[.int .i64 (t:Int)] 35)).alloc (.cells #[.int .i64 0] 3)).alloc (.cells #[.int .i64 (t:Int)] 35)
  have bM := ((Boxed.new (w.alloc (.cells #[.int .i64 (n:Int), .int .i64 (s:Int)] 37)) 35 (.int .i64 (t:Int))).alloc (.cells #[.int .i64 0] 3)).alloc (.cells #[.int .i64 (t:Int)] 35)
  have bT := (Boxed.new ((w.alloc (.cells #[.int .i64 (n:Int), .int .i64 (s:Int)] 37)).alloc (.cells #[.int .i64 (t:Int)] 35)) 3 (.int .i64 0)).alloc (.cells #[.int .i64 (t:Int)] 35)
  have bP := Boxed.new (((w.alloc (.cells #[.int .i64 (n:Int), .int .i64 (s:Int)] 37)).alloc (.cells #[.int .i64 (t:Int)] 35)).alloc (.cells #[.int .i64 0] 3)) 35 (.int .i64 (t:Int))
  simp only [World.size_alloc] at bM bT bP
  have hB0 : Below w.heap.size w ((((w.alloc (.cells #[.int .i64 (n:Int), .int .i64 (s:Int)] 37)).alloc (.cells #[.int .i64 (t:Int)] 35)).alloc (.cells #[.int .i64 0] 3)).alloc (.cells #[.int .i64 (t:Int)] 35)) := ((((Below.refl _ w).alloc (Nat.le_refl _) _).alloc (by simp) _).alloc (by simp; omega) _).alloc (by simp; omega) _
  have hsz : ((((w.alloc (.cells #[.int .i64 (n:Int), .int .i64 (s:Int)] 37)).alloc (.cells #[.int .i64 (t:Int)] 35)).alloc (.cells #[.int .i64 0] 3)).alloc (.cells #[.int .i64 (t:Int)] 35)).heap.size = w.heap.size + 4 := by simp
  obtain ⟨W0, hW0⟩ : ∃ W0, ((((w.alloc (.cells #[.int .i64 (n:Int), .int .i64 (s:Int)] 37)).alloc (.cells #[.int .i64 (t:Int)] 35)).alloc (.cells #[.int .i64 0] 3)).alloc (.cells #[.int .i64 (t:Int)] 35)) = W0 := ⟨_, rfl⟩
  rw [hW0] at bR bM bT bP hB0 hsz ⊢
  clear hW0
  refine wpIn_rangeFunc_ownF rfl (by omega) (gf := 76) (lb := #[.pointer (some ⟨w.heap.size + 1 + 1 + 1, 0, none⟩)]) rfl trivial (enters_of Try.func76 (by kernel_rfl) rfl)
    (places_stops 8 (by omega) (w.heap.size + 1 + 1 + 1) w.heap.size n t ht h2 W0 bP) KB.trans (KB.put (by omega)) (Below.refl _ _) (fun _ => rfl)
    (fun pre W => ((Duo W w.heap.size 37 (.int .i64 (n:Int)) (.int .i64 (s:Int)) ∧ Boxed W (w.heap.size + 1) 35 (.int .i64 (t:Int))) ∧ Boxed W (w.heap.size + 1 + 1) 3 (.int .i64 ((fold (cutS n s t) 0 (vals pre) : Nat) : Int))) ∧ Below w.heap.size w W)
    (fun _ _ _ => False)
    (OwnFrom.and (OwnFrom.and (OwnFrom.and (Own.from (duo_own _ _ _ _) _) (Own.from (boxed_own _ _ _) _)) (Own.from (boxed_own _ _ _) _)) (ownFrom_below (Nat.le_refl _) (by omega)))
    (fun _ _ _ _ _ hs _ _ => hs)
    ⟨⟨⟨bR, bM⟩, bT⟩, hB0⟩
    (fun x => { tmps := #[.agg #[.int .i64 (n:Int), .int .i64 (s:Int)], .int .i64 (t:Int), .pointer (some ⟨w.heap.size, 0, none⟩), .pointer (some ⟨w.heap.size + 1, 0, none⟩), .int .i64 0, .pointer (some ⟨w.heap.size + 1 + 1, 0, none⟩), .int .i64 (x.val : Int), .int .i64 (t:Int), .func (.func 76) #[] #[.pointer (some ⟨w.heap.size + 1 + 1 + 1, 0, none⟩)], .int .i64 (x.val : Int), undef, undef, undef, undef, undef, undef, undef, undef, undef], defers := [] }) ?assign ?body ?done ?stop
  case assign =>
    intro l x W K hK
    gi_wp2
    exact hK
  case body =>
    rintro l pre x W ⟨⟨⟨bR1, bM1⟩, bT1⟩, hB1⟩ hlen
    have cR := bR1.cell0
    have dR := bR1.cell1
    have cM := bM1.cell
    have cT := bT1.cell
    have hx := x.isLt
    have ho := cutF_lt n s t h2 (vals pre)
    have hlv : (vals pre).length < 100 := by simpa [vals] using hlen
    have hp := pow_le n h2
    have hsW := hB1.size
    have lR := bR1.lt
    have lM := bM1.lt
    have lT := bT1.lt
    have hmx : Try.prog.follows .mixedOrders = true := by kernel_rfl
    have HS := Lib.hid (fold_snoc (cutS n s t) 0 pre x)
    have hsh := shiftN_lt n s (x.val : Int)
    have hle := lessN_lt t hsh
    have HU := Lib.hid (show cutS n s t x.val (fold (cutS n s t) 0 (vals pre)) = fold (cutS n s t) 0 (vals pre) + sizeN (lessN (shiftN n s (x.val : Int)) t) from rfl)
    have hsz2 := sizeN_le n _ h2 hle
    have Hnext := Lib.hid (fun W => next_any n s (x.val : Int) W h1 h2 hs (by omega) (by omega))
    have hless := less_nat (shiftN n s (x.val : Int)) t (by omega) (by omega)
    have Hsize := Lib.hid (fun W => placesSize_any (lessN (shiftN n s (x.val : Int)) t) W (pow_mono h2 hle))
    generalize shiftN n s (x.val : Int) = q at *
    generalize lessN q t = r at *
    generalize sizeN r = z at *
    generalize fold (cutS n s t) 0 (vals pre) = g at *
    have hadd : IntKind.i64.wrap ((g : Int) + (z : Int)) = ((g + z : Nat) : Int) := by rw [IntWalk.i64_in _ (by omega)]; omega
    clear hsh hle hsz2
    gi_wp2
    have hA0 := Aside.start (w.heap.size + 1 + 1) W
    have bT_0 := (show Boxed W.drew _ _ _ from bT1)
    refine region_round (fun W2 => Aside (w.heap.size + 1 + 1) W W2) hmx (by kernel_rfl) (fun ⟨_, _, h⟩ => h) hA0 (fun _ => ?_)
    refine take1 1 (v := ?_) rfl (by kernel_rfl) (by kernel_rfl) (by kernel_rfl) (fun _ _ _ h => h) (by rfl) ?_ hA0 ?_
    rotate_left
    · intro W2 hA
      have c0 := (hA.duo bR1 (by omega)).cell0
      have d0 := (hA.duo bR1 (by omega)).cell1
      have c1 := (hA.box bM1 (by omega)).cell
      clear hA
      go_simp
      try with_reducible rfl
    try simp only [Act.put, List.setIfInBounds_toArray, List.set_cons_zero, List.set_cons_succ]
    refine take1 2 (v := ?_) rfl (by kernel_rfl) (by kernel_rfl) (by kernel_rfl) (fun _ _ _ h => h) (by rfl) ?_ hA0 ?_
    rotate_left
    · intro W2 hA
      have c0 := (hA.duo bR1 (by omega)).cell0
      have d0 := (hA.duo bR1 (by omega)).cell1
      have c1 := (hA.box bM1 (by omega)).cell
      clear hA
      go_simp
      try with_reducible rfl
    try simp only [Act.put, List.setIfInBounds_toArray, List.set_cons_zero, List.set_cons_succ]
    refine take1 4 (v := ?_) rfl (by kernel_rfl) (by kernel_rfl) (by kernel_rfl) (fun _ _ _ h => h) (by rfl) ?_ hA0 ?_
    rotate_left
    · intro W2 hA
      have c0 := (hA.duo bR1 (by omega)).cell0
      have d0 := (hA.duo bR1 (by omega)).cell1
      have c1 := (hA.box bM1 (by omega)).cell
      clear hA
      go_simp
      try with_reducible rfl
    try simp only [Act.put, List.setIfInBounds_toArray, List.set_cons_zero, List.set_cons_succ]
    refine step2 0 3 (by kernel_rfl) rfl rfl (fun K hK => ?_) (fun K hK => ?_)
    · have cT_ := bT_0.cell
      go_simp
      refine hK.out _ _ hA0 ?_
      clear hK K
      try simp only [Act.put, List.setIfInBounds_toArray, List.set_cons_zero, List.set_cons_succ]
      refine step1 3 (by kernel_rfl) rfl (fun K hK => ?_)
      go_simp
      refine (Hnext.out _).mono ?_
      rintro e W1' ⟨rfl, hb1⟩
      go_wp2_with fail
      have hA1 := hA0.call hb1
      have bT_1 := boxed_below bT_0 bT_0.lt hb1
      refine hK.out _ _ hA1 ?_
      clear hK K
      try simp only [Act.put, List.setIfInBounds_toArray, List.set_cons_zero, List.set_cons_succ]
      refine take1 5 (v := ?_) rfl (by kernel_rfl) (by kernel_rfl) (by kernel_rfl) (fun _ _ _ h => h) (by rfl) ?_ hA1 ?_
      rotate_left
      · intro W2 hA
        have c0 := (hA.duo bR1 (by omega)).cell0
        have d0 := (hA.duo bR1 (by omega)).cell1
        have c1 := (hA.box bM1 (by omega)).cell
        clear hA
        go_simp
        try with_reducible rfl
      try simp only [Act.put, List.setIfInBounds_toArray, List.set_cons_zero, List.set_cons_succ]
      refine step1 6 (by kernel_rfl) rfl (fun K hK => ?_)
      go_simp
      refine (Hsize.out _).mono ?_
      rintro e W2' ⟨rfl, hb2⟩
      go_wp2_with fail
      have hA2 := hA1.call hb2
      have bT_2 := boxed_below bT_1 bT_1.lt hb2
      refine hK.out _ _ hA2 ?_
      clear hK K
      try simp only [Act.put, List.setIfInBounds_toArray, List.set_cons_zero, List.set_cons_succ]
      refine take1 7 (v := ?_) rfl (by kernel_rfl) (by kernel_rfl) (by kernel_rfl) (fun _ _ _ h => h) (by rfl) ?_ hA2 ?_
      rotate_left
      · intro W2 hA
        have c0 := (hA.duo bR1 (by omega)).cell0
        have d0 := (hA.duo bR1 (by omega)).cell1
        have c1 := (hA.box bM1 (by omega)).cell
        clear hA
        go_simp
        try with_reducible rfl
      try simp only [Act.put, List.setIfInBounds_toArray, List.set_cons_zero, List.set_cons_succ]
      have cT_9 := bT_2.cell
      have fT_9 := bT_2.frozen
      refine step1 8 (by kernel_rfl) rfl (fun K hK => ?_)
      go_simp
      refine hK.out _ _ (hA2.set _) ?_
      clear hK K
      try simp only [Act.put, List.setIfInBounds_toArray, List.set_cons_zero, List.set_cons_succ]
      refine stop1 (by kernel_rfl) ?_
      gi_wp2
      exact ⟨(hA2.set _).others bT1, (hA2.set _).kb (by omega) (by omega) hsW, ⟨⟨(hA2.set _).duo bR1 (by omega), (hA2.set _).box bM1 (by omega)⟩, by rw [HS.out, HU.out]; exact (bT_2.set _)⟩, hB1.trans ((hA2.set _).below (by omega) hsW)⟩
    · go_simp
      refine (Hnext.out _).mono ?_
      rintro e W1' ⟨rfl, hb1⟩
      go_wp2_with fail
      have hA1 := hA0.call hb1
      have bT_1 := boxed_below bT_0 bT_0.lt hb1
      refine hK.out _ _ hA1 ?_
      clear hK K
      try simp only [Act.put, List.setIfInBounds_toArray, List.set_cons_zero, List.set_cons_succ]
      refine take1 5 (v := ?_) rfl (by kernel_rfl) (by kernel_rfl) (by kernel_rfl) (fun _ _ _ h => h) (by rfl) ?_ hA1 ?_
      rotate_left
      · intro W2 hA
        have c0 := (hA.duo bR1 (by omega)).cell0
        have d0 := (hA.duo bR1 (by omega)).cell1
        have c1 := (hA.box bM1 (by omega)).cell
        clear hA
        go_simp
        try with_reducible rfl
      try simp only [Act.put, List.setIfInBounds_toArray, List.set_cons_zero, List.set_cons_succ]
      refine step2 0 6 (by kernel_rfl) rfl rfl (fun K hK => ?_) (fun K hK => ?_)
      · have cT_ := bT_1.cell
        go_simp
        refine hK.out _ _ hA1 ?_
        clear hK K
        try simp only [Act.put, List.setIfInBounds_toArray, List.set_cons_zero, List.set_cons_succ]
        refine step1 6 (by kernel_rfl) rfl (fun K hK => ?_)
        go_simp
        refine (Hsize.out _).mono ?_
        rintro e W2' ⟨rfl, hb2⟩
        go_wp2_with fail
        have hA2 := hA1.call hb2
        have bT_2 := boxed_below bT_1 bT_1.lt hb2
        refine hK.out _ _ hA2 ?_
        clear hK K
        try simp only [Act.put, List.setIfInBounds_toArray, List.set_cons_zero, List.set_cons_succ]
        refine take1 7 (v := ?_) rfl (by kernel_rfl) (by kernel_rfl) (by kernel_rfl) (fun _ _ _ h => h) (by rfl) ?_ hA2 ?_
        rotate_left
        · intro W2 hA
          have c0 := (hA.duo bR1 (by omega)).cell0
          have d0 := (hA.duo bR1 (by omega)).cell1
          have c1 := (hA.box bM1 (by omega)).cell
          clear hA
          go_simp
          try with_reducible rfl
        try simp only [Act.put, List.setIfInBounds_toArray, List.set_cons_zero, List.set_cons_succ]
        have cT_9 := bT_2.cell
        have fT_9 := bT_2.frozen
        refine step1 8 (by kernel_rfl) rfl (fun K hK => ?_)
        go_simp
        refine hK.out _ _ (hA2.set _) ?_
        clear hK K
        try simp only [Act.put, List.setIfInBounds_toArray, List.set_cons_zero, List.set_cons_succ]
        refine stop1 (by kernel_rfl) ?_
        gi_wp2
        exact ⟨(hA2.set _).others bT1, (hA2.set _).kb (by omega) (by omega) hsW, ⟨⟨(hA2.set _).duo bR1 (by omega), (hA2.set _).box bM1 (by omega)⟩, by rw [HS.out, HU.out]; exact (bT_2.set _)⟩, hB1.trans ((hA2.set _).below (by omega) hsW)⟩
      · go_simp
        refine (Hsize.out _).mono ?_
        rintro e W2' ⟨rfl, hb2⟩
        go_wp2_with fail
        have hA2 := hA1.call hb2
        have bT_2 := boxed_below bT_1 bT_1.lt hb2
        refine hK.out _ _ hA2 ?_
        clear hK K
        try simp only [Act.put, List.setIfInBounds_toArray, List.set_cons_zero, List.set_cons_succ]
        refine step1 0 (by kernel_rfl) rfl (fun K hK => ?_)
        have cT_ := bT_2.cell
        go_simp
        refine hK.out _ _ hA2 ?_
        clear hK K
        try simp only [Act.put, List.setIfInBounds_toArray, List.set_cons_zero, List.set_cons_succ]
        refine take1 7 (v := ?_) rfl (by kernel_rfl) (by kernel_rfl) (by kernel_rfl) (fun _ _ _ h => h) (by rfl) ?_ hA2 ?_
        rotate_left
        · intro W2 hA
          have c0 := (hA.duo bR1 (by omega)).cell0
          have d0 := (hA.duo bR1 (by omega)).cell1
          have c1 := (hA.box bM1 (by omega)).cell
          clear hA
          go_simp
          try with_reducible rfl
        try simp only [Act.put, List.setIfInBounds_toArray, List.set_cons_zero, List.set_cons_succ]
        have cT_9 := bT_2.cell
        have fT_9 := bT_2.frozen
        refine step1 8 (by kernel_rfl) rfl (fun K hK => ?_)
        go_simp
        refine hK.out _ _ (hA2.set _) ?_
        clear hK K
        try simp only [Act.put, List.setIfInBounds_toArray, List.set_cons_zero, List.set_cons_succ]
        refine stop1 (by kernel_rfl) ?_
        gi_wp2
        exact ⟨(hA2.set _).others bT1, (hA2.set _).kb (by omega) (by omega) hsW, ⟨⟨(hA2.set _).duo bR1 (by omega), (hA2.set _).box bM1 (by omega)⟩, by rw [HS.out, HU.out]; exact (bT_2.set _)⟩, hB1.trans ((hA2.set _).below (by omega) hsW)⟩
  case done =>
    rintro D ys W hD rfl ⟨⟨_, bT1⟩, hB⟩ hK
    have cT := bT1.cell
    rw [fold_come] at cT
    gi_wp2
    refine ⟨by simp, .inl ⟨_, _, rfl, run_takeDeferred hK, ?_⟩⟩
    exact ⟨_, results_tmp rfl _ _ _, rfl, hB.trans (belowK_b (w := w) (Nat.le_refl _) W D _ _ (by omega) hK rfl rfl)⟩
  case stop =>
    rintro D c pre W _ _ h _
    exact h.elim
end Go.Proofs.Ytgadlhcgaeilcaa
