/- Differences, the program's side: the units that carry a set. Written by gen80.py. -/
import Derived.Test.YtaomjhkodohkcaaDfpE
import Derived.Test.YtaomjhkodohkcaaGB
namespace Go.Proofs.Ytaomjhkodohkcaa
open Go.RowKit Go.Shelf
set_option linter.unusedVariables false
attribute [local go_sem] Oper.semAt_some
theorem sets_own {β : Type} (b : Nat) (v : Value) (f : β → List Int) : Own (fun s W => IsSets W b v (f s)) := fun s X Y row hs hg hrow =>
  World.ownsRow.kept hs hg (by
    cases hv : v.ownBlock with
    | none => exact .inl rfl
    | some g =>
      refine .inr (fun e => ?_)
      obtain ⟨o, ho, hc⟩ := hrow g e.symm
      rcases hs.2 with ⟨rfl, _⟩ | ⟨g', cap, cur, rfl, _, hg', _⟩
      · simp [Value.ownBlock] at hv
      · simp only [Value.ownBlock, Option.some.injEq] at hv
        subst hv
        rw [hg'] at ho; cases ho; simp [Obj.isCells] at hc)
theorem IsSets.aside {T : Nat} {W W' : World} {b g len cap : Nat} {xs : List Int} (h : IsSets W b (.slice (some ⟨g, 0, none⟩) len cap) xs) (hA : Aside T W W') (hT : T < b) : IsSets W' b (.slice (some ⟨g, 0, none⟩) len cap) xs := by
  have hl := World.ownsRow.lt h g rfl
  refine ⟨h.1, ?_⟩
  rcases h.2 with hn | ⟨g', cap', cur, e, h1, hgg, rest⟩
  · exact .inl hn
  · refine .inr ⟨g', cap', cur, e, h1, ?_, rest⟩
    have e2 : g = g' := by cases e; rfl
    subst e2
    exact (hA.block g hl.2 (by omega)).trans hgg
theorem carS_lt (n s v x : Nat) (hv : v < n) (hx : x < 2 ^ n) : carS n s v x < 2 ^ n := by
  unfold carS; split
  · exact or_pow_lt n x v hx hv
  · exact hx
set_option maxRecDepth 100000 in
set_option maxHeartbeats 4000000 in
theorem carriers_any (n s : Nat) (w : World) (h1 : 1 ≤ n) (h2 : n ≤ 12) (hs : s < 2 ^ n) :
    Calls Try.prog 60 #[.agg #[.int .i64 (n:Int)], .int .i64 (s:Int)] w fun e w' => e = .returned (.int .i64 ((carN n s : Nat) : Int)) ∧ Below w.heap.size w w' := by
  have hp := pow_le n h2
  have HSh := Lib.hid (fun W => shifts_any n s W h1 h2 hs)
  have HUn := Lib.hid (fun W => units_any n W h1 h2)
  have hul : unitsN n < 2 ^ n := unitsN_lt n
  refine (callsIn_wide (n := 9)).1 ?_
  refine callsIn_of_wp_marks Try.func60 rfl trivial ?_ rfl
  simp only [Try.ntmps60, List.size_toArray, List.length_cons, List.length_nil, Nat.reduceAdd, Nat.reduceSub, Array.replicate_succ, Array.replicate_zero, List.push_toArray, List.append_toArray, List.nil_append, List.cons_append]
  have bR0 := ((Boxed.new w 40 (.int .i64 (n:Int))).alloc (.cells #[.int .i64 (s:Int)] 45)).alloc (.cells #[.int .i64 0] 45)
  have bS0 := (Boxed.new (w.alloc (.cells #[.int .i64 (n:Int)] 40)) 45 (.int .i64 (s:Int))).alloc (.cells #[.int .i64 0] 45)
  have bT0 := Boxed.new ((w.alloc (.cells #[.int .i64 (n:Int)] 40)).alloc (.cells #[.int .i64 (s:Int)] 45)) 45 (.int .i64 0)
  have hA0 : Below w.heap.size w (((w.alloc (.cells #[.int .i64 (n:Int)] 40)).alloc (.cells #[.int .i64 (s:Int)] 45)).alloc (.cells #[.int .i64 0] 45)) := (((Below.refl _ w).alloc (Nat.le_refl _) _).alloc (by simp) _).alloc (by simp; omega) _
  have hz0 : (((w.alloc (.cells #[.int .i64 (n:Int)] 40)).alloc (.cells #[.int .i64 (s:Int)] 45)).alloc (.cells #[.int .i64 0] 45)).heap.size = w.heap.size + 3 := by simp
  simp only [World.size_alloc] at bS0 bT0
  have cR0 := bR0.cell
  have cS0 := bS0.cell
  gi_wp2_with (first
    | (refine ⟨trivial, ?_⟩; gi_at_call 81; refine (callsIn_wide.2 (HSh.out _)).mono ?_; rintro e W1 ⟨g, rfl, hb1, hI1⟩; rw [hz0] at hI1; have bR1 := (boxed_below bR0 bR0.lt hb1).alloc (.cells #[.slice (some ⟨g, 0, none⟩) n n] 80); have bS1 := (boxed_below bS0 bS0.lt hb1).alloc (.cells #[.slice (some ⟨g, 0, none⟩) n n] 80); have bT1 := (boxed_below bT0 bT0.lt hb1).alloc (.cells #[.slice (some ⟨g, 0, none⟩) n n] 80); have bQ1 := Boxed.new W1 80 (.slice (some ⟨g, 0, none⟩) n n); have hz1 := hb1.size; have hA1 := (hA0.trans (hb1.mono (by omega))).alloc (by omega) (.cells #[.slice (some ⟨g, 0, none⟩) n n] 80); have cR1 := bR1.cell)
    | (refine ⟨trivial, ?_⟩; gi_at_call 82; refine (callsIn_wide.2 (HUn.out _)).mono ?_; rintro e W2 ⟨rfl, hb2⟩)
    | (refine ⟨trivial, ?_⟩; gi_at_call 76; refine (callsIn_wide.2 (places_any _ _)).mono ?_; rintro e w' ⟨rfl, rfl⟩))
  rw [hz0] at hz1
  have hIa : IsSets (W1.alloc (.cells #[.slice (some ⟨g, 0, none⟩) n n] 80)) (w.heap.size + 3) (.slice (some ⟨g, 0, none⟩) n n) (shL n s) := World.ownsRow.alloc hI1 _
  have hI := World.ownsRow.alloc (hIa.belowAll hb2) (.cells #[.int .i64 ((unitsN n : Nat) : Int)] 45)
  have bR := (boxed_below bR1 bR1.lt hb2).alloc (.cells #[.int .i64 ((unitsN n : Nat) : Int)] 45)
  have bS := (boxed_below bS1 bS1.lt hb2).alloc (.cells #[.int .i64 ((unitsN n : Nat) : Int)] 45)
  have bT := (boxed_below bT1 bT1.lt hb2).alloc (.cells #[.int .i64 ((unitsN n : Nat) : Int)] 45)
  have bQ := (boxed_below bQ1 bQ1.lt hb2).alloc (.cells #[.int .i64 ((unitsN n : Nat) : Int)] 45)
  have bP := Boxed.new W2 45 (.int .i64 ((unitsN n : Nat) : Int))
  have hz2 := hb2.size
  rw [World.size_alloc] at hz2
  have hB0 : Below w.heap.size w (W2.alloc (.cells #[.int .i64 ((unitsN n : Nat) : Int)] 45)) := (hA1.trans (hb2.mono (by simp; omega))).alloc (by omega) _
  have hsz : (W2.alloc (.cells #[.int .i64 ((unitsN n : Nat) : Int)] 45)).heap.size = W2.heap.size + 1 := by simp
  have hI0 : IsSets (W2.alloc (.cells #[.int .i64 ((unitsN n : Nat) : Int)] 45)) (w.heap.size + 3) (.slice (some ⟨g, 0, none⟩) n n) (shL n s) := hI
  obtain ⟨W0, hW0⟩ : ∃ W0, W2.alloc (.cells #[.int .i64 ((unitsN n : Nat) : Int)] 45) = W0 := ⟨_, rfl⟩
  rw [hW0] at bR bS bT bQ bP hB0 hsz hI0 ⊢
  clear hW0 bR0 bS0 bT0 bR1 bS1 bT1 bQ1 cR0 cS0 cR1 hIa hI hI1 hA0 hA1 hb1 hb2
  refine wpIn_rangeFunc_ownF rfl (by omega) (gf := 87) (lb := #[.pointer (some ⟨W2.heap.size, 0, none⟩)]) rfl trivial (enters_of Try.func87 (by kernel_rfl) rfl)
    (places_stops 8 (by omega) W2.heap.size w.heap.size n (unitsN n) hul h2 W0 bP) KB.trans (KB.put (by omega)) (Below.refl _ _) (fun _ => rfl)
    (fun pre W => ((((Boxed W w.heap.size 40 (.int .i64 (n:Int)) ∧ Boxed W (w.heap.size + 1) 45 (.int .i64 (s:Int))) ∧ Boxed W (w.heap.size + 1 + 1) 45 (.int .i64 ((fold (carS n s) 0 (vals pre) : Nat) : Int))) ∧ Boxed W W1.heap.size 80 (.slice (some ⟨g, 0, none⟩) n n)) ∧ IsSets W (w.heap.size + 3) (.slice (some ⟨g, 0, none⟩) n n) (shL n s)) ∧ Below w.heap.size w W)
    (fun _ _ _ => False)
    (OwnFrom.and (OwnFrom.and (OwnFrom.and (OwnFrom.and (OwnFrom.and (Own.from (boxed_own _ _ _) _) (Own.from (boxed_own _ _ _) _)) (Own.from (boxed_own _ _ _) _)) (Own.from (boxed_own _ _ _) _)) (Own.from (sets_own _ _ (fun _ => shL n s)) _)) (ownFrom_below (Nat.le_refl _) (by omega)))
    (fun _ _ _ _ _ hs _ _ => hs)
    ⟨⟨⟨⟨⟨bR, bS⟩, bT⟩, bQ⟩, hI0⟩, hB0⟩
    (fun x => { tmps := #[.agg #[.int .i64 (n:Int)], .int .i64 (s:Int), .pointer (some ⟨w.heap.size, 0, none⟩), .pointer (some ⟨w.heap.size + 1, 0, none⟩), .int .i64 0, .pointer (some ⟨w.heap.size + 1 + 1, 0, none⟩), .pointer (some ⟨W1.heap.size, 0, none⟩), .int .i64 (x.val : Int), .agg #[.int .i64 (n:Int)], .int .i64 (s:Int), .slice (some ⟨g, 0, none⟩) n n, .agg #[.int .i64 (n:Int)], .int .i64 ((unitsN n : Nat) : Int), .func (.func 87) #[] #[.pointer (some ⟨W2.heap.size, 0, none⟩)], .int .i64 (x.val : Int), undef, undef, undef, undef, undef, undef, undef, undef, undef, undef], defers := [] }) ?assign ?body ?done ?stop
  case assign =>
    intro l x W K hK
    gi_wp2
    exact hK
  case body =>
    rintro l pre x W ⟨⟨⟨⟨⟨bR1, bS1⟩, bT1⟩, bQ1⟩, hI1⟩, hB1⟩ _
    have HI := Lib.hid hI1
    clear hI1
    have hx := x.isLt
    have ho := fold_lt (carS n s) n (2 ^ n) 0 (Nat.two_pow_pos n) (carS_lt n s) pre
    have hsW := hB1.size
    have lT := bT1.lt
    have hmx : Try.prog.follows .mixedOrders = true := by kernel_rfl
    have HS := Lib.hid (fold_snoc (carS n s) 0 pre x)
    have Hwith := Lib.hid (fun W => with_any (fold (carS n s) 0 (vals pre)) x.val W (by omega) (by omega))
    have HT := Lib.hid (fun W => turn_any n s (x.val : Int) W h1 h2 hs (by omega) (by omega))
    have hhas := fun W (h : IsSets W (w.heap.size + 3) (.slice (some ⟨g, 0, none⟩) n n) (shL n s)) => tableHas_any g n s x.val (w.heap.size + 3) W h1 h2 hs h
    have HU1 := fun h => carS_yes n s x.val (fold (carS n s) 0 (vals pre)) h
    have HU2 := fun h => carS_no n s x.val (fold (carS n s) 0 (vals pre)) h
    cases hb : carB n s x.val
    · simp only [hb] at hhas
      have HHas := Lib.hid hhas
      have HU := Lib.hid (HU2 hb)
      clear hhas HU1 HU2 hb Hwith
      generalize turnN n s (x.val : Int) = t at *
      gi_wp2
      have hA0 := Aside.start (w.heap.size + 1 + 1) W
      have bT_0 := (show Boxed W.drew _ _ _ from bT1)
      refine region_round (fun W2 => Aside (w.heap.size + 1 + 1) W W2) hmx (by kernel_rfl) (fun ⟨_, _, h⟩ => h) hA0 (fun _ => ?_)
      refine take1 0 (v := ?_) rfl (by kernel_rfl) (by kernel_rfl) (by kernel_rfl) (fun _ _ _ h => h) (by rfl) ?_ hA0 ?_
      rotate_left
      · intro W2 hA
        have c0 := (hA.box bQ1 (by omega)).cell
        have c1 := (hA.box bR1 (by omega)).cell
        have c2 := (hA.box bS1 (by omega)).cell
        clear hA
        go_simp
        try with_reducible rfl
      try simp only [Act.put, List.setIfInBounds_toArray, List.set_cons_zero, List.set_cons_succ]
      refine take1 1 (v := ?_) rfl (by kernel_rfl) (by kernel_rfl) (by kernel_rfl) (fun _ _ _ h => h) (by rfl) ?_ hA0 ?_
      rotate_left
      · intro W2 hA
        have c0 := (hA.box bQ1 (by omega)).cell
        have c1 := (hA.box bR1 (by omega)).cell
        have c2 := (hA.box bS1 (by omega)).cell
        clear hA
        go_simp
        try with_reducible rfl
      try simp only [Act.put, List.setIfInBounds_toArray, List.set_cons_zero, List.set_cons_succ]
      refine take1 2 (v := ?_) rfl (by kernel_rfl) (by kernel_rfl) (by kernel_rfl) (fun _ _ _ h => h) (by rfl) ?_ hA0 ?_
      rotate_left
      · intro W2 hA
        have c0 := (hA.box bQ1 (by omega)).cell
        have c1 := (hA.box bR1 (by omega)).cell
        have c2 := (hA.box bS1 (by omega)).cell
        clear hA
        go_simp
        try with_reducible rfl
      try simp only [Act.put, List.setIfInBounds_toArray, List.set_cons_zero, List.set_cons_succ]
      refine take1 3 (v := ?_) rfl (by kernel_rfl) (by kernel_rfl) (by kernel_rfl) (fun _ _ _ h => h) (by rfl) ?_ hA0 ?_
      rotate_left
      · intro W2 hA
        have c0 := (hA.box bQ1 (by omega)).cell
        have c1 := (hA.box bR1 (by omega)).cell
        have c2 := (hA.box bS1 (by omega)).cell
        clear hA
        go_simp
        try with_reducible rfl
      try simp only [Act.put, List.setIfInBounds_toArray, List.set_cons_zero, List.set_cons_succ]
      refine step1 4 (by kernel_rfl) rfl (fun K hK => ?_)
      go_simp
      refine (HT.out _).mono ?_
      rintro e W1' ⟨rfl, hb1⟩
      go_wp2_with fail
      have hA1 := hA0.call hb1
      have bT_1 := boxed_below bT_0 bT_0.lt hb1
      refine hK.out _ _ hA1 ?_
      clear hK K
      try simp only [Act.put, List.setIfInBounds_toArray, List.set_cons_zero, List.set_cons_succ]
      refine step1 5 (by kernel_rfl) rfl (fun K hK => ?_)
      go_simp
      refine (HHas.out _ (HI.out.aside hA1 (by omega))).mono ?_
      rintro e W3 ⟨rfl, rfl⟩
      go_wp2_with fail
      refine hK.out _ _ hA1 ?_
      clear hK K
      try simp only [Act.put, List.setIfInBounds_toArray, List.set_cons_zero, List.set_cons_succ]
      refine stop1 (by kernel_rfl) ?_
      gi_wp2
      exact ⟨hA1.others bT1, hA1.kb (by omega) (by omega) hsW, ⟨⟨⟨⟨hA1.box bR1 (by omega), hA1.box bS1 (by omega)⟩, by rw [HS.out, HU.out]; exact bT_1⟩, hA1.box bQ1 (by omega)⟩, HI.out.aside hA1 (by omega)⟩, hB1.trans (hA1.below (by omega) hsW)⟩
    · simp only [hb] at hhas
      have HHas := Lib.hid hhas
      have HU := Lib.hid (HU1 hb)
      clear hhas HU1 HU2 hb
      generalize turnN n s (x.val : Int) = t at *
      gi_wp2
      have hA0 := Aside.start (w.heap.size + 1 + 1) W
      have bT_0 := (show Boxed W.drew _ _ _ from bT1)
      refine region_round (fun W2 => Aside (w.heap.size + 1 + 1) W W2) hmx (by kernel_rfl) (fun ⟨_, _, h⟩ => h) hA0 (fun _ => ?_)
      refine take1 0 (v := ?_) rfl (by kernel_rfl) (by kernel_rfl) (by kernel_rfl) (fun _ _ _ h => h) (by rfl) ?_ hA0 ?_
      rotate_left
      · intro W2 hA
        have c0 := (hA.box bQ1 (by omega)).cell
        have c1 := (hA.box bR1 (by omega)).cell
        have c2 := (hA.box bS1 (by omega)).cell
        clear hA
        go_simp
        try with_reducible rfl
      try simp only [Act.put, List.setIfInBounds_toArray, List.set_cons_zero, List.set_cons_succ]
      refine take1 1 (v := ?_) rfl (by kernel_rfl) (by kernel_rfl) (by kernel_rfl) (fun _ _ _ h => h) (by rfl) ?_ hA0 ?_
      rotate_left
      · intro W2 hA
        have c0 := (hA.box bQ1 (by omega)).cell
        have c1 := (hA.box bR1 (by omega)).cell
        have c2 := (hA.box bS1 (by omega)).cell
        clear hA
        go_simp
        try with_reducible rfl
      try simp only [Act.put, List.setIfInBounds_toArray, List.set_cons_zero, List.set_cons_succ]
      refine take1 2 (v := ?_) rfl (by kernel_rfl) (by kernel_rfl) (by kernel_rfl) (fun _ _ _ h => h) (by rfl) ?_ hA0 ?_
      rotate_left
      · intro W2 hA
        have c0 := (hA.box bQ1 (by omega)).cell
        have c1 := (hA.box bR1 (by omega)).cell
        have c2 := (hA.box bS1 (by omega)).cell
        clear hA
        go_simp
        try with_reducible rfl
      try simp only [Act.put, List.setIfInBounds_toArray, List.set_cons_zero, List.set_cons_succ]
      refine take1 3 (v := ?_) rfl (by kernel_rfl) (by kernel_rfl) (by kernel_rfl) (fun _ _ _ h => h) (by rfl) ?_ hA0 ?_
      rotate_left
      · intro W2 hA
        have c0 := (hA.box bQ1 (by omega)).cell
        have c1 := (hA.box bR1 (by omega)).cell
        have c2 := (hA.box bS1 (by omega)).cell
        clear hA
        go_simp
        try with_reducible rfl
      try simp only [Act.put, List.setIfInBounds_toArray, List.set_cons_zero, List.set_cons_succ]
      refine step1 4 (by kernel_rfl) rfl (fun K hK => ?_)
      go_simp
      refine (HT.out _).mono ?_
      rintro e W1' ⟨rfl, hb1⟩
      go_wp2_with fail
      have hA1 := hA0.call hb1
      have bT_1 := boxed_below bT_0 bT_0.lt hb1
      refine hK.out _ _ hA1 ?_
      clear hK K
      try simp only [Act.put, List.setIfInBounds_toArray, List.set_cons_zero, List.set_cons_succ]
      refine step1 5 (by kernel_rfl) rfl (fun K hK => ?_)
      go_simp
      refine (HHas.out _ (HI.out.aside hA1 (by omega))).mono ?_
      rintro e W3 ⟨rfl, rfl⟩
      go_wp2_with fail
      refine hK.out _ _ hA1 ?_
      clear hK K
      try simp only [Act.put, List.setIfInBounds_toArray, List.set_cons_zero, List.set_cons_succ]
      refine stop1 (by kernel_rfl) ?_
      have cT2 := bT_1.cell
      have fT2 := bT_1.frozen
      gi_wp2_with (refine ⟨trivial, ?_⟩; gi_at_call 77; refine (CallsIn.inRound l (callsIn_wide.2 (Hwith.out _))).mono ?_; rintro e W3 ⟨rfl, rfl⟩)
      exact ⟨(hA1.set _).others bT1, (hA1.set _).kb (by omega) (by omega) hsW, ⟨⟨⟨⟨(hA1.set _).box bR1 (by omega), (hA1.set _).box bS1 (by omega)⟩, by rw [HS.out, HU.out]; exact bT_1.set _⟩, (hA1.set _).box bQ1 (by omega)⟩, HI.out.aside (hA1.set _) (by omega)⟩, hB1.trans ((hA1.set _).below (by omega) hsW)⟩
  case done =>
    rintro D ys W hD rfl ⟨⟨⟨⟨_, bT1⟩, _⟩, _⟩, hB⟩ hK
    have cT := bT1.cell
    rw [fold_come] at cT
    have HE : Hid (overSet (unitsN n) (carS n s) n 0 = carN n s) := Lib.hid rfl
    rw [HE.out] at cT
    gi_wp2
    refine ⟨by simp, .inl ⟨_, _, rfl, run_takeDeferred hK, ?_⟩⟩
    exact ⟨_, results_tmp rfl _ _ _, rfl, hB.trans (belowK_b (w := w) (Nat.le_refl _) W D _ _ (by omega) hK rfl rfl)⟩
  case stop =>
    rintro D c pre W _ _ h _
    exact h.elim
end Go.Proofs.Ytaomjhkodohkcaa
