/- Plays, the program's side: the least turn of a play. Written by gen97.py. -/
import Derived.Test.YtaklmepioeoohaaPlpM
import Derived.Test.YtaklmepioeoohaaGB
import Derived.Test.YtaklmepioeoohaaGC
import Derived.Test.YtaklmepioeoohaaGJ
import Derived.Test.YtaklmepioeoohaaRoA
namespace Go.Proofs.Ytaklmepioeoohaa
open Go.RowKit Go.Shelf
set_option linter.unusedVariables false
attribute [local go_sem] Oper.semAt_some
set_option maxRecDepth 100000 in
set_option maxHeartbeats 4000000 in
theorem leastTurned_any (n s : Nat) (w : World) (h1 : 1 ≤ n) (h2 : n ≤ 12) (hs : s < 2 ^ n) :
    Calls Try.prog 66 #[.agg #[.int .i64 (n:Int), .int .i64 (s:Int)]] w fun e w' => e = .returned (.agg #[.int .i64 (n:Int), .int .i64 ((lturnN n s : Nat) : Int)]) ∧ Below w.heap.size w w' := by
  have hD0 := Duo.new w 47 (.int .i64 (n:Int)) (.int .i64 (s:Int))
  have d0 := hD0.cell0
  have d1 := hD0.cell1
  refine (callsIn_wide (n := 9)).1 ?_
  refine callsIn_of_wp_marks Try.func66 rfl trivial ?_ rfl
  simp only [Try.ntmps66, List.size_toArray, List.length_cons, List.length_nil, Nat.reduceAdd, Nat.reduceSub, Array.replicate_succ, Array.replicate_zero, List.push_toArray, List.append_toArray, List.nil_append, List.cons_append]
  gi_wp2_with (first | (refine ⟨trivial, ?_⟩; gi_at_call 68; refine (callsIn_wide.2 (units_any n _ h1 h2)).mono ?_; rintro e W1 ⟨rfl, hb1⟩) | (refine ⟨trivial, ?_⟩; gi_at_call 76; refine (callsIn_wide.2 (places_any _ _)).mono ?_; rintro e w' ⟨rfl, rfl⟩))
  have bP0 := (hD0.alloc (.cells #[.int .i64 0, .int .i64 0] 47)).alloc (.cells #[.int .i64 (s:Int)] 43)
  have bR0 := (Duo.new (w.alloc (.cells #[.int .i64 (n:Int), .int .i64 (s:Int)] 47)) 47 (.int .i64 0) (.int .i64 0)).alloc (.cells #[.int .i64 (s:Int)] 43)
  have bT0 := Boxed.new ((w.alloc (.cells #[.int .i64 (n:Int), .int .i64 (s:Int)] 47)).alloc (.cells #[.int .i64 0, .int .i64 0] 47)) 43 (.int .i64 (s:Int))
  simp only [World.size_alloc] at bR0 bT0
  have hA0 : Below w.heap.size w (((w.alloc (.cells #[.int .i64 (n:Int), .int .i64 (s:Int)] 47)).alloc (.cells #[.int .i64 0, .int .i64 0] 47)).alloc (.cells #[.int .i64 (s:Int)] 43)) := (((Below.refl _ w).alloc (Nat.le_refl _) _).alloc (by simp) _).alloc (by simp; omega) _
  have hz0 : (((w.alloc (.cells #[.int .i64 (n:Int), .int .i64 (s:Int)] 47)).alloc (.cells #[.int .i64 0, .int .i64 0] 47)).alloc (.cells #[.int .i64 (s:Int)] 43)).heap.size = w.heap.size + 3 := by simp
  clear d0 d1 hD0
  obtain ⟨A0, hA⟩ : ∃ A0, (((w.alloc (.cells #[.int .i64 (n:Int), .int .i64 (s:Int)] 47)).alloc (.cells #[.int .i64 0, .int .i64 0] 47)).alloc (.cells #[.int .i64 (s:Int)] 43)) = A0 := ⟨_, rfl⟩
  rw [hA] at hb1 hA0 hz0 bP0 bR0 bT0
  clear hA
  have hz1 := hb1.size
  have bP := (duo_below bP0 bP0.lt hb1).alloc (.cells #[.int .i64 ((unitsN n : Nat) : Int)] 43)
  have bR := (duo_below bR0 bR0.lt hb1).alloc (.cells #[.int .i64 ((unitsN n : Nat) : Int)] 43)
  have bT := (boxed_below bT0 bT0.lt hb1).alloc (.cells #[.int .i64 ((unitsN n : Nat) : Int)] 43)
  have bI := Boxed.new W1 43 (.int .i64 ((unitsN n : Nat) : Int))
  have hB0 : Below w.heap.size w (W1.alloc (.cells #[.int .i64 ((unitsN n : Nat) : Int)] 43)) := (hA0.trans (hb1.mono (by omega))).alloc (by omega) _
  have hsz : (W1.alloc (.cells #[.int .i64 ((unitsN n : Nat) : Int)] 43)).heap.size = W1.heap.size + 1 := by simp
  obtain ⟨W0, hW0⟩ : ∃ W0, W1.alloc (.cells #[.int .i64 ((unitsN n : Nat) : Int)] 43) = W0 := ⟨_, rfl⟩
  rw [hW0] at bP bR bT bI hB0 hsz ⊢
  clear hW0
  refine wpIn_rangeFunc_ownF rfl (by omega) (gf := 93) (lb := #[.pointer (some ⟨W1.heap.size, 0, none⟩)]) rfl trivial (enters_of Try.func93 (by kernel_rfl) rfl)
    (places_stops 8 (by omega) W1.heap.size w.heap.size n (unitsN n) (unitsN_lt n) h2 W0 bI) KB.trans (KB.put (by omega)) (Below.refl _ _) (fun _ => rfl)
    (fun pre W => ((Duo W w.heap.size 47 (.int .i64 (n:Int)) (.int .i64 (s:Int)) ∧ Duo W (w.heap.size + 1) 47 (.int .i64 0) (.int .i64 0)) ∧ Boxed W (w.heap.size + 1 + 1) 43 (.int .i64 ((fold (lturnS n s) s (vals pre) : Nat) : Int))) ∧ Below w.heap.size w W)
    (fun _ _ _ => False)
    (OwnFrom.and (OwnFrom.and (OwnFrom.and (Own.from (duo_own _ _ _ _) _) (Own.from (duo_own _ _ _ _) _)) (Own.from (boxed_own _ _ _) _)) (ownFrom_below (Nat.le_refl _) (by omega)))
    (fun _ _ _ _ _ hs _ _ => hs)
    ⟨⟨⟨bP, bR⟩, bT⟩, hB0⟩
    (fun x => { tmps := #[.agg #[.int .i64 (n:Int), .int .i64 (s:Int)], .pointer (some ⟨w.heap.size, 0, none⟩), .pointer (some ⟨w.heap.size + 1, 0, none⟩), .pointer (some ⟨w.heap.size + 1 + 1, 0, none⟩), .int .i64 (x.val : Int), .pointer (some ⟨w.heap.size, 0, none⟩), .pointer (some ⟨w.heap.size, 1, none⟩), .int .i64 (s:Int), .pointer (some ⟨w.heap.size, 0, none⟩), .pointer (some ⟨w.heap.size, 0, none⟩), .agg #[.int .i64 (n:Int)], .int .i64 ((unitsN n : Nat) : Int), .func (.func 93) #[] #[.pointer (some ⟨W1.heap.size, 0, none⟩)], .int .i64 (x.val : Int), undef, undef, undef, undef, undef, undef, undef, undef, undef, undef, undef, undef, undef, undef, undef, undef], defers := [] }) ?assign ?body ?done ?stop
  case assign =>
    intro l x W K hK
    gi_wp2
    exact hK
  case body =>
    rintro l pre x W ⟨⟨⟨bP1, bR1⟩, bT1⟩, hB1⟩ _
    have cP := bP1.cell0
    have dP := bP1.cell1
    have cT := bT1.cell
    have hx := x.isLt
    have ho := fold_lt (lturnS n s) n (2 ^ n) s hs (lturnS_lt n s) pre
    have hp := pow_le n h2
    have hsW := hB1.size
    have lP := bP1.lt
    have lR := bR1.lt
    have lT := bT1.lt
    have hmx : Try.prog.follows .mixedOrders = true := by kernel_rfl
    have HS := Lib.hid (fold_snoc (lturnS n s) s pre x)
    have hle := fun W => turn_any n s (x.val : Int) W h1 h2 hs (by omega) (by omega)
    have hu : lturnS n s x.val (fold (lturnS n s) s (vals pre)) = min (fold (lturnS n s) s (vals pre)) (turnN n s (x.val : Int)) := rfl
    generalize fold (lturnS n s) s (vals pre) = g at *
    generalize turnN n s (x.val : Int) = q at hle hu
    have Hle := Lib.hid hle
    clear hle
    by_cases hlt : g ≤ q
    · have HU := Lib.hid (show lturnS n s x.val g = g from by rw [hu]; omega)
      have hq : ((g : Int) ≤ (q : Int)) := by omega
      have hq1 : ¬ ((q : Int) < (g : Int)) := by omega
      have hq2 : min (g : Int) (q : Int) = (g : Int) := by omega
      clear hu
      gi_wp2
      have hA0 := Aside.start (w.heap.size + 1 + 1) W
      have bT_0 := (show Boxed W.drew _ _ _ from bT1)
      refine region_round (fun W2 => Aside (w.heap.size + 1 + 1) W W2) hmx (by kernel_rfl) (fun ⟨_, _, h⟩ => h) hA0 (fun _ => ?_)
      refine take1 1 (v := ?_) rfl (by kernel_rfl) (by kernel_rfl) (by kernel_rfl) (fun _ _ _ h => h) (by rfl) ?_ hA0 ?_
      rotate_left
      · intro W2 hA
        have c0 := (hA.duo bP1 (by omega)).cell0
        have d0 := (hA.duo bP1 (by omega)).cell1
        clear hA
        go_simp
        try with_reducible rfl
      try simp only [Act.put, List.setIfInBounds_toArray, List.set_cons_zero, List.set_cons_succ]
      refine take1 2 (v := ?_) rfl (by kernel_rfl) (by kernel_rfl) (by kernel_rfl) (fun _ _ _ h => h) (by rfl) ?_ hA0 ?_
      rotate_left
      · intro W2 hA
        have c0 := (hA.duo bP1 (by omega)).cell0
        have d0 := (hA.duo bP1 (by omega)).cell1
        clear hA
        go_simp
        try with_reducible rfl
      try simp only [Act.put, List.setIfInBounds_toArray, List.set_cons_zero, List.set_cons_succ]
      refine take1 3 (v := ?_) rfl (by kernel_rfl) (by kernel_rfl) (by kernel_rfl) (fun _ _ _ h => h) (by rfl) ?_ hA0 ?_
      rotate_left
      · intro W2 hA
        have c0 := (hA.duo bP1 (by omega)).cell0
        have d0 := (hA.duo bP1 (by omega)).cell1
        clear hA
        go_simp
        try with_reducible rfl
      try simp only [Act.put, List.setIfInBounds_toArray, List.set_cons_zero, List.set_cons_succ]
      refine take1 4 (v := ?_) rfl (by kernel_rfl) (by kernel_rfl) (by kernel_rfl) (fun _ _ _ h => h) (by rfl) ?_ hA0 ?_
      rotate_left
      · intro W2 hA
        have c0 := (hA.duo bP1 (by omega)).cell0
        have d0 := (hA.duo bP1 (by omega)).cell1
        clear hA
        go_simp
        try with_reducible rfl
      try simp only [Act.put, List.setIfInBounds_toArray, List.set_cons_zero, List.set_cons_succ]
      refine take1 5 (v := ?_) rfl (by kernel_rfl) (by kernel_rfl) (by kernel_rfl) (fun _ _ _ h => h) (by rfl) ?_ hA0 ?_
      rotate_left
      · intro W2 hA
        have c0 := (hA.duo bP1 (by omega)).cell0
        have d0 := (hA.duo bP1 (by omega)).cell1
        clear hA
        go_simp
        try with_reducible rfl
      try simp only [Act.put, List.setIfInBounds_toArray, List.set_cons_zero, List.set_cons_succ]
      refine take1 6 (v := ?_) rfl (by kernel_rfl) (by kernel_rfl) (by kernel_rfl) (fun _ _ _ h => h) (by rfl) ?_ hA0 ?_
      rotate_left
      · intro W2 hA
        have c0 := (hA.duo bP1 (by omega)).cell0
        have d0 := (hA.duo bP1 (by omega)).cell1
        clear hA
        go_simp
        try with_reducible rfl
      try simp only [Act.put, List.setIfInBounds_toArray, List.set_cons_zero, List.set_cons_succ]
      refine take1 7 (v := ?_) rfl (by kernel_rfl) (by kernel_rfl) (by kernel_rfl) (fun _ _ _ h => h) (by rfl) ?_ hA0 ?_
      rotate_left
      · intro W2 hA
        have c0 := (hA.duo bP1 (by omega)).cell0
        have d0 := (hA.duo bP1 (by omega)).cell1
        clear hA
        go_simp
        try with_reducible rfl
      try simp only [Act.put, List.setIfInBounds_toArray, List.set_cons_zero, List.set_cons_succ]
      refine step2 0 8 (by kernel_rfl) rfl rfl (fun K hK => ?_) (fun K hK => ?_)
      · have cT_ := bT_0.cell
        go_simp
        refine hK.out _ _ hA0 ?_
        clear hK K
        try simp only [Act.put, List.setIfInBounds_toArray, List.set_cons_zero, List.set_cons_succ]
        refine step1 8 (by kernel_rfl) rfl (fun K hK => ?_)
        go_simp
        refine (Hle.out _).mono ?_
        rintro e W1' ⟨rfl, hb1⟩
        go_wp2_with fail
        have hA1 := hA0.call hb1
        have bT_1 := boxed_below bT_0 bT_0.lt hb1
        refine hK.out _ _ hA1 ?_
        clear hK K
        try simp only [Act.put, List.setIfInBounds_toArray, List.set_cons_zero, List.set_cons_succ]
        refine take1 9 (v := ?_) rfl (by kernel_rfl) (by kernel_rfl) (by kernel_rfl) (fun _ _ _ h => h) (by rfl) ?_ hA1 ?_
        rotate_left
        · intro W2 hA
          have c0 := (hA.duo bP1 (by omega)).cell0
          have d0 := (hA.duo bP1 (by omega)).cell1
          clear hA
          go_simp
          try with_reducible rfl
        try simp only [Act.put, List.setIfInBounds_toArray, List.set_cons_zero, List.set_cons_succ]
        have cT_9 := bT_1.cell
        have fT_9 := bT_1.frozen
        refine step1 10 (by kernel_rfl) rfl (fun K hK => ?_)
        go_simp
        refine hK.out _ _ (hA1.set _) ?_
        clear hK K
        try simp only [Act.put, List.setIfInBounds_toArray, List.set_cons_zero, List.set_cons_succ]
        refine stop1 (by kernel_rfl) ?_
        gi_wp2
        exact ⟨(hA1.set _).others bT1, (hA1.set _).kb (by omega) (by omega) hsW, ⟨⟨(hA1.set _).duo bP1 (by omega), (hA1.set _).duo bR1 (by omega)⟩, by rw [HS.out, HU.out]; exact (bT_1.set _)⟩, hB1.trans ((hA1.set _).below (by omega) hsW)⟩
      · go_simp
        refine (Hle.out _).mono ?_
        rintro e W1' ⟨rfl, hb1⟩
        go_wp2_with fail
        have hA1 := hA0.call hb1
        have bT_1 := boxed_below bT_0 bT_0.lt hb1
        refine hK.out _ _ hA1 ?_
        clear hK K
        try simp only [Act.put, List.setIfInBounds_toArray, List.set_cons_zero, List.set_cons_succ]
        refine step1 0 (by kernel_rfl) rfl (fun K hK => ?_)
        have cT_ := bT_1.cell
        go_simp
        refine hK.out _ _ hA1 ?_
        clear hK K
        try simp only [Act.put, List.setIfInBounds_toArray, List.set_cons_zero, List.set_cons_succ]
        refine take1 9 (v := ?_) rfl (by kernel_rfl) (by kernel_rfl) (by kernel_rfl) (fun _ _ _ h => h) (by rfl) ?_ hA1 ?_
        rotate_left
        · intro W2 hA
          have c0 := (hA.duo bP1 (by omega)).cell0
          have d0 := (hA.duo bP1 (by omega)).cell1
          clear hA
          go_simp
          try with_reducible rfl
        try simp only [Act.put, List.setIfInBounds_toArray, List.set_cons_zero, List.set_cons_succ]
        have cT_9 := bT_1.cell
        have fT_9 := bT_1.frozen
        refine step1 10 (by kernel_rfl) rfl (fun K hK => ?_)
        go_simp
        refine hK.out _ _ (hA1.set _) ?_
        clear hK K
        try simp only [Act.put, List.setIfInBounds_toArray, List.set_cons_zero, List.set_cons_succ]
        refine stop1 (by kernel_rfl) ?_
        gi_wp2
        exact ⟨(hA1.set _).others bT1, (hA1.set _).kb (by omega) (by omega) hsW, ⟨⟨(hA1.set _).duo bP1 (by omega), (hA1.set _).duo bR1 (by omega)⟩, by rw [HS.out, HU.out]; exact (bT_1.set _)⟩, hB1.trans ((hA1.set _).below (by omega) hsW)⟩
    · have HU := Lib.hid (show lturnS n s x.val g = q from by rw [hu]; omega)
      have hq : ¬ ((g : Int) ≤ (q : Int)) := by omega
      have hq1 : ((q : Int) < (g : Int)) := by omega
      have hq2 : min (g : Int) (q : Int) = (q : Int) := by omega
      clear hu
      gi_wp2
      have hA0 := Aside.start (w.heap.size + 1 + 1) W
      have bT_0 := (show Boxed W.drew _ _ _ from bT1)
      refine region_round (fun W2 => Aside (w.heap.size + 1 + 1) W W2) hmx (by kernel_rfl) (fun ⟨_, _, h⟩ => h) hA0 (fun _ => ?_)
      refine take1 1 (v := ?_) rfl (by kernel_rfl) (by kernel_rfl) (by kernel_rfl) (fun _ _ _ h => h) (by rfl) ?_ hA0 ?_
      rotate_left
      · intro W2 hA
        have c0 := (hA.duo bP1 (by omega)).cell0
        have d0 := (hA.duo bP1 (by omega)).cell1
        clear hA
        go_simp
        try with_reducible rfl
      try simp only [Act.put, List.setIfInBounds_toArray, List.set_cons_zero, List.set_cons_succ]
      refine take1 2 (v := ?_) rfl (by kernel_rfl) (by kernel_rfl) (by kernel_rfl) (fun _ _ _ h => h) (by rfl) ?_ hA0 ?_
      rotate_left
      · intro W2 hA
        have c0 := (hA.duo bP1 (by omega)).cell0
        have d0 := (hA.duo bP1 (by omega)).cell1
        clear hA
        go_simp
        try with_reducible rfl
      try simp only [Act.put, List.setIfInBounds_toArray, List.set_cons_zero, List.set_cons_succ]
      refine take1 3 (v := ?_) rfl (by kernel_rfl) (by kernel_rfl) (by kernel_rfl) (fun _ _ _ h => h) (by rfl) ?_ hA0 ?_
      rotate_left
      · intro W2 hA
        have c0 := (hA.duo bP1 (by omega)).cell0
        have d0 := (hA.duo bP1 (by omega)).cell1
        clear hA
        go_simp
        try with_reducible rfl
      try simp only [Act.put, List.setIfInBounds_toArray, List.set_cons_zero, List.set_cons_succ]
      refine take1 4 (v := ?_) rfl (by kernel_rfl) (by kernel_rfl) (by kernel_rfl) (fun _ _ _ h => h) (by rfl) ?_ hA0 ?_
      rotate_left
      · intro W2 hA
        have c0 := (hA.duo bP1 (by omega)).cell0
        have d0 := (hA.duo bP1 (by omega)).cell1
        clear hA
        go_simp
        try with_reducible rfl
      try simp only [Act.put, List.setIfInBounds_toArray, List.set_cons_zero, List.set_cons_succ]
      refine take1 5 (v := ?_) rfl (by kernel_rfl) (by kernel_rfl) (by kernel_rfl) (fun _ _ _ h => h) (by rfl) ?_ hA0 ?_
      rotate_left
      · intro W2 hA
        have c0 := (hA.duo bP1 (by omega)).cell0
        have d0 := (hA.duo bP1 (by omega)).cell1
        clear hA
        go_simp
        try with_reducible rfl
      try simp only [Act.put, List.setIfInBounds_toArray, List.set_cons_zero, List.set_cons_succ]
      refine take1 6 (v := ?_) rfl (by kernel_rfl) (by kernel_rfl) (by kernel_rfl) (fun _ _ _ h => h) (by rfl) ?_ hA0 ?_
      rotate_left
      · intro W2 hA
        have c0 := (hA.duo bP1 (by omega)).cell0
        have d0 := (hA.duo bP1 (by omega)).cell1
        clear hA
        go_simp
        try with_reducible rfl
      try simp only [Act.put, List.setIfInBounds_toArray, List.set_cons_zero, List.set_cons_succ]
      refine take1 7 (v := ?_) rfl (by kernel_rfl) (by kernel_rfl) (by kernel_rfl) (fun _ _ _ h => h) (by rfl) ?_ hA0 ?_
      rotate_left
      · intro W2 hA
        have c0 := (hA.duo bP1 (by omega)).cell0
        have d0 := (hA.duo bP1 (by omega)).cell1
        clear hA
        go_simp
        try with_reducible rfl
      try simp only [Act.put, List.setIfInBounds_toArray, List.set_cons_zero, List.set_cons_succ]
      refine step2 0 8 (by kernel_rfl) rfl rfl (fun K hK => ?_) (fun K hK => ?_)
      · have cT_ := bT_0.cell
        go_simp
        refine hK.out _ _ hA0 ?_
        clear hK K
        try simp only [Act.put, List.setIfInBounds_toArray, List.set_cons_zero, List.set_cons_succ]
        refine step1 8 (by kernel_rfl) rfl (fun K hK => ?_)
        go_simp
        refine (Hle.out _).mono ?_
        rintro e W1' ⟨rfl, hb1⟩
        go_wp2_with fail
        have hA1 := hA0.call hb1
        have bT_1 := boxed_below bT_0 bT_0.lt hb1
        refine hK.out _ _ hA1 ?_
        clear hK K
        try simp only [Act.put, List.setIfInBounds_toArray, List.set_cons_zero, List.set_cons_succ]
        refine take1 9 (v := ?_) rfl (by kernel_rfl) (by kernel_rfl) (by kernel_rfl) (fun _ _ _ h => h) (by rfl) ?_ hA1 ?_
        rotate_left
        · intro W2 hA
          have c0 := (hA.duo bP1 (by omega)).cell0
          have d0 := (hA.duo bP1 (by omega)).cell1
          clear hA
          go_simp
          try with_reducible rfl
        try simp only [Act.put, List.setIfInBounds_toArray, List.set_cons_zero, List.set_cons_succ]
        have cT_9 := bT_1.cell
        have fT_9 := bT_1.frozen
        refine step1 10 (by kernel_rfl) rfl (fun K hK => ?_)
        go_simp
        refine hK.out _ _ (hA1.set _) ?_
        clear hK K
        try simp only [Act.put, List.setIfInBounds_toArray, List.set_cons_zero, List.set_cons_succ]
        refine stop1 (by kernel_rfl) ?_
        gi_wp2
        exact ⟨(hA1.set _).others bT1, (hA1.set _).kb (by omega) (by omega) hsW, ⟨⟨(hA1.set _).duo bP1 (by omega), (hA1.set _).duo bR1 (by omega)⟩, by rw [HS.out, HU.out]; exact (bT_1.set _)⟩, hB1.trans ((hA1.set _).below (by omega) hsW)⟩
      · go_simp
        refine (Hle.out _).mono ?_
        rintro e W1' ⟨rfl, hb1⟩
        go_wp2_with fail
        have hA1 := hA0.call hb1
        have bT_1 := boxed_below bT_0 bT_0.lt hb1
        refine hK.out _ _ hA1 ?_
        clear hK K
        try simp only [Act.put, List.setIfInBounds_toArray, List.set_cons_zero, List.set_cons_succ]
        refine step1 0 (by kernel_rfl) rfl (fun K hK => ?_)
        have cT_ := bT_1.cell
        go_simp
        refine hK.out _ _ hA1 ?_
        clear hK K
        try simp only [Act.put, List.setIfInBounds_toArray, List.set_cons_zero, List.set_cons_succ]
        refine take1 9 (v := ?_) rfl (by kernel_rfl) (by kernel_rfl) (by kernel_rfl) (fun _ _ _ h => h) (by rfl) ?_ hA1 ?_
        rotate_left
        · intro W2 hA
          have c0 := (hA.duo bP1 (by omega)).cell0
          have d0 := (hA.duo bP1 (by omega)).cell1
          clear hA
          go_simp
          try with_reducible rfl
        try simp only [Act.put, List.setIfInBounds_toArray, List.set_cons_zero, List.set_cons_succ]
        have cT_9 := bT_1.cell
        have fT_9 := bT_1.frozen
        refine step1 10 (by kernel_rfl) rfl (fun K hK => ?_)
        go_simp
        refine hK.out _ _ (hA1.set _) ?_
        clear hK K
        try simp only [Act.put, List.setIfInBounds_toArray, List.set_cons_zero, List.set_cons_succ]
        refine stop1 (by kernel_rfl) ?_
        gi_wp2
        exact ⟨(hA1.set _).others bT1, (hA1.set _).kb (by omega) (by omega) hsW, ⟨⟨(hA1.set _).duo bP1 (by omega), (hA1.set _).duo bR1 (by omega)⟩, by rw [HS.out, HU.out]; exact (bT_1.set _)⟩, hB1.trans ((hA1.set _).below (by omega) hsW)⟩
  case done =>
    rintro D ys W hD rfl ⟨⟨⟨bP1, bR1⟩, bT1⟩, hB⟩ hK
    have cP := bP1.cell0
    have dP := bP1.cell1
    have cT := bT1.cell
    have f0 := duoFrozen bR1 0
    have f1 := duoFrozen bR1 1
    have r0 := bR1.cell0
    have r1 := bR1.cell1
    have lR := bR1.lt
    rw [fold_come] at cT
    gi_wp2
    have hW2 := duoSet2 bR1 (.int .i64 (n:Int)) (.int .i64 ((overSet (unitsN n) (lturnS n s) n s : Nat) : Int))
    have hB2 : Below w.heap.size w ((W.setCell ⟨w.heap.size + 1, 0, none⟩ (.int .i64 (n:Int))).setCell ⟨w.heap.size + 1, 1, none⟩ (.int .i64 ((overSet (unitsN n) (lturnS n s) n s : Nat) : Int))) := (hB.setCell (p := ⟨w.heap.size + 1, 0, none⟩) (by simp) _).setCell (p := ⟨w.heap.size + 1, 1, none⟩) (by simp) _
    have hne : D ≠ w.heap.size + 1 := by omega
    have hK2 : ((W.setCell ⟨w.heap.size + 1, 0, none⟩ (.int .i64 (n:Int))).setCell ⟨w.heap.size + 1, 1, none⟩ (.int .i64 ((overSet (unitsN n) (lturnS n s) n s : Nat) : Int))).heap[D]? = some (.deferred (some [])) := (Below.heap_setCell _ ⟨w.heap.size + 1, 1, none⟩ _ D hne).trans ((Below.heap_setCell _ ⟨w.heap.size + 1, 0, none⟩ _ D hne).trans hK)
    refine ⟨by simp, .inl ⟨_, _, rfl, run_takeDeferred hK2, ?_⟩⟩
    have hW3 := hW2.same (W' := (((W.setCell ⟨w.heap.size + 1, 0, none⟩ (.int .i64 (n:Int))).setCell ⟨w.heap.size + 1, 1, none⟩ (.int .i64 ((overSet (unitsN n) (lturnS n s) n s : Nat) : Int))).putObj D (.deferred none))) (World.putObj_heap_other (fun e => hne e.symm))
    have hB3 := hB2.trans (belowK_b (w := w) (Nat.le_refl _) _ D _ (.deferred none) (by omega) hK2 rfl rfl)
    obtain ⟨W3, hW3e⟩ : ∃ W3, (((W.setCell ⟨w.heap.size + 1, 0, none⟩ (.int .i64 (n:Int))).setCell ⟨w.heap.size + 1, 1, none⟩ (.int .i64 ((overSet (unitsN n) (lturnS n s) n s : Nat) : Int))).putObj D (.deferred none)) = W3 := ⟨_, rfl⟩
    rw [hW3e] at hW3 hB3 ⊢
    have q0 := hW3.cell0
    have q1 := hW3.cell1
    refine ⟨.agg #[.int .i64 (n:Int), .int .i64 ((overSet (unitsN n) (lturnS n s) n s : Nat) : Int)], ?_, rfl, hB3⟩
    simp [results, Try.results66, go_sem, q0, q1]
  case stop =>
    rintro D c pre W _ _ h _
    exact h.elim
end Go.Proofs.Ytaklmepioeoohaa
