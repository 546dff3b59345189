/- Rows, the program's side: the counts of all sums. Written by gen112.py. -/
import Derived.Test.YtkddaecfljiehaaZrpE
namespace Go.Proofs.Ytkddaecfljiehaa
open Go.RowKit Go.Shelf
set_option linter.unusedVariables false
attribute [local go_sem] Oper.semAt_some
theorem ints_same9 {W W' : World} {b g len cap : Nat} {xs : List Int} (h : IsInts W b (.slice (some ⟨g, 0, none⟩) len cap) xs) (e : W'.heap[g]? = W.heap[g]?) : IsInts W' b (.slice (some ⟨g, 0, none⟩) len cap) xs := by
  refine ⟨h.1, ?_⟩
  rcases h.2 with hn | ⟨g', cap', cur, hv, h1, hgg, rest⟩
  · exact .inl hn
  · cases hv
    exact .inr ⟨g, cap, cur, rfl, h1, e.trans hgg, rest⟩
theorem ints_block {W : World} {b g len cap : Nat} {xs : List Int} (h : IsInts W b (.slice (some ⟨g, 0, none⟩) len cap) xs) : ∃ cur, W.heap[g]? = some (.cells cur 3 (0, 0)) := by
  rcases h.2 with ⟨hv, _⟩ | ⟨g', cap', cur, hv, h1, hgg, _⟩
  · cases hv
  · cases hv; exact ⟨cur, hgg⟩
set_option maxRecDepth 100000 in
set_option maxHeartbeats 8000000 in
theorem waysOfTotals_any (n g L cap : Nat) (xs : List Int) (w : World) (h1 : 1 ≤ n) (h2 : n ≤ 12) (hL : L ≤ 12) (hlc : L ≤ cap) (hr : ∀ i, i < xs.length → 0 ≤ xs.getD i 0 ∧ xs.getD i 0 < (n:Int)) (hS : Shows w g L xs) :
    Calls Try.prog 24 #[.agg #[.int .i64 (n:Int), .slice (some ⟨g, 0, none⟩) L cap]] w fun e w' => ∃ v, e = .returned v ∧ Below w.heap.size w w' ∧ IsInts w' w.heap.size v (cntL n (rowZ xs) xs.length) := by
  have hmx : Try.prog.follows .mixedOrders = true := by kernel_rfl
  have hp := pow_le L hL
  have hxl := hS.size
  have hgl := hS.lt
  have hp2 : 2 ^ xs.length ≤ 4096 := by rw [hxl]; exact hp
  have hD := Duo.new w 39 (.int .i64 (n:Int)) (.slice (some ⟨g, 0, none⟩) L cap)
  have hDD : Duo (((w.alloc (.cells #[.int .i64 (n:Int), .slice (some ⟨g, 0, none⟩) L cap] 39)).alloc (.cells (madeCells #[.int .i64 0] n) 3)).alloc (.cells #[.slice (some ⟨w.heap.size + 1, 0, none⟩) n n] 23)) w.heap.size 39 (.int .i64 (n:Int)) (.slice (some ⟨g, 0, none⟩) L cap) := (hD.alloc _).alloc _
  have d0 := hD.cell0
  have q0 := hDD.cell0
  have q1 := hDD.cell1
  have hmk := make_ints n (by omega) (w.alloc (.cells #[.int .i64 (n:Int), .slice (some ⟨g, 0, none⟩) L cap] 39))
  rw [World.size_alloc] at hmk
  refine (callsIn_wide (n := 10)).1 ?_
  refine callsIn_of_wp_marks Try.func24 rfl trivial ?_ rfl
  simp only [Try.ntmps24, List.size_toArray, List.length_cons, List.length_nil, Nat.reduceAdd, Nat.reduceSub, Array.replicate_succ, Array.replicate_zero, List.push_toArray, List.append_toArray, List.nil_append, List.cons_append]
  gi_wp2_with (refine ⟨trivial, ?_⟩; gi_at_call 35; refine (callsIn_wide.2 (choices_any n (.slice (some ⟨g, 0, none⟩) L cap) _ ⟨_, _, _, rfl⟩)).mono ?_; rintro e w' ⟨rfl, rfl⟩)
  clear q0 q1 d0 hmk
  have hI0 := ((made_ints n (by omega) (w.alloc (.cells #[.int .i64 (n:Int), .slice (some ⟨g, 0, none⟩) L cap] 39))).belowAll ((Below.refl _ _).alloc (Nat.le_refl _) (.cells #[.slice (some ⟨w.heap.size + 1, 0, none⟩) n n] 23))).belowAll ((Below.refl _ _).alloc (Nat.le_refl _) (.cells #[.int .i64 (n:Int), .slice (some ⟨g, 0, none⟩) L cap] 39))
  rw [World.size_alloc] at hI0
  have bW0 := (Boxed.new ((w.alloc (.cells #[.int .i64 (n:Int), .slice (some ⟨g, 0, none⟩) L cap] 39)).alloc (.cells (madeCells #[.int .i64 0] n) 3)) 23 (.slice (some ⟨w.heap.size + 1, 0, none⟩) n n)).alloc (.cells #[.int .i64 (n:Int), .slice (some ⟨g, 0, none⟩) L cap] 39)
  have bZ0 := Duo.new (((w.alloc (.cells #[.int .i64 (n:Int), .slice (some ⟨g, 0, none⟩) L cap] 39)).alloc (.cells (madeCells #[.int .i64 0] n) 3)).alloc (.cells #[.slice (some ⟨w.heap.size + 1, 0, none⟩) n n] 23)) 39 (.int .i64 (n:Int)) (.slice (some ⟨g, 0, none⟩) L cap)
  simp only [World.size_alloc] at bW0 bZ0
  have hB0 : Below w.heap.size w ((((w.alloc (.cells #[.int .i64 (n:Int), .slice (some ⟨g, 0, none⟩) L cap] 39)).alloc (.cells (madeCells #[.int .i64 0] n) 3)).alloc (.cells #[.slice (some ⟨w.heap.size + 1, 0, none⟩) n n] 23)).alloc (.cells #[.int .i64 (n:Int), .slice (some ⟨g, 0, none⟩) L cap] 39)) := ((((Below.refl _ w).alloc (Nat.le_refl _) _).alloc (by simp) _).alloc (by simp; omega) _).alloc (by simp; omega) _
  have hz0 : ((((w.alloc (.cells #[.int .i64 (n:Int), .slice (some ⟨g, 0, none⟩) L cap] 39)).alloc (.cells (madeCells #[.int .i64 0] n) 3)).alloc (.cells #[.slice (some ⟨w.heap.size + 1, 0, none⟩) n n] 23)).alloc (.cells #[.int .i64 (n:Int), .slice (some ⟨g, 0, none⟩) L cap] 39)).heap.size = w.heap.size + 4 := by simp
  obtain ⟨W0, hW0⟩ : ∃ W0, ((((w.alloc (.cells #[.int .i64 (n:Int), .slice (some ⟨g, 0, none⟩) L cap] 39)).alloc (.cells (madeCells #[.int .i64 0] n) 3)).alloc (.cells #[.slice (some ⟨w.heap.size + 1, 0, none⟩) n n] 23)).alloc (.cells #[.int .i64 (n:Int), .slice (some ⟨g, 0, none⟩) L cap] 39)) = W0 := ⟨_, rfl⟩
  rw [hW0] at hI0 bW0 bZ0 hB0 hz0 ⊢
  clear hW0 hD hDD
  have hS0 := hS.belowAll hB0
  clear hS
  have HTo := Lib.hid (fun (x : Nat × List Int) g cap V hx hS => total_rd n xs x g cap V h1 h2 (by omega) hr hx hS)
  have HLn := Lib.hid (fun pre => cntsL_len n (rowZ xs) xs.length pre)
  have HSn := Lib.hid (fun pre x => cntsL_snoc n (rowZ xs) xs.length pre x)
  have HGt := Lib.hid (fun pre v hv => cntsL_get n (rowZ xs) xs.length pre v hv)
  have HLe := Lib.hid (fun pre v => cntOf_le n (rowZ xs) xs.length v pre)
  have HZl := Lib.hid (fun c => zsum_lt n (rowZ xs) xs.length c h1)
  refine rangeReadsA rfl (by omega) (gf := 43) (lb := #[.pointer (some ⟨w.heap.size + 1 + 1 + 1, 0, none⟩)]) rfl trivial (enters_of Try.func43 (by kernel_rfl) rfl)
    (choices_keeps n (w.heap.size + 1 + 1 + 1) g L cap 5000 xs W0 hL hlc bZ0 hS0 (by omega)) (fun k hk => by rcases hk with rfl | rfl <;> omega) (Below.refl _ _) (rdC_put n xs)
    (fun pre W9 => IsInts W9 (w.heap.size + 1) (.slice (some ⟨w.heap.size + 1, 0, none⟩) n n) (cntsL n (rowZ xs) xs.length pre) ∧ Boxed W9 (w.heap.size + 1 + 1) 23 (.slice (some ⟨w.heap.size + 1, 0, none⟩) n n) ∧ Below w.heap.size w W9)
    (fun c pre W9 => False)
    (fun pre A B h k => ⟨ints_same9 h.1 (k.low _ (by omega)), boxed_outside h.2.1 k, below_outside h.2.2 k (by omega)⟩)
    (fun c pre A B h k => h)
    (rdC_below n xs) ⟨by rw [cntsL_nil]; exact hI0, bW0, hB0⟩
    (fun v a' W9 => ∃ Bx u0 u1 u2, v = .agg #[u0, u1, u2] ∧ a' = { tmps := #[.agg #[.int .i64 (n:Int), .slice (some ⟨g, 0, none⟩) L cap], .pointer (some ⟨w.heap.size, 0, none⟩), .slice none 0 0, .pointer (some ⟨w.heap.size + 1 + 1, 0, none⟩), .pointer (some ⟨Bx, 0, none⟩), .pointer (some ⟨w.heap.size, 0, none⟩), .pointer (some ⟨w.heap.size, 0, none⟩), .int .i64 (n:Int), .slice (some ⟨w.heap.size + 1, 0, none⟩) n n, .agg #[.int .i64 (n:Int), .slice (some ⟨g, 0, none⟩) L cap], .func (.func 43) #[] #[.pointer (some ⟨w.heap.size + 1 + 1 + 1, 0, none⟩)], v, undef, undef, undef, undef, undef, undef, undef, undef, undef], defers := [] } ∧ Trip W9 Bx 61 u0 u1 u2)
    (fun v a' W9 l' o o' h hl ho => by
      obtain ⟨Bx, u0, u1, u2, e1, e2, hT⟩ := h
      refine ⟨Bx, u0, u1, u2, e1, e2, (World.putObj_heap_other (fun e => ?_)).trans hT⟩
      subst e
      have hT' : W9.heap[Bx]? = _ := hT
      rw [hl] at hT'
      cases hT'
      cases ho) ?assign ?body ?done ?stop
  case assign =>
    rintro l' x v W9 K hz ⟨hx, g', cap', rfl, hS9⟩ hK
    gi_wp2
    refine hK _ _ ?_ ⟨W9.heap.size, _, _, _, rfl, rfl, ?_⟩
    · exact (Below.refl _ _).alloc (Nat.le_refl _) _
    · exact Trip.new W9 61 _ _ _
  case body =>
    rintro l' pre ⟨c, ys⟩ v a' W9 hz ⟨hI, bW, hB⟩ ⟨hx, g9, cap9, rfl, hS9⟩ ⟨Bx, u0, u1, u2, hv, rfl, hT⟩ hlen
    dsimp only at hv hS9
    cases hv
    have HTx := Lib.hid (fun V (hb : Below W9.heap.size W9 V) => HTo.out (c, ys) g9 cap9 V hx (hS9.belowAll hb))
    have HSx : Hid (cntsL n (rowZ xs) xs.length (pre ++ [(c, ys)]) = (cntsL n (rowZ xs) xs.length pre).set (zsum n (rowZ xs) xs.length c) ((cntOf n (rowZ xs) xs.length (zsum n (rowZ xs) xs.length c) pre + 1 : Nat) : Int)) := Lib.hid (HSn.out pre (c, ys))
    have hzl := HZl.out c
    have HGx := Lib.hid (HGt.out pre _ hzl)
    have hle := HLe.out pre (zsum n (rowZ xs) xs.length c)
    have HLx := Lib.hid (HLn.out pre)
    have HTy : Hid (∀ V, Below W9.heap.size W9 V → Calls Try.prog 27 #[.agg #[.int .i64 (n:Int), .slice (some ⟨g9, 0, none⟩) ys.length cap9]] V fun e w' => e = .returned (.int .i64 ((zsum n (rowZ xs) xs.length c : Nat) : Int)) ∧ Below V.heap.size V w') := Lib.hid (fun V hb => HTx.out V hb)
    clear HTx hx hS9
    generalize zsum n (rowZ xs) xs.length c = z at *
    generalize cntOf n (rowZ xs) xs.length z pre = t at *
    generalize hzs2 : cntsL n (rowZ xs) xs.length (pre ++ [(c, ys)]) = zs2 at *
    have HZ2 := Lib.hid hzs2
    clear hzs2
    generalize cntsL n (rowZ xs) xs.length pre = zs at *
    have hA0 : Boxed W9.drew (w.heap.size + 1 + 1) 23 (.slice (some ⟨w.heap.size + 1, 0, none⟩) n n) ∧ Trip W9.drew Bx 61 (.int .i64 (n:Int)) (.slice (some ⟨g9, 0, none⟩) ys.length cap9) (.int .i64 ((c : Nat) : Int)) := ⟨bW, hT⟩
    have hI1 : IsInts W9.drew (w.heap.size + 1) (.slice (some ⟨w.heap.size + 1, 0, none⟩) n n) zs := hI
    have hB1 : Below w.heap.size w W9.drew := hB.drew
    have HS1 : Hid (Kept 43 W0.heap.size (fun k => k = g ∨ k = w.heap.size + 1 + 1 + 1) W9 W9.drew) := Lib.hid ⟨rfl, rfl, rfl, Nat.le_refl _, fun _ _ _ _ => rfl⟩
    have hBd : Below W9.heap.size W9 W9.drew := (Below.refl _ _).drew
    have HI0 := Lib.hid hI
    clear bW hI hB hT
    gi_wp2
    refine region_round (fun W2 => Boxed W2 (w.heap.size + 1 + 1) 23 (.slice (some ⟨w.heap.size + 1, 0, none⟩) n n) ∧ Trip W2 Bx 61 (.int .i64 (n:Int)) (.slice (some ⟨g9, 0, none⟩) ys.length cap9) (.int .i64 ((c : Nat) : Int))) hmx (by kernel_rfl) (by rintro ⟨_, _, h⟩; exact h) hA0 (fun _ => ?_)
    have hz1 : W9.drew.heap.size = W9.heap.size := rfl
    generalize W9.drew = W4 at *
    refine take1 0 (v := ?_) rfl (by kernel_rfl) (by kernel_rfl) (by kernel_rfl) (fun _ _ _ h => h) (by rfl) ?_ hA0 ?_
    rotate_left
    · intro W9 hA
      obtain ⟨hq, hp⟩ := hA
      have c0 := hp.cell0
      have c1 := hp.cell1
      have c2 := hp.cell2
      have c3 := hq.cell
      clear hq hp
      go_simp
      try with_reducible rfl
    try simp only [Act.put, List.setIfInBounds_toArray, List.set_cons_zero, List.set_cons_succ]
    refine take1 1 (v := ?_) rfl (by kernel_rfl) (by kernel_rfl) (by kernel_rfl) (fun _ _ _ h => h) (by rfl) ?_ hA0 ?_
    rotate_left
    · intro W9 hA
      obtain ⟨hq, hp⟩ := hA
      have c0 := hp.cell0
      have c1 := hp.cell1
      have c2 := hp.cell2
      have c3 := hq.cell
      clear hq hp
      go_simp
      try with_reducible rfl
    try simp only [Act.put, List.setIfInBounds_toArray, List.set_cons_zero, List.set_cons_succ]
    refine take1 2 (v := ?_) rfl (by kernel_rfl) (by kernel_rfl) (by kernel_rfl) (fun _ _ _ h => h) (by rfl) ?_ hA0 ?_
    rotate_left
    · intro W9 hA
      obtain ⟨hq, hp⟩ := hA
      have c0 := hp.cell0
      have c1 := hp.cell1
      have c2 := hp.cell2
      have c3 := hq.cell
      clear hq hp
      go_simp
      try with_reducible rfl
    try simp only [Act.put, List.setIfInBounds_toArray, List.set_cons_zero, List.set_cons_succ]
    refine step1 3 (by kernel_rfl) rfl (fun K hK => ?_)
    go_simp
    refine (HTy.out W4 hBd).mono ?_
    rintro e W5 ⟨rfl, hb5⟩
    have hA5 : Boxed W5 (w.heap.size + 1 + 1) 23 (.slice (some ⟨w.heap.size + 1, 0, none⟩) n n) ∧ Trip W5 Bx 61 (.int .i64 (n:Int)) (.slice (some ⟨g9, 0, none⟩) ys.length cap9) (.int .i64 ((c : Nat) : Int)) := ⟨boxed_below hA0.1 hA0.1.lt hb5, hA0.2.belowAll hb5⟩
    have hI5 := hI1.belowAll hb5
    have hB5 := hB1.trans (hb5.mono hB1.size)
    have HS5 := Lib.hid (HS1.out.trans (Kept.below hb5))
    go_wp2_with fail
    refine hK.out _ _ hA5 ?_
    clear hK K hA0 hI1 hB1 hb5
    try simp only [Act.put, List.setIfInBounds_toArray, List.set_cons_zero, List.set_cons_succ]
    have k0 : (0 : Int) ≤ (z : Int) := by omega
    have k1 : (z : Int) < (n : Int) := by omega
    have k2 : z < n := hzl
    refine take1 4 (v := ?_) rfl (by kernel_rfl) (by kernel_rfl) (by kernel_rfl) (fun _ _ _ h => h) (by rfl) ?_ hA5 ?_
    rotate_left
    · intro W9 hA
      obtain ⟨hq, hp⟩ := hA
      have c0 := hp.cell0
      have c1 := hp.cell1
      have c2 := hp.cell2
      have c3 := hq.cell
      clear hq hp
      go_simp
      try with_reducible rfl
    try simp only [Act.put, List.setIfInBounds_toArray, List.set_cons_zero, List.set_cons_succ]
    have hLz : zs.length = n := HLx.out
    have ci := hI5.cell (i := z) (by omega)
    rw [HGx.out] at ci
    have hwk : IntKind.i64.wrap ((t : Int) + 1) = ((t + 1 : Nat) : Int) := by rw [IntWalk.i64_in _ ⟨by omega, by omega⟩]; rfl
    have hI5' := hI5
    rw [← hLz] at hI5'
    have fi := hI5'.frozen z
    have hI9 := hI5'.set z ((t : Int) + 1)
    have hs2 := HSx.out
    rw [show ((t + 1 : Nat) : Int) = (t : Int) + 1 by omega] at hs2
    rw [List.length_set, hLz, ← hs2] at hI9
    clear hs2
    have HIc : Hid (∃ cur, W5.heap[w.heap.size + 1]? = some (.cells cur 3 (0, 0))) := Lib.hid (ints_block hI5)
    clear hLz hI5'
    refine step1 5 (by kernel_rfl) rfl (fun K hK => ?_)
    go_simp
    refine hK.out _ _ hA5 ?_
    clear hK K
    try simp only [Act.put, List.setIfInBounds_toArray, List.set_cons_zero, List.set_cons_succ]
    refine take1 6 (v := ?_) rfl (by kernel_rfl) (by kernel_rfl) (by kernel_rfl) (fun _ _ _ h => h) (by rfl) ?_ hA5 ?_
    rotate_left
    · intro W9 hA
      obtain ⟨hq, hp⟩ := hA
      have c0 := hp.cell0
      have c1 := hp.cell1
      have c2 := hp.cell2
      have c3 := hq.cell
      clear hq hp
      go_simp
      try with_reducible rfl
    try simp only [Act.put, List.setIfInBounds_toArray, List.set_cons_zero, List.set_cons_succ]
    refine take1 7 (v := ?_) rfl (by kernel_rfl) (by kernel_rfl) (by kernel_rfl) (fun _ _ _ h => h) (by rfl) ?_ hA5 ?_
    rotate_left
    · intro W9 hA
      obtain ⟨hq, hp⟩ := hA
      have c0 := hp.cell0
      have c1 := hp.cell1
      have c2 := hp.cell2
      have c3 := hq.cell
      clear hq hp
      go_simp
      try with_reducible rfl
    try simp only [Act.put, List.setIfInBounds_toArray, List.set_cons_zero, List.set_cons_succ]
    refine step1 8 (by kernel_rfl) rfl (fun K hK => ?_)
    go_simp
    have hA9 : Boxed (W5.setCell ⟨w.heap.size + 1, z, none⟩ (.int .i64 ((t : Int) + 1))) (w.heap.size + 1 + 1) 23 (.slice (some ⟨w.heap.size + 1, 0, none⟩) n n) ∧ Trip (W5.setCell ⟨w.heap.size + 1, z, none⟩ (.int .i64 ((t : Int) + 1))) Bx 61 (.int .i64 (n:Int)) (.slice (some ⟨g9, 0, none⟩) ys.length cap9) (.int .i64 ((c : Nat) : Int)) := ⟨(Below.heap_setCell W5 ⟨w.heap.size + 1, z, none⟩ _ _ (by show w.heap.size + 1 + 1 ≠ w.heap.size + 1; omega)).trans hA5.1, hA5.2.same (Below.heap_setCell W5 ⟨w.heap.size + 1, z, none⟩ _ _ (by
      show Bx ≠ w.heap.size + 1
      intro e
      have h9 := hA5.2
      subst e
      obtain ⟨cur, hcur⟩ := HIc.out
      rw [Trip, hcur] at h9
      have h8 := (Obj.cells.inj (Option.some.inj h9)).2.1
      revert h8
      decide))⟩
    refine hK.out _ _ hA9 ?_
    clear hK K
    try simp only [Act.put, List.setIfInBounds_toArray, List.set_cons_zero, List.set_cons_succ]
    refine stop1 (by kernel_rfl) ?_
    have HN : Hid (Kept 43 W0.heap.size (fun k => k = g ∨ k = w.heap.size + 1 + 1 + 1) W9 (W5.setCell ⟨w.heap.size + 1, z, none⟩ (.int .i64 ((t : Int) + 1))) ∧ IsInts (W5.setCell ⟨w.heap.size + 1, z, none⟩ (.int .i64 ((t : Int) + 1))) (w.heap.size + 1) (.slice (some ⟨w.heap.size + 1, 0, none⟩) n n) zs2 ∧ Boxed (W5.setCell ⟨w.heap.size + 1, z, none⟩ (.int .i64 ((t : Int) + 1))) (w.heap.size + 1 + 1) 23 (.slice (some ⟨w.heap.size + 1, 0, none⟩) n n) ∧ Below w.heap.size w (W5.setCell ⟨w.heap.size + 1, z, none⟩ (.int .i64 ((t : Int) + 1)))) :=
      Lib.hid ⟨HS5.out.trans (Kept.setCell W5 ⟨w.heap.size + 1, z, none⟩ _ (by show w.heap.size + 1 < _; omega) (by show ¬ (w.heap.size + 1 = g ∨ w.heap.size + 1 = w.heap.size + 1 + 1 + 1); omega)), hI9, hA9.1, hB5.setCell (p := ⟨w.heap.size + 1, z, none⟩) (by show w.heap.size ≤ w.heap.size + 1; omega) _⟩
    clear hI9 hA9 hI5 ci fi hA5
    gi_wp2
    exact ⟨HN.out.1, by have h := HN.out.2.1; rw [← HZ2.out] at h; exact h, HN.out.2.2⟩
  case done =>
    rintro D ys W9 hD rfl ⟨hI, bW, hB⟩ hK
    rw [cntsL_all] at hI
    have cW := bW.cell
    have HN : Hid (Below w.heap.size w (W9.putObj D (.deferred none)) ∧ IsInts (W9.putObj D (.deferred none)) w.heap.size (.slice (some ⟨w.heap.size + 1, 0, none⟩) n n) (cntL n (rowZ xs) xs.length)) := Lib.hid ⟨hB.trans (belowK_b (w := w) (Nat.le_refl _) _ D _ (.deferred none) (by omega) hK rfl rfl), (ints_same9 hI (World.putObj_heap_other (by omega))).base (by omega)⟩
    clear hI hB bW
    gi_wp2
    refine ⟨by simp, .inl ⟨_, _, rfl, run_takeDeferred hK, ?_⟩⟩
    refine ⟨.slice (some ⟨w.heap.size + 1, 0, none⟩) n n, ?_, _, rfl, HN.out.1, HN.out.2⟩
    simp [results, Try.results24, go_sem]
  case stop =>
    rintro D c pre W _ _ h _
    exact h.elim
end Go.Proofs.Ytkddaecfljiehaa
