/- Texts of mine, laid together: Turn Sum Math SpecA SpecB Units Holds Least WrapA Post Size Davenport. -/
import Derived.Test.YtecjhkpldcmlaaaDoorGA
import Derived.WalkLawsBesides
import Derived.ChangeSame
namespace Go.Proofs.YtecjhkpldcmlaaaDoor
open Go.RowKit Go.Shelf
set_option linter.unusedVariables false
attribute [local go_sem] Oper.semAt_some
set_option maxRecDepth 100000 in
set_option maxHeartbeats 2000000 in
theorem turn_any (n s : Nat) (m : Int) (w : World) (h1 : 1 ≤ n) (h2 : n ≤ 12) (hs : s < 2 ^ n) (hm1 : -1000 ≤ m) (hm2 : m ≤ 1000) :
    Calls Tryd.prog 42 #[.agg #[.int .i64 (n:Int)], .int .i64 (s:Int), .int .i64 m] w fun e w' => e = .returned (.int .i64 ((turnN n s m : Nat) : Int)) ∧ Below w.heap.size w w' := by
  refine (callsIn_wide (n := 9)).1 ?_
  refine callsIn_of_wp_marks Tryd.func42 rfl trivial ?_ rfl
  simp only [Tryd.ntmps42, List.size_toArray, List.length_cons, List.length_nil, Nat.reduceAdd, Nat.reduceSub, Array.replicate_succ, Array.replicate_zero, List.push_toArray, List.append_toArray, List.nil_append, List.cons_append]
  gi_wp2_with (refine ⟨trivial, ?_⟩; gi_at_call 70; refine (callsIn_wide.2 (places_any s _)).mono ?_; rintro e w' ⟨rfl, rfl⟩)
  have bR := (((Boxed.new w 43 (.int .i64 (n:Int))).alloc (.cells #[.int .i64 m] 3)).alloc (.cells #[.int .i64 0] 53)).alloc (.cells #[.int .i64 (s:Int)] 53)
  have bM := ((Boxed.new (w.alloc (.cells #[.int .i64 (n:Int)] 43)) 3 (.int .i64 m)).alloc (.cells #[.int .i64 0] 53)).alloc (.cells #[.int .i64 (s:Int)] 53)
  have bT := (Boxed.new ((w.alloc (.cells #[.int .i64 (n:Int)] 43)).alloc (.cells #[.int .i64 m] 3)) 53 (.int .i64 0)).alloc (.cells #[.int .i64 (s:Int)] 53)
  have bP := Boxed.new (((w.alloc (.cells #[.int .i64 (n:Int)] 43)).alloc (.cells #[.int .i64 m] 3)).alloc (.cells #[.int .i64 0] 53)) 53 (.int .i64 (s:Int))
  simp only [World.size_alloc] at bM bT bP
  have hB0 : Below w.heap.size w ((((w.alloc (.cells #[.int .i64 (n:Int)] 43)).alloc (.cells #[.int .i64 m] 3)).alloc (.cells #[.int .i64 0] 53)).alloc (.cells #[.int .i64 (s:Int)] 53)) :=
    ((((Below.refl _ w).alloc (Nat.le_refl _) _).alloc (by simp) _).alloc (by simp; omega) _).alloc (by simp; omega) _
  have hsz : ((((w.alloc (.cells #[.int .i64 (n:Int)] 43)).alloc (.cells #[.int .i64 m] 3)).alloc (.cells #[.int .i64 0] 53)).alloc (.cells #[.int .i64 (s:Int)] 53)).heap.size = w.heap.size + 4 := by simp
  obtain ⟨W0, hW0⟩ : ∃ W0, ((((w.alloc (.cells #[.int .i64 (n:Int)] 43)).alloc (.cells #[.int .i64 m] 3)).alloc (.cells #[.int .i64 0] 53)).alloc (.cells #[.int .i64 (s:Int)] 53)) = W0 := ⟨_, rfl⟩
  rw [hW0] at bR bM bT bP hB0 hsz ⊢
  clear hW0
  refine wpIn_rangeFunc_ownF rfl (by omega) (gf := 86) (lb := #[.pointer (some ⟨w.heap.size + 1 + 1 + 1, 0, none⟩)]) rfl trivial (enters_of Tryd.func86 (by kernel_rfl) rfl)
    (places_stops 8 (by omega) (w.heap.size + 1 + 1 + 1) w.heap.size n s hs h2 W0 bP) KB.trans (KB.put (by omega)) (Below.refl _ _) (fun _ => rfl)
    (fun pre W => ((Boxed W w.heap.size 43 (.int .i64 (n:Int)) ∧ Boxed W (w.heap.size + 1) 3 (.int .i64 m)) ∧ Boxed W (w.heap.size + 1 + 1) 53 (.int .i64 ((fold (turnS n m) 0 (vals pre) : Nat) : Int))) ∧ Below w.heap.size w W)
    (fun _ _ _ => False)
    (OwnFrom.and (OwnFrom.and (OwnFrom.and (Own.from (boxed_own _ _ _) _) (Own.from (boxed_own _ _ _) _)) (Own.from (boxed_own _ _ _) _)) (ownFrom_below (Nat.le_refl _) (by omega)))
    (fun _ _ _ _ _ hs _ _ => hs)
    ⟨⟨⟨bR, bM⟩, bT⟩, hB0⟩
    (fun x => { tmps := #[.agg #[.int .i64 (n:Int)], .int .i64 (s:Int), .int .i64 m, .pointer (some ⟨w.heap.size, 0, none⟩), undef, .pointer (some ⟨w.heap.size + 1, 0, none⟩), .int .i64 0, .pointer (some ⟨w.heap.size + 1 + 1, 0, none⟩), .int .i64 (x.val : Int), .int .i64 (s:Int), .func (.func 86) #[] #[.pointer (some ⟨w.heap.size + 1 + 1 + 1, 0, none⟩)], .int .i64 (x.val : Int), undef, undef, undef, undef, undef, undef, undef, undef], defers := [] }) ?assign ?body ?done ?stop
  case assign =>
    intro l x W K hK
    gi_wp2
    exact hK
  case body =>
    rintro l pre x W ⟨⟨⟨bR1, bM1⟩, bT1⟩, hB1⟩ _
    have cR := bR1.cell
    have cM := bM1.cell
    have cT := bT1.cell
    have hx := x.isLt
    obtain ⟨hv1, hv2⟩ := mul_small (a := (x.val : Int)) (by omega) (by omega) hm1 hm2
    have ho := fold_lt (turnS n m) n (2 ^ n) 0 (Nat.two_pow_pos n) (turnS_lt n m h1) pre
    have hp := pow_le n h2
    have hr := rest_lt n ((x.val : Int) * m) h1
    have hsW := hB1.size
    have lR := bR1.lt
    have lT := bT1.lt
    have lM := bM1.lt
    have HS := Lib.hid (fold_snoc (turnS n m) 0 pre x)
    have hmx : Tryd.prog.follows .mixedOrders = true := by kernel_rfl
    have Hrest := Lib.hid (fun W => rest_any n ((x.val : Int) * m) W h1 h2 ⟨by omega, by omega⟩)
    have Hwith := Lib.hid (fun W => with_any (fold (turnS n m) 0 (vals pre)) (rest n ((x.val : Int) * m)) W (by omega) (by omega))
    have E := IntWalk.i64_in ((x.val : Int) * m) ⟨by omega, by omega⟩
    gi_wp2
    have hA0 := Aside.start (w.heap.size + 1 + 1) W
    have bT_0 := (show Boxed W.drew _ _ _ from bT1)
    refine region_round (fun W2 => Aside (w.heap.size + 1 + 1) W W2) hmx (by kernel_rfl) (fun ⟨_, _, h⟩ => h) hA0 (fun _ => ?_)
    refine take1 1 (v := ?_) rfl (by kernel_rfl) (by kernel_rfl) (by kernel_rfl) (fun _ _ _ h => h) (by rfl) ?_ hA0 ?_
    rotate_left
    · intro W2 hA
      have c0 := (hA.box bR1 (by omega)).cell
      have c1 := (hA.box bM1 (by omega)).cell
      clear hA
      go_simp
      try with_reducible rfl
    try simp only [Act.put, List.setIfInBounds_toArray, List.set_cons_zero, List.set_cons_succ]
    refine take1 2 (v := ?_) rfl (by kernel_rfl) (by kernel_rfl) (by kernel_rfl) (fun _ _ _ h => h) (by rfl) ?_ hA0 ?_
    rotate_left
    · intro W2 hA
      have c0 := (hA.box bR1 (by omega)).cell
      have c1 := (hA.box bM1 (by omega)).cell
      clear hA
      go_simp
      try with_reducible rfl
    try simp only [Act.put, List.setIfInBounds_toArray, List.set_cons_zero, List.set_cons_succ]
    refine take1 3 (v := ?_) rfl (by kernel_rfl) (by kernel_rfl) (by kernel_rfl) (fun _ _ _ h => h) (by rfl) ?_ hA0 ?_
    rotate_left
    · intro W2 hA
      have c0 := (hA.box bR1 (by omega)).cell
      have c1 := (hA.box bM1 (by omega)).cell
      clear hA
      go_simp
      try with_reducible rfl
    try simp only [Act.put, List.setIfInBounds_toArray, List.set_cons_zero, List.set_cons_succ]
    refine take1 4 (v := ?_) rfl (by kernel_rfl) (by kernel_rfl) (by kernel_rfl) (fun _ _ _ h => h) (by rfl) ?_ hA0 ?_
    rotate_left
    · intro W2 hA
      have c0 := (hA.box bR1 (by omega)).cell
      have c1 := (hA.box bM1 (by omega)).cell
      clear hA
      go_simp
      try with_reducible rfl
    try simp only [Act.put, List.setIfInBounds_toArray, List.set_cons_zero, List.set_cons_succ]
    refine step2 0 5 (by kernel_rfl) rfl rfl (fun K hK => ?_) (fun K hK => ?_)
    · have cT_ := bT_0.cell
      go_simp
      refine hK.out _ _ hA0 ?_
      clear hK K
      try simp only [Act.put, List.setIfInBounds_toArray, List.set_cons_zero, List.set_cons_succ]
      refine step1 5 (by kernel_rfl) rfl (fun K hK => ?_)
      go_simp
      refine (Hrest.out _).mono ?_
      rintro e W1' ⟨rfl, hb1⟩
      go_wp2_with fail
      have hA1 := hA0.call hb1
      have bT_1 := boxed_below bT_0 bT_0.lt hb1
      refine hK.out _ _ hA1 ?_
      clear hK K
      try simp only [Act.put, List.setIfInBounds_toArray, List.set_cons_zero, List.set_cons_succ]
      refine step1 6 (by kernel_rfl) rfl (fun K hK => ?_)
      go_simp
      refine (Hwith.out _).mono ?_
      rintro e W3 ⟨rfl, rfl⟩
      go_wp2_with fail
      refine hK.out _ _ hA1 ?_
      clear hK K
      try simp only [Act.put, List.setIfInBounds_toArray, List.set_cons_zero, List.set_cons_succ]
      have cT_9 := bT_1.cell
      have fT_9 := bT_1.frozen
      refine step1 7 (by kernel_rfl) rfl (fun K hK => ?_)
      go_simp
      refine hK.out _ _ (hA1.set _) ?_
      clear hK K
      try simp only [Act.put, List.setIfInBounds_toArray, List.set_cons_zero, List.set_cons_succ]
      refine stop1 (by kernel_rfl) ?_
      gi_wp2
      exact ⟨(hA1.set _).others bT1, (hA1.set _).kb (by omega) (by omega) hsW, ⟨⟨(hA1.set _).box bR1 (by omega), (hA1.set _).box bM1 (by omega)⟩, by rw [HS.out]; exact (bT_1.set _)⟩, hB1.trans ((hA1.set _).below (by omega) hsW)⟩
    · go_simp
      refine (Hrest.out _).mono ?_
      rintro e W1' ⟨rfl, hb1⟩
      go_wp2_with fail
      have hA1 := hA0.call hb1
      have bT_1 := boxed_below bT_0 bT_0.lt hb1
      refine hK.out _ _ hA1 ?_
      clear hK K
      try simp only [Act.put, List.setIfInBounds_toArray, List.set_cons_zero, List.set_cons_succ]
      refine step1 0 (by kernel_rfl) rfl (fun K hK => ?_)
      have cT_ := bT_1.cell
      go_simp
      refine hK.out _ _ hA1 ?_
      clear hK K
      try simp only [Act.put, List.setIfInBounds_toArray, List.set_cons_zero, List.set_cons_succ]
      refine step1 6 (by kernel_rfl) rfl (fun K hK => ?_)
      go_simp
      refine (Hwith.out _).mono ?_
      rintro e W3 ⟨rfl, rfl⟩
      go_wp2_with fail
      refine hK.out _ _ hA1 ?_
      clear hK K
      try simp only [Act.put, List.setIfInBounds_toArray, List.set_cons_zero, List.set_cons_succ]
      have cT_9 := bT_1.cell
      have fT_9 := bT_1.frozen
      refine step1 7 (by kernel_rfl) rfl (fun K hK => ?_)
      go_simp
      refine hK.out _ _ (hA1.set _) ?_
      clear hK K
      try simp only [Act.put, List.setIfInBounds_toArray, List.set_cons_zero, List.set_cons_succ]
      refine stop1 (by kernel_rfl) ?_
      gi_wp2
      exact ⟨(hA1.set _).others bT1, (hA1.set _).kb (by omega) (by omega) hsW, ⟨⟨(hA1.set _).box bR1 (by omega), (hA1.set _).box bM1 (by omega)⟩, by rw [HS.out]; exact (bT_1.set _)⟩, hB1.trans ((hA1.set _).below (by omega) hsW)⟩
  case done =>
    rintro D ys W hD rfl ⟨⟨_, bT1⟩, hB⟩ hK
    have cT := bT1.cell
    rw [fold_come] at cT
    gi_wp2
    refine ⟨by simp, .inl ⟨_, _, rfl, run_takeDeferred hK, ?_⟩⟩
    exact ⟨_, results_tmp rfl _ _ _, rfl, hB.trans (belowK_b (w := w) (Nat.le_refl _) W D _ _ (by omega) hK rfl rfl)⟩
  case stop =>
    rintro D c pre W _ _ h _
    exact h.elim
end Go.Proofs.YtecjhkpldcmlaaaDoor

namespace Go.Proofs.YtecjhkpldcmlaaaDoor
open Go.RowKit Go.Shelf
set_option linter.unusedVariables false
attribute [local go_sem] Oper.semAt_some
set_option maxRecDepth 100000 in
set_option maxHeartbeats 2000000 in
theorem sum_any (n a s : Nat) (w : World) (h1 : 1 ≤ n) (h2 : n ≤ 12) (ha : a < 2 ^ n) (hs : s < 2 ^ n) :
    Calls Tryd.prog 48 #[.agg #[.int .i64 (n:Int)], .int .i64 (a:Int), .int .i64 (s:Int)] w fun e w' => e = .returned (.int .i64 ((sumN n a s : Nat) : Int)) ∧ Below w.heap.size w w' := by
  refine (callsIn_wide (n := 9)).1 ?_
  refine callsIn_of_wp_marks Tryd.func48 rfl trivial ?_ rfl
  simp only [Tryd.ntmps48, List.size_toArray, List.length_cons, List.length_nil, Nat.reduceAdd, Nat.reduceSub, Array.replicate_succ, Array.replicate_zero, List.push_toArray, List.append_toArray, List.nil_append, List.cons_append]
  gi_wp2_with (refine ⟨trivial, ?_⟩; gi_at_call 70; refine (callsIn_wide.2 (places_any s _)).mono ?_; rintro e w' ⟨rfl, rfl⟩)
  have bR := (((Boxed.new w 43 (.int .i64 (n:Int))).alloc (.cells #[.int .i64 (a:Int)] 53)).alloc (.cells #[.int .i64 0] 53)).alloc (.cells #[.int .i64 (s:Int)] 53)
  have bM := ((Boxed.new (w.alloc (.cells #[.int .i64 (n:Int)] 43)) 53 (.int .i64 (a:Int))).alloc (.cells #[.int .i64 0] 53)).alloc (.cells #[.int .i64 (s:Int)] 53)
  have bT := (Boxed.new ((w.alloc (.cells #[.int .i64 (n:Int)] 43)).alloc (.cells #[.int .i64 (a:Int)] 53)) 53 (.int .i64 0)).alloc (.cells #[.int .i64 (s:Int)] 53)
  have bP := Boxed.new (((w.alloc (.cells #[.int .i64 (n:Int)] 43)).alloc (.cells #[.int .i64 (a:Int)] 53)).alloc (.cells #[.int .i64 0] 53)) 53 (.int .i64 (s:Int))
  simp only [World.size_alloc] at bM bT bP
  have hB0 : Below w.heap.size w ((((w.alloc (.cells #[.int .i64 (n:Int)] 43)).alloc (.cells #[.int .i64 (a:Int)] 53)).alloc (.cells #[.int .i64 0] 53)).alloc (.cells #[.int .i64 (s:Int)] 53)) :=
    ((((Below.refl _ w).alloc (Nat.le_refl _) _).alloc (by simp) _).alloc (by simp; omega) _).alloc (by simp; omega) _
  have hsz : ((((w.alloc (.cells #[.int .i64 (n:Int)] 43)).alloc (.cells #[.int .i64 (a:Int)] 53)).alloc (.cells #[.int .i64 0] 53)).alloc (.cells #[.int .i64 (s:Int)] 53)).heap.size = w.heap.size + 4 := by simp
  obtain ⟨W0, hW0⟩ : ∃ W0, ((((w.alloc (.cells #[.int .i64 (n:Int)] 43)).alloc (.cells #[.int .i64 (a:Int)] 53)).alloc (.cells #[.int .i64 0] 53)).alloc (.cells #[.int .i64 (s:Int)] 53)) = W0 := ⟨_, rfl⟩
  rw [hW0] at bR bM bT bP hB0 hsz ⊢
  clear hW0
  refine wpIn_rangeFunc_ownF rfl (by omega) (gf := 86) (lb := #[.pointer (some ⟨w.heap.size + 1 + 1 + 1, 0, none⟩)]) rfl trivial (enters_of Tryd.func86 (by kernel_rfl) rfl)
    (places_stops 8 (by omega) (w.heap.size + 1 + 1 + 1) w.heap.size n s hs h2 W0 bP) KB.trans (KB.put (by omega)) (Below.refl _ _) (fun _ => rfl)
    (fun pre W => ((Boxed W w.heap.size 43 (.int .i64 (n:Int)) ∧ Boxed W (w.heap.size + 1) 53 (.int .i64 (a:Int))) ∧ Boxed W (w.heap.size + 1 + 1) 53 (.int .i64 ((fold (sumS n a) 0 (vals pre) : Nat) : Int))) ∧ Below w.heap.size w W)
    (fun _ _ _ => False)
    (OwnFrom.and (OwnFrom.and (OwnFrom.and (Own.from (boxed_own _ _ _) _) (Own.from (boxed_own _ _ _) _)) (Own.from (boxed_own _ _ _) _)) (ownFrom_below (Nat.le_refl _) (by omega)))
    (fun _ _ _ _ _ hs _ _ => hs)
    ⟨⟨⟨bR, bM⟩, bT⟩, hB0⟩
    (fun x => { tmps := #[.agg #[.int .i64 (n:Int)], .int .i64 (a:Int), .int .i64 (s:Int), .pointer (some ⟨w.heap.size, 0, none⟩), .pointer (some ⟨w.heap.size + 1, 0, none⟩), undef, .int .i64 0, .pointer (some ⟨w.heap.size + 1 + 1, 0, none⟩), .int .i64 (x.val : Int), .int .i64 (s:Int), .func (.func 86) #[] #[.pointer (some ⟨w.heap.size + 1 + 1 + 1, 0, none⟩)], .int .i64 (x.val : Int), undef, undef, undef, undef, undef, undef, undef], defers := [] }) ?assign ?body ?done ?stop
  case assign =>
    intro l x W K hK
    gi_wp2
    exact hK
  case body =>
    rintro l pre x W ⟨⟨⟨bR1, bM1⟩, bT1⟩, hB1⟩ _
    have cR := bR1.cell
    have cM := bM1.cell
    have cT := bT1.cell
    have hx := x.isLt
    have ho := fold_lt (sumS n a) n (2 ^ n) 0 (Nat.two_pow_pos n) (sumS_lt n a) pre
    have hp := pow_le n h2
    have hsW := hB1.size
    have lR := bR1.lt
    have lT := bT1.lt
    have lM := bM1.lt
    have HS := Lib.hid (fold_snoc (sumS n a) 0 pre x)
    have hmx : Tryd.prog.follows .mixedOrders = true := by kernel_rfl
    have Hshift := Lib.hid (fun W => shift_any n a (x.val : Int) W h1 h2 (pow_mono h2 ha) (by omega) (by omega))
    have hsl := shiftN_lt n a (x.val : Int)
    have HO := or_nat (fold (sumS n a) 0 (vals pre)) (shiftN n a (x.val : Int)) (by omega) (by omega)
    gi_wp2
    have hA0 := Aside.start (w.heap.size + 1 + 1) W
    have bT_0 := (show Boxed W.drew _ _ _ from bT1)
    refine region_round (fun W2 => Aside (w.heap.size + 1 + 1) W W2) hmx (by kernel_rfl) (fun ⟨_, _, h⟩ => h) hA0 (fun _ => ?_)
    refine take1 1 (v := ?_) rfl (by kernel_rfl) (by kernel_rfl) (by kernel_rfl) (fun _ _ _ h => h) (by rfl) ?_ hA0 ?_
    rotate_left
    · intro W2 hA
      have c0 := (hA.box bR1 (by omega)).cell
      have c1 := (hA.box bM1 (by omega)).cell
      clear hA
      go_simp
      try with_reducible rfl
    try simp only [Act.put, List.setIfInBounds_toArray, List.set_cons_zero, List.set_cons_succ]
    refine take1 2 (v := ?_) rfl (by kernel_rfl) (by kernel_rfl) (by kernel_rfl) (fun _ _ _ h => h) (by rfl) ?_ hA0 ?_
    rotate_left
    · intro W2 hA
      have c0 := (hA.box bR1 (by omega)).cell
      have c1 := (hA.box bM1 (by omega)).cell
      clear hA
      go_simp
      try with_reducible rfl
    try simp only [Act.put, List.setIfInBounds_toArray, List.set_cons_zero, List.set_cons_succ]
    refine take1 3 (v := ?_) rfl (by kernel_rfl) (by kernel_rfl) (by kernel_rfl) (fun _ _ _ h => h) (by rfl) ?_ hA0 ?_
    rotate_left
    · intro W2 hA
      have c0 := (hA.box bR1 (by omega)).cell
      have c1 := (hA.box bM1 (by omega)).cell
      clear hA
      go_simp
      try with_reducible rfl
    try simp only [Act.put, List.setIfInBounds_toArray, List.set_cons_zero, List.set_cons_succ]
    refine step2 0 4 (by kernel_rfl) rfl rfl (fun K hK => ?_) (fun K hK => ?_)
    · have cT_ := bT_0.cell
      go_simp
      refine hK.out _ _ hA0 ?_
      clear hK K
      try simp only [Act.put, List.setIfInBounds_toArray, List.set_cons_zero, List.set_cons_succ]
      refine step1 4 (by kernel_rfl) rfl (fun K hK => ?_)
      go_simp
      refine (Hshift.out _).mono ?_
      rintro e W1' ⟨rfl, hb1⟩
      go_wp2_with fail
      have hA1 := hA0.call hb1
      have bT_1 := boxed_below bT_0 bT_0.lt hb1
      refine hK.out _ _ hA1 ?_
      clear hK K
      try simp only [Act.put, List.setIfInBounds_toArray, List.set_cons_zero, List.set_cons_succ]
      refine take1 5 (v := ?_) rfl (by kernel_rfl) (by kernel_rfl) (by kernel_rfl) (fun _ _ _ h => h) (by rfl) ?_ hA1 ?_
      rotate_left
      · intro W2 hA
        have c0 := (hA.box bR1 (by omega)).cell
        have c1 := (hA.box bM1 (by omega)).cell
        clear hA
        go_simp
        try with_reducible rfl
      try simp only [Act.put, List.setIfInBounds_toArray, List.set_cons_zero, List.set_cons_succ]
      have cT_9 := bT_1.cell
      have fT_9 := bT_1.frozen
      refine step1 6 (by kernel_rfl) rfl (fun K hK => ?_)
      go_simp
      refine hK.out _ _ (hA1.set _) ?_
      clear hK K
      try simp only [Act.put, List.setIfInBounds_toArray, List.set_cons_zero, List.set_cons_succ]
      refine stop1 (by kernel_rfl) ?_
      gi_wp2
      exact ⟨(hA1.set _).others bT1, (hA1.set _).kb (by omega) (by omega) hsW, ⟨⟨(hA1.set _).box bR1 (by omega), (hA1.set _).box bM1 (by omega)⟩, by rw [HS.out]; exact (bT_1.set _)⟩, hB1.trans ((hA1.set _).below (by omega) hsW)⟩
    · go_simp
      refine (Hshift.out _).mono ?_
      rintro e W1' ⟨rfl, hb1⟩
      go_wp2_with fail
      have hA1 := hA0.call hb1
      have bT_1 := boxed_below bT_0 bT_0.lt hb1
      refine hK.out _ _ hA1 ?_
      clear hK K
      try simp only [Act.put, List.setIfInBounds_toArray, List.set_cons_zero, List.set_cons_succ]
      refine step1 0 (by kernel_rfl) rfl (fun K hK => ?_)
      have cT_ := bT_1.cell
      go_simp
      refine hK.out _ _ hA1 ?_
      clear hK K
      try simp only [Act.put, List.setIfInBounds_toArray, List.set_cons_zero, List.set_cons_succ]
      refine take1 5 (v := ?_) rfl (by kernel_rfl) (by kernel_rfl) (by kernel_rfl) (fun _ _ _ h => h) (by rfl) ?_ hA1 ?_
      rotate_left
      · intro W2 hA
        have c0 := (hA.box bR1 (by omega)).cell
        have c1 := (hA.box bM1 (by omega)).cell
        clear hA
        go_simp
        try with_reducible rfl
      try simp only [Act.put, List.setIfInBounds_toArray, List.set_cons_zero, List.set_cons_succ]
      have cT_9 := bT_1.cell
      have fT_9 := bT_1.frozen
      refine step1 6 (by kernel_rfl) rfl (fun K hK => ?_)
      go_simp
      refine hK.out _ _ (hA1.set _) ?_
      clear hK K
      try simp only [Act.put, List.setIfInBounds_toArray, List.set_cons_zero, List.set_cons_succ]
      refine stop1 (by kernel_rfl) ?_
      gi_wp2
      exact ⟨(hA1.set _).others bT1, (hA1.set _).kb (by omega) (by omega) hsW, ⟨⟨(hA1.set _).box bR1 (by omega), (hA1.set _).box bM1 (by omega)⟩, by rw [HS.out]; exact (bT_1.set _)⟩, hB1.trans ((hA1.set _).below (by omega) hsW)⟩
  case done =>
    rintro D ys W hD rfl ⟨⟨_, bT1⟩, hB⟩ hK
    have cT := bT1.cell
    rw [fold_come] at cT
    gi_wp2
    refine ⟨by simp, .inl ⟨_, _, rfl, run_takeDeferred hK, ?_⟩⟩
    exact ⟨_, results_tmp rfl _ _ _, rfl, hB.trans (belowK_b (w := w) (Nat.le_refl _) W D _ _ (by omega) hK rfl rfl)⟩
  case stop =>
    rintro D c pre W _ _ h _
    exact h.elim
end Go.Proofs.YtecjhkpldcmlaaaDoor

/- Shifts, turns and sums of sets, told bit by bit. -/
namespace Go.Proofs.YtecjhkpldcmlaaaDoor
open Go.RowKit
set_option linter.unusedVariables false
theorem mapN_bit (n s : Nat) (m k : Int) (j i : Nat) : (mapN n s m k j).testBit i = true ↔ ∃ v, v < j ∧ s.testBit v = true ∧ rest n (m * (v : Int) + k) = i := by
  induction j with
  | zero => simp [mapN, overSet, upto]
  | succ j ih =>
    rw [mapN_succ]
    by_cases hb : s.testBit j = true
    · rw [if_pos hb, Nat.testBit_or, Bool.or_eq_true, ih, Nat.testBit_two_pow]
      constructor
      · rintro (⟨v, h1, h2, h3⟩ | h)
        · exact ⟨v, by omega, h2, h3⟩
        · exact ⟨j, by omega, hb, by simpa using h⟩
      · rintro ⟨v, h1, h2, h3⟩
        by_cases e : v = j
        · subst e; exact .inr (by simpa using h3)
        · exact .inl ⟨v, by omega, h2, h3⟩
    · rw [if_neg hb, ih]
      constructor
      · rintro ⟨v, h1, h2, h3⟩; exact ⟨v, by omega, h2, h3⟩
      · rintro ⟨v, h1, h2, h3⟩
        by_cases e : v = j
        · subst e; exact absurd h2 hb
        · exact ⟨v, by omega, h2, h3⟩
theorem lt_of_bits (n s : Nat) (hs : s < 2 ^ n) (i : Nat) (h : s.testBit i = true) : i < n := by
  by_cases hi : i < n
  · exact hi
  · have := Nat.testBit_lt_two_pow (Nat.lt_of_lt_of_le hs (Nat.pow_le_pow_right (n := 2) (by omega) (show n ≤ i by omega)))
    rw [this] at h; cases h
theorem rest_add (n : Nat) (v : Nat) (k : Int) (h1 : 1 ≤ n) : rest n ((v : Int) + k) = (v + rest n k) % n := by
  have h := rest_cast n ((v : Int) + k) h1
  have hk := rest_cast n k h1
  have e : (((v + rest n k) % n : Nat) : Int) = ((v : Int) + k) % (n : Int) := by
    rw [Int.natCast_emod, Int.natCast_add, hk, Int.add_emod_emod]
  omega
theorem shiftN_bit (n s : Nat) (k : Int) (h1 : 1 ≤ n) (hs : s < 2 ^ n) (i : Nat) : (shiftN n s k).testBit i = true ↔ ∃ v, v < n ∧ s.testBit v = true ∧ rest n ((v : Int) + k) = i := by
  have hr := rest_lt n k h1
  have hra := fun v : Nat => rest_add n v k h1
  generalize hrk : rest n k = r at *
  unfold shiftN shl
  rw [hrk, Nat.testBit_and, Nat.testBit_or, Nat.testBit_shiftLeft, Nat.testBit_shiftRight, Nat.testBit_two_pow_sub_one]
  simp only [Bool.and_eq_true, Bool.or_eq_true, decide_eq_true_eq]
  constructor
  · rintro ⟨⟨h2, h3⟩ | h3, h4⟩
    · refine ⟨i - r, by omega, h3, ?_⟩
      rw [hra, show i - r + r = i by omega, Nat.mod_eq_of_lt h4]
    · have hlt := lt_of_bits n s hs _ h3
      refine ⟨n - r + i, hlt, h3, ?_⟩
      rw [hra, show n - r + i + r = i + n by omega, Nat.add_mod_right, Nat.mod_eq_of_lt h4]
  · rintro ⟨v, h2, h3, h4⟩
    rw [hra] at h4
    have hi : i < n := by rw [← h4]; exact Nat.mod_lt _ (by omega)
    refine ⟨?_, hi⟩
    by_cases hv : v + r < n
    · rw [Nat.mod_eq_of_lt hv] at h4
      exact .inl ⟨by omega, by rw [← h4, Nat.add_sub_cancel]; exact h3⟩
    · rw [Nat.mod_eq_sub_mod (by omega), Nat.mod_eq_of_lt (by omega)] at h4
      exact .inr (by rw [show n - r + i = v by omega]; exact h3)
theorem map_shift (n s : Nat) (k : Int) (h1 : 1 ≤ n) (hs : s < 2 ^ n) : mapN n s 1 k n = shiftN n s k := by
  refine Nat.eq_of_testBit_eq fun i => ?_
  rw [Bool.eq_iff_iff, mapN_bit, shiftN_bit n s k h1 hs]
  simp only [Int.one_mul]
theorem turn_map (n s : Nat) (m : Int) : turnN n s m = mapN n s m 0 n := by
  unfold turnN mapN turnS
  simp only [Int.add_zero, Int.mul_comm m]
theorem shift_zero (n s : Nat) (h1 : 1 ≤ n) (hs : s < 2 ^ n) : shiftN n s 0 = s := by
  refine Nat.eq_of_testBit_eq fun i => ?_
  rw [Bool.eq_iff_iff, shiftN_bit n s 0 h1 hs]
  constructor
  · rintro ⟨v, h2, h3, h4⟩
    rw [rest_add n v 0 h1, show rest n 0 = 0 from by simp [rest], Nat.add_zero, Nat.mod_eq_of_lt h2] at h4
    rw [← h4]; exact h3
  · intro h
    have hi := lt_of_bits n s hs i h
    exact ⟨i, hi, h, by rw [rest_add n i 0 h1, show rest n 0 = 0 from by simp [rest], Nat.add_zero, Nat.mod_eq_of_lt hi]⟩
theorem sumO_bit (n a b j i : Nat) (h1 : 1 ≤ n) (ha : a < 2 ^ n) : (overSet b (sumS n a) j 0).testBit i = true ↔ ∃ v w, v < j ∧ b.testBit v = true ∧ w < n ∧ a.testBit w = true ∧ (v + w) % n = i := by
  induction j with
  | zero => simp [overSet, upto]
  | succ j ih =>
    have hstep : overSet b (sumS n a) (j + 1) 0 = if b.testBit j then overSet b (sumS n a) j 0 ||| shiftN n a j else overSet b (sumS n a) j 0 := rfl
    rw [hstep]
    by_cases hb : b.testBit j = true
    · rw [if_pos hb, Nat.testBit_or, Bool.or_eq_true, ih, shiftN_bit n a _ h1 ha]
      constructor
      · rintro (⟨v, w, h⟩ | ⟨w, h2, h3, h4⟩)
        · exact ⟨v, w, by omega, h.2⟩
        · refine ⟨j, w, by omega, hb, h2, h3, ?_⟩
          rw [rest_add n w _ h1] at h4
          by_cases hjn : rest n (j : Int) = j
          · rw [hjn] at h4; rw [Nat.add_comm]; exact h4
          · have hj : rest n (j : Int) = j % n := by
              have := rest_add n j 0 h1
              simpa [rest] using this
            rw [hj] at h4
            rw [Nat.add_comm, ← h4, Nat.add_mod_mod]
      · rintro ⟨v, w, h2, h3, h4, h5, h6⟩
        by_cases e : v = j
        · subst e
          refine .inr ⟨w, h4, h5, ?_⟩
          have hj : rest n (v : Int) = v % n := by
            have := rest_add n v 0 h1
            simpa [rest] using this
          rw [rest_add n w _ h1, hj, Nat.add_mod_mod, Nat.add_comm]
          exact h6
        · exact .inl ⟨v, w, by omega, h3, h4, h5, h6⟩
    · rw [if_neg hb, ih]
      constructor
      · rintro ⟨v, w, h⟩; exact ⟨v, w, by omega, h.2⟩
      · rintro ⟨v, w, h2, h3, h⟩
        by_cases e : v = j
        · subst e; exact absurd h3 hb
        · exact ⟨v, w, by omega, h3, h⟩
theorem sumN_bit (n a b i : Nat) (h1 : 1 ≤ n) (ha : a < 2 ^ n) : (sumN n a b).testBit i = true ↔ ∃ v w, v < n ∧ b.testBit v = true ∧ w < n ∧ a.testBit w = true ∧ (v + w) % n = i := sumO_bit n a b n i h1 ha
theorem sum_comm (n a b : Nat) (h1 : 1 ≤ n) (ha : a < 2 ^ n) (hb : b < 2 ^ n) : sumN n a b = sumN n b a := by
  refine Nat.eq_of_testBit_eq fun i => ?_
  rw [Bool.eq_iff_iff, sumN_bit n a b i h1 ha, sumN_bit n b a i h1 hb]
  constructor
  · rintro ⟨v, w, h2, h3, h4, h5, h6⟩; exact ⟨w, v, h4, h5, h2, h3, by rw [Nat.add_comm]; exact h6⟩
  · rintro ⟨v, w, h2, h3, h4, h5, h6⟩; exact ⟨w, v, h4, h5, h2, h3, by rw [Nat.add_comm]; exact h6⟩
theorem overAll {α : Type} (f : Nat → α → α) (n k : Nat) (a : α) (hk : k ≤ n) : overSet (2 ^ n - 1) f k a = upto f k a := by
  induction k with
  | zero => rfl
  | succ k ih =>
    have hb : (2 ^ n - 1).testBit k = true := by rw [Nat.testBit_two_pow_sub_one]; simp; omega
    show (if (2 ^ n - 1).testBit k then f k (overSet (2 ^ n - 1) f k a) else overSet (2 ^ n - 1) f k a) = f k (upto f k a)
    rw [if_pos hb, ih (by omega)]
end Go.Proofs.YtecjhkpldcmlaaaDoor

/- The model's functions of chapter 1. -/
namespace Go.Proofs.YtecjhkpldcmlaaaDoor
open Go.RowKit
set_option linter.unusedVariables false
theorem over_step {α : Type} (s : Nat) (f : Nat → α → α) (k : Nat) (a : α) : overSet s f (k + 1) a = if s.testBit k then f k (overSet s f k a) else overSet s f k a := rfl
theorem l1Shift_any (n s k : Nat) (w : World) (h1 : 1 ≤ n) (h2 : n ≤ 12) (hs : s < 2 ^ n) (hk : k < n) :
    Calls Tryd.prog 67 #[.int .i64 (n:Int), .int .i64 (s:Int), .int .i64 1, .int .i64 (k:Int)] w fun e w' => e = .returned (.int .i64 ((shiftN n s k : Nat) : Int)) ∧ w = w' := by
  have h := l1Map_any n s 1 (k : Int) w h1 h2 (pow_mono h2 hs) (by omega) (by omega) (by omega) (by omega)
  rw [map_shift n s k h1 hs] at h
  exact h
theorem l1Turn_any (n s : Nat) (m : Int) (w : World) (h1 : 1 ≤ n) (h2 : n ≤ 12) (hs : s < 2 ^ n) (hm1 : -1000 ≤ m) (hm2 : m ≤ 1000) :
    Calls Tryd.prog 67 #[.int .i64 (n:Int), .int .i64 (s:Int), .int .i64 m, .int .i64 0] w fun e w' => e = .returned (.int .i64 ((turnN n s m : Nat) : Int)) ∧ w = w' := by
  have h := l1Map_any n s m 0 w h1 h2 (pow_mono h2 hs) hm1 hm2 (by omega) (by omega)
  rw [← turn_map n s m] at h
  exact h
theorem l1Sum_any (n a b : Nat) (w : World) (h1 : 1 ≤ n) (h2 : n ≤ 12) (ha : a < 2 ^ n) (hb : b < 2 ^ n) :
    Calls Tryd.prog 68 #[.int .i64 (n:Int), .int .i64 (a:Int), .int .i64 (b:Int)] w fun e w' => e = .returned (.int .i64 ((sumN n b a : Nat) : Int)) ∧ w = w' := by
  have hp := pow_le n h2
  go_enter Tryd.func68, Tryd.ntmps68
  go_wp2
  go_loop [7, 8] (fun u v => ∃ j : Nat, j ≤ n ∧ u = .int .i64 ((overSet a (sumS n b) j 0 : Nat) : Int) ∧ v = .int .i64 (j : Int)) (fun _ v => n - (intOf v).toNat)
  case atStart => exact ⟨0, Nat.zero_le _, rfl, rfl⟩
  case round =>
    obtain ⟨j, hj, rfl, rfl⟩ := hrel
    by_cases hlt : j < n
    · have hbt := has_nat a j (by omega)
      have ho := overSet_lt (sumS n b) n (2 ^ n) 0 a j (Nat.two_pow_pos n) hj (sumS_lt n b)
      have hsl := shiftN_lt n b (j : Int)
      have HO := or_nat (overSet a (sumS n b) j 0) (shiftN n b (j : Int)) (by omega) (by omega)
      have HS := Lib.hid (over_step a (sumS n b) j 0)
      have HC := Lib.hid (l1Shift_any n b j w h1 h2 hb hlt)
      by_cases hbit : a.testBit j = true
      · go_wp2_with (go_at_call 67; refine HC.out.mono ?_; rintro e w' ⟨rfl, rfl⟩)
        go_round
        case rel => exact ⟨j + 1, by omega, by rw [HS.out, if_pos hbit]; rfl, by go_num⟩
        case measure => simp [intOf]; omega
      · have hbit' : a.testBit j = false := by simpa using hbit
        go_wp2
        go_round
        case rel => exact ⟨j + 1, by omega, by rw [HS.out, if_neg hbit], by go_num⟩
        case measure => simp [intOf]; omega
    · have e : j = n := by omega
      subst e
      go_wp2
      go_ret
      exact ⟨rfl, rfl⟩
end Go.Proofs.YtecjhkpldcmlaaaDoor

/- The model's functions of chapter 1 as the laws call them. -/
namespace Go.Proofs.YtecjhkpldcmlaaaDoor
open Go.RowKit
set_option linter.unusedVariables false
theorem l6In_yes (n a b : Int) (w : World) (h1 : a ≤ n) (h2 : n ≤ b) : Calls Tryd.prog 51 #[.int .i64 n, .int .i64 a, .int .i64 b] w fun e w' => e = .returned (.bool true) ∧ w = w' := by
  have h := l6In_any n a b w
  rw [show decide (a ≤ n ∧ n ≤ b) = true from by simp; omega] at h
  exact h
theorem l6In_no (n a b : Int) (w : World) (hk : ¬ (a ≤ n ∧ n ≤ b)) : Calls Tryd.prog 51 #[.int .i64 n, .int .i64 a, .int .i64 b] w fun e w' => e = .returned (.bool false) ∧ w = w' := by
  have h := l6In_any n a b w
  rw [show decide (a ≤ n ∧ n ≤ b) = false from by simpa using hk] at h
  exact h
theorem l1ShiftK_any (n s : Nat) (k : Int) (w : World) (h1 : 1 ≤ n) (h2 : n ≤ 12) (hs : s < 2 ^ n) (hk1 : -1000 ≤ k) (hk2 : k ≤ 1000) :
    Calls Tryd.prog 67 #[.int .i64 (n:Int), .int .i64 (s:Int), .int .i64 1, .int .i64 k] w fun e w' => e = .returned (.int .i64 ((shiftN n s k : Nat) : Int)) ∧ w = w' := by
  have h := l1Map_any n s 1 k w h1 h2 (pow_mono h2 hs) (by omega) (by omega) hk1 hk2
  rw [map_shift n s k h1 hs] at h
  exact h
end Go.Proofs.YtecjhkpldcmlaaaDoor

namespace Go.Proofs.YtecjhkpldcmlaaaDoor
open Go.RowKit Go.Shelf
set_option linter.unusedVariables false
attribute [local go_sem] Oper.semAt_some
end Go.Proofs.YtecjhkpldcmlaaaDoor

namespace Go.Proofs.YtecjhkpldcmlaaaDoor
open Go.RowKit Go.Shelf
set_option linter.unusedVariables false
attribute [local go_sem] Oper.semAt_some
end Go.Proofs.YtecjhkpldcmlaaaDoor

namespace Go.Proofs.YtecjhkpldcmlaaaDoor
open Go.RowKit Go.Shelf
set_option linter.unusedVariables false
attribute [local go_sem] Oper.semAt_some
end Go.Proofs.YtecjhkpldcmlaaaDoor

/- The functions of chapter 1 as others call them. -/
namespace Go.Proofs.YtecjhkpldcmlaaaDoor
open Go.RowKit
set_option linter.unusedVariables false
theorem moveIn_yes (k : Int) (w : World) (hk1 : -100 ≤ k) (hk2 : k ≤ 100) : Calls Tryd.prog 41 #[.int .i64 k] w fun e w' => e = .returned (.bool true) ∧ w = w' := by
  have h := moveIn_any k w
  rw [show decide (-100 ≤ k ∧ k ≤ 100) = true from by simp; omega] at h
  exact h
theorem moveIn_no (k : Int) (w : World) (hk : ¬ (-100 ≤ k ∧ k ≤ 100)) : Calls Tryd.prog 41 #[.int .i64 k] w fun e w' => e = .returned (.bool false) ∧ w = w' := by
  have h := moveIn_any k w
  rw [show decide (-100 ≤ k ∧ k ≤ 100) = false from by simpa using hk] at h
  exact h
theorem nil_no (n : Int) (w : World) (h : ¬ (1 ≤ n ∧ n ≤ 12)) :
    Calls Tryd.prog 40 #[.int .i64 n, .slice none 0 0] w fun e w' => e = .returned (.tuple #[.agg #[.int .i64 0], .bool false]) ∧ Below w.heap.size w w' := ringOf_out n _ w h
theorem implTurn_yes (n s : Nat) (k : Int) (w : World) (h1 : 1 ≤ n) (h2 : n ≤ 12) (hs : s < 2 ^ n) (hk1 : -100 ≤ k) (hk2 : k ≤ 100) :
    Calls Tryd.prog 19 #[.int .i64 (n:Int), .int .i64 (s:Int), .int .i64 k] w fun e w' => e = .returned (.tuple #[.int .i64 ((turnN n s k : Nat) : Int), .bool true]) ∧ Below w.heap.size w w' := by
  have HO := Lib.hid (of1_yes n s w h1 h2 hs)
  have HM := Lib.hid (fun W => moveIn_yes k W hk1 hk2)
  have HS := Lib.hid (fun W => turn_any n s k W h1 h2 hs (by omega) (by omega))
  go_enter Tryd.func19, Tryd.ntmps19
  go_wp2_with fail
  refine HO.out.mono ?_
  rintro e w1 ⟨rfl, hb1⟩
  go_wp2_with (first | (go_at_call 41; refine (HM.out _).mono ?_; rintro e w2 ⟨rfl, rfl⟩) | (go_at_call 42; refine (HS.out _).mono ?_; rintro e w2 ⟨rfl, hb2⟩))
  go_ret2
  exact ⟨rfl, by
    have := hb1.size
    first
    | exact hb1
    | exact hb1.alloc (by omega) _
    | exact (hb1.alloc (by omega) _).trans (hb2.mono (by simp; omega))⟩
theorem implTurn_no (n s k : Int) (w : World) (h : NotIn n s) :
    Calls Tryd.prog 19 #[.int .i64 n, .int .i64 s, .int .i64 k] w fun e w' => e = .returned (.tuple #[.int .i64 0, .bool false]) ∧ Below w.heap.size w w' := by
  have HO := Lib.hid (of1_no n s w h)
  clear h
  go_enter Tryd.func19, Tryd.ntmps19
  go_wp2_with fail
  refine HO.out.mono ?_
  rintro e w1 ⟨rfl, hb1⟩
  go_wp2
  go_ret2
  exact ⟨rfl, by
    have := hb1.size
    first
    | exact hb1
    | exact hb1.alloc (by omega) _
    | exact (hb1.alloc (by omega) _).trans (hb2.mono (by simp; omega))⟩
theorem implTurn_move (n s : Nat) (k : Int) (w : World) (h1 : 1 ≤ n) (h2 : n ≤ 12) (hs : s < 2 ^ n) (hk : ¬ (-100 ≤ k ∧ k ≤ 100)) :
    Calls Tryd.prog 19 #[.int .i64 (n:Int), .int .i64 (s:Int), .int .i64 k] w fun e w' => e = .returned (.tuple #[.int .i64 0, .bool false]) ∧ Below w.heap.size w w' := by
  have HO := Lib.hid (of1_yes n s w h1 h2 hs)
  have HM := Lib.hid (fun W => moveIn_no k W hk)
  clear hk
  go_enter Tryd.func19, Tryd.ntmps19
  go_wp2_with fail
  refine HO.out.mono ?_
  rintro e w1 ⟨rfl, hb1⟩
  go_wp2_with (go_at_call 41; refine (HM.out _).mono ?_; rintro e w2 ⟨rfl, rfl⟩)
  go_ret2
  exact ⟨rfl, by
    have := hb1.size
    first
    | exact hb1
    | exact hb1.alloc (by omega) _
    | exact (hb1.alloc (by omega) _).trans (hb2.mono (by simp; omega))⟩
theorem implSum_yes (n a b : Nat) (w : World) (h1 : 1 ≤ n) (h2 : n ≤ 12) (ha : a < 2 ^ n) (hb : b < 2 ^ n) :
    Calls Tryd.prog 23 #[.int .i64 (n:Int), .int .i64 (a:Int), .int .i64 (b:Int)] w fun e w' => e = .returned (.tuple #[.int .i64 ((sumN n a b : Nat) : Int), .bool true]) ∧ Below w.heap.size w w' := by
  have HO := Lib.hid (of2_yes n a b w h1 h2 ha hb)
  have HS := Lib.hid (fun W => sum_any n a b W h1 h2 ha hb)
  go_enter Tryd.func23, Tryd.ntmps23
  go_wp2_with fail
  refine HO.out.mono ?_
  rintro e w1 ⟨rfl, hb1⟩
  go_wp2_with ((go_at_call 48; refine (HS.out _).mono ?_; rintro e w2 ⟨rfl, hb2⟩))
  go_ret2
  exact ⟨rfl, by
    have := hb1.size
    first
    | exact hb1
    | exact hb1.alloc (by omega) _
    | exact (hb1.alloc (by omega) _).trans (hb2.mono (by simp; omega))⟩
theorem implSum_no (n a b : Int) (w : World) (h : NotIn n a ∨ NotIn n b) :
    Calls Tryd.prog 23 #[.int .i64 n, .int .i64 a, .int .i64 b] w fun e w' => e = .returned (.tuple #[.int .i64 0, .bool false]) ∧ Below w.heap.size w w' := by
  have HO := Lib.hid (of2_no n a b w h)
  clear h
  go_enter Tryd.func23, Tryd.ntmps23
  go_wp2_with fail
  refine HO.out.mono ?_
  rintro e w1 ⟨rfl, hb1⟩
  go_wp2
  go_ret2
  exact ⟨rfl, by
    have := hb1.size
    first
    | exact hb1
    | exact hb1.alloc (by omega) _
    | exact (hb1.alloc (by omega) _).trans (hb2.mono (by simp; omega))⟩
end Go.Proofs.YtecjhkpldcmlaaaDoor

namespace Go.Proofs.YtecjhkpldcmlaaaDoor
open Go.RowKit Go.WideShapes Go.ChangeShapes
set_option linter.unusedVariables false
section
variable {H : Type} {enc : TypeId × Value → H} {P : Program}
theorem post_below {f : Func} {s : ChangeSpec} {apart fresh handsOn again : Bool} {W W' : World} {args : Array Value} {v : Value} {ds gs : List (DataW H)} {before pa pv : List MemPlace}
    (hW : DataW.Whole enc P f.params.toList s.vars apart W args.toList ds gs before)
    (hres : ∀ (b : Nat) (sp : Nat → Bool) (hd : Bool), DataW.TrodAll enc P W' b sp hd f.resultTypes.toList (v.resultList f.resultTypes.size) (s.fn H (ds ++ gs)).results [])
    (hargs : ∀ sp : Nat → Bool, (∀ p ∈ before, sp p.block = true) → DataW.TrodAll enc P W' 0 sp true f.params.toList args.toList (s.fn H (ds ++ gs)).args pa)
    (hvars : ∀ sp : Nat → Bool, (∀ p ∈ before, sp p.block = true) → DataW.TrodVars enc P W' sp s.vars (s.fn H (ds ++ gs)).vars pv)
    (hps : before = pa ++ pv) (hb : Below W.heap.size W W')
    (hok : ∀ (j : Nat) (t : TypeId) (r : Value), f.resultTypes[j]? = some t → (v.resultList f.resultTypes.size)[j]? = some r → Value.okWide P W' .any 0 t r) :
    s.post enc P f apart fresh handsOn again W args v W' := by
  have hlt : ∀ p ∈ before, p.block < W.heap.size := fun p hp => hW.lt p hp
  have hold : ∀ p ∈ before, (fun b => decide (b < W.heap.size)) p.block = true := fun p hp => by simpa using hlt p hp
  refine ⟨ds, gs, before, [], pa, pv, hW, hres _ _ _, hargs _ hold, hvars _ hold, World.keptBut_mono (fun p hp => ⟨hp, ?_⟩) (hb.frame (· ∈ before)), fun _ => ?_⟩
  · rw [hps, List.mem_append] at hp
    exact Or.inr hp
  · obtain ⟨_, _, _, _, _, hz, hn⟩ := hW
    refine ⟨hok, _, _, ([] ++ pa) ++ pv, ⟨[] ++ pa, pv, trodAll_append (hargs _ (fun _ _ => rfl)) (hres _ _ _), hvars _ (fun _ _ => rfl), rfl, ?_, ?_⟩, ?_⟩
    · intro b off hp
      have hin : MemPlace.cell b off ∈ before := by rw [hps]; simpa using hp
      rw [hb.frozen (hlt _ hin)]
      exact hz b off hin
    · intro ha
      have := hn ha
      rw [hps] at this
      simpa using this
    · intro p hp _
      rw [hps]
      simpa using hp
end
theorem wf_range8 {a : Int} (h : (Lit.int .u8 a).wf = true) : 0 ≤ a ∧ a ≤ 255 := by
  have h' : decide (IntKind.u8.min ≤ a ∧ a ≤ IntKind.u8.max) = true := by simpa [Lit.wf] using h
  have h2 := of_decide_eq_true h'
  have e1 : IntKind.u8.min = 0 := by decide
  have e2 : IntKind.u8.max = 255 := by decide
  omega
end Go.Proofs.YtecjhkpldcmlaaaDoor

/- How many places sets have. -/
namespace Go.Proofs.YtecjhkpldcmlaaaDoor
open Go.RowKit
set_option linter.unusedVariables false
def popF : Nat → Nat → Nat
  | 0, _ => 0
  | f + 1, s => s % 2 + popF f (s / 2)
theorem popF_zero (f : Nat) : popF f 0 = 0 := by
  induction f with
  | zero => rfl
  | succ f ih => simp [popF, ih]
theorem popF_more (f s d : Nat) (h : s < 2 ^ f) : popF (f + d) s = popF f s := by
  induction f generalizing s with
  | zero =>
    have : s = 0 := by simpa using h
    subst this
    rw [popF_zero, popF_zero]
  | succ f ih =>
    rw [show f + 1 + d = (f + d) + 1 by omega]
    show s % 2 + popF (f + d) (s / 2) = s % 2 + popF f (s / 2)
    rw [ih _ (by rw [Nat.pow_succ] at h; omega)]
theorem popF_split (f r x y : Nat) (hy : y < 2 ^ r) : popF (r + f) (2 ^ r * x + y) = popF r y + popF f x := by
  induction r generalizing y with
  | zero =>
    have : y = 0 := by simpa using hy
    subst this
    simp [popF]
  | succ r ih =>
    rw [show r + 1 + f = (r + f) + 1 by omega]
    have hp : 2 ^ (r + 1) * x = 2 * (2 ^ r * x) := by rw [Nat.pow_succ]; rw [Nat.mul_comm (2 ^ r) 2, Nat.mul_assoc]
    have hy2 : y / 2 < 2 ^ r := by rw [Nat.pow_succ] at hy; omega
    show (2 ^ (r + 1) * x + y) % 2 + popF (r + f) ((2 ^ (r + 1) * x + y) / 2) = y % 2 + popF r (y / 2) + popF f x
    rw [hp, show (2 * (2 ^ r * x) + y) % 2 = y % 2 by omega, show (2 * (2 ^ r * x) + y) / 2 = 2 ^ r * x + y / 2 by omega, ih _ hy2]
    omega
theorem bit_zero (s : Nat) : s % 2 = if s.testBit 0 then 1 else 0 := by
  rw [Nat.testBit_zero]
  rcases Nat.mod_two_eq_zero_or_one s with h | h <;> simp [h]
theorem popF_mono (f x y : Nat) (h : ∀ i, x.testBit i = true → y.testBit i = true) : popF f x ≤ popF f y := by
  induction f generalizing x y with
  | zero => exact Nat.le_refl _
  | succ f ih =>
    have h1 : x % 2 ≤ y % 2 := by
      rw [bit_zero, bit_zero]
      have := h 0
      by_cases hx : x.testBit 0 = true
      · rw [if_pos hx, if_pos (this hx)]; exact Nat.le_refl _
      · rw [if_neg hx]; exact Nat.zero_le _
    have h2 := ih (x / 2) (y / 2) (fun i hi => by
      rw [Nat.testBit_div_two] at hi ⊢
      exact h _ hi)
    show x % 2 + popF f (x / 2) ≤ y % 2 + popF f (y / 2)
    omega
theorem popF_or (f x y : Nat) : popF f (x ||| y) ≤ popF f x + popF f y := by
  induction f generalizing x y with
  | zero => simp [popF]
  | succ f ih =>
    have h1 : (x ||| y) % 2 ≤ x % 2 + y % 2 := by
      rw [bit_zero, bit_zero x, bit_zero y, Nat.testBit_or]
      cases x.testBit 0 <;> cases y.testBit 0 <;> simp
    have h2 : (x ||| y) / 2 = x / 2 ||| y / 2 := Nat.eq_of_testBit_eq fun i => by
      rw [Nat.testBit_div_two, Nat.testBit_or, Nat.testBit_or, Nat.testBit_div_two, Nat.testBit_div_two]
    have h3 := ih (x / 2) (y / 2)
    show (x ||| y) % 2 + popF f ((x ||| y) / 2) ≤ x % 2 + popF f (x / 2) + (y % 2 + popF f (y / 2))
    rw [h2]
    omega
/-- How many places below j a set has. -/
def cntB (b : Nat) : Nat → Nat
  | 0 => 0
  | j + 1 => cntB b j + if b.testBit j then 1 else 0
theorem cntB_low (b f : Nat) : cntB b (f + 1) = (b % 2) + cntB (b / 2) f := by
  induction f with
  | zero =>
    show 0 + (if b.testBit 0 then 1 else 0) = b % 2 + 0
    rw [bit_zero b]; omega
  | succ f ih =>
    have e : cntB b (f + 1 + 1) = cntB b (f + 1) + if b.testBit (f + 1) then 1 else 0 := rfl
    have e' : cntB (b / 2) (f + 1) = cntB (b / 2) f + if (b / 2).testBit f then 1 else 0 := rfl
    rw [e, ih, e', Nat.testBit_div_two]
    omega
theorem popF_cnt (f b : Nat) : popF f b = cntB b f := by
  induction f generalizing b with
  | zero => rfl
  | succ f ih => rw [cntB_low, ← ih]; rfl
/-- The number of places. -/
def sizeN (s : Nat) : Nat := popF 40 s
theorem sizeN_of (n s : Nat) (h2 : n ≤ 12) (hs : s < 2 ^ n) : sizeN s = popF n s := by
  have := popF_more n s (40 - n) hs
  rw [show n + (40 - n) = 40 by omega] at this
  exact this
theorem shift_split (n s r : Nat) (hr : r ≤ n) (hs : s < 2 ^ n) : (shl s r ||| s >>> (n - r)) &&& (2 ^ n - 1) = 2 ^ r * (s % 2 ^ (n - r)) + s / 2 ^ (n - r) := by
  have hhi : s / 2 ^ (n - r) < 2 ^ r := by
    rw [Nat.div_lt_iff_lt_mul (Nat.two_pow_pos _), ← Nat.pow_add, show r + (n - r) = n by omega]
    exact hs
  refine Nat.eq_of_testBit_eq fun i => ?_
  rw [Nat.testBit_two_pow_mul_add _ hhi, Nat.testBit_and, Nat.testBit_or, Nat.testBit_two_pow_sub_one, Nat.testBit_shiftRight, Nat.testBit_mod_two_pow, Nat.testBit_div_two_pow]
  unfold shl
  rw [Nat.testBit_shiftLeft]
  by_cases h1 : i < r
  · rw [if_pos h1]
    have h2 : ¬ r ≤ i := by omega
    have h3 : i < n := by omega
    simp [h2, h3, Nat.add_comm]
  · rw [if_neg h1]
    have h2 : r ≤ i := by omega
    by_cases h3 : i < n
    · have h4 : i - r < n - r := by omega
      have h5 : s.testBit (n - r + i) = false := Nat.testBit_lt_two_pow (Nat.lt_of_lt_of_le hs (Nat.pow_le_pow_right (by omega) (by omega)))
      simp [h2, h3, h4, h5]
    · have h4 : ¬ i - r < n - r := by omega
      simp [h3, h4]
theorem size_shift (n s : Nat) (k : Int) (h1 : 1 ≤ n) (h2 : n ≤ 12) (hs : s < 2 ^ n) : sizeN (shiftN n s k) = sizeN s := by
  have hr := rest_lt n k h1
  rw [sizeN_of n _ h2 (shiftN_lt n s k), sizeN_of n s h2 hs]
  unfold shiftN
  generalize rest n k = r at hr
  rw [shift_split n s r (by omega) hs]
  have hhi : s / 2 ^ (n - r) < 2 ^ r := by
    rw [Nat.div_lt_iff_lt_mul (Nat.two_pow_pos _), ← Nat.pow_add, show r + (n - r) = n by omega]
    exact hs
  have hlo : s % 2 ^ (n - r) < 2 ^ (n - r) := Nat.mod_lt _ (Nat.two_pow_pos _)
  have a := popF_split (n - r) r (s % 2 ^ (n - r)) (s / 2 ^ (n - r)) hhi
  have b := popF_split r (n - r) (s / 2 ^ (n - r)) (s % 2 ^ (n - r)) hlo
  rw [show r + (n - r) = n by omega] at a
  rw [show n - r + r = n by omega, Nat.div_add_mod] at b
  omega
theorem size_sum_le (n a b : Nat) (h1 : 1 ≤ n) (h2 : n ≤ 12) (ha : a < 2 ^ n) (hb : b < 2 ^ n) : sizeN (sumN n a b) ≤ sizeN a * sizeN b := by
  have h : ∀ j, sizeN (overSet b (sumS n a) j 0) ≤ sizeN a * cntB b j := by
    intro j
    induction j with
    | zero => simp [overSet, upto, sizeN, popF_zero, cntB]
    | succ j ih =>
      have e : overSet b (sumS n a) (j + 1) 0 = if b.testBit j then overSet b (sumS n a) j 0 ||| shiftN n a j else overSet b (sumS n a) j 0 := rfl
      have e' : cntB b (j + 1) = cntB b j + if b.testBit j then 1 else 0 := rfl
      rw [e, e']
      split
      · have := popF_or 40 (overSet b (sumS n a) j 0) (shiftN n a j)
        have hs := size_shift n a j h1 h2 ha
        unfold sizeN at *
        rw [Nat.mul_add]
        omega
      · simpa using ih
  have := h n
  rw [← popF_cnt, ← sizeN_of n b h2 hb] at this
  exact this
theorem size_sum_ge (n a b : Nat) (h1 : 1 ≤ n) (h2 : n ≤ 12) (ha : a < 2 ^ n) (hb : b < 2 ^ n) (hne : b ≠ 0) : sizeN a ≤ sizeN (sumN n a b) := by
  obtain ⟨v, hv⟩ : ∃ v, b.testBit v = true := by
    refine Classical.byContradiction fun h => hne (Nat.eq_of_testBit_eq fun i => ?_)
    rw [Nat.zero_testBit]
    cases hb : b.testBit i
    · rfl
    · exact absurd ⟨i, hb⟩ h
  have hvn := lt_of_bits n b hb v hv
  rw [← size_shift n a v h1 h2 ha]
  refine popF_mono 40 _ _ fun i hi => ?_
  rw [shiftN_bit n a _ h1 ha] at hi
  obtain ⟨w, hw, hw2, hw3⟩ := hi
  rw [sumN_bit n a b i h1 ha]
  refine ⟨v, w, hvn, hv, hw, hw2, ?_⟩
  have hj : rest n (v : Int) = v % n := by
    have := rest_add n v 0 h1
    simpa [rest] using this
  rw [rest_add n w _ h1, hj, Nat.add_mod_mod, Nat.add_comm] at hw3
  exact hw3
theorem size_pos (s : Nat) (hs : s < 2 ^ 40) (h : s ≠ 0) : 1 ≤ sizeN s := by
  refine Classical.byContradiction fun hn => h ?_
  have h0 : sizeN s = 0 := by omega
  unfold sizeN at h0
  have : ∀ f x, x < 2 ^ f → popF f x = 0 → x = 0 := by
    intro f
    induction f with
    | zero => intro x hx _; simpa using hx
    | succ f ih =>
      intro x hx hp
      have h1 : x % 2 + popF f (x / 2) = 0 := hp
      have := ih (x / 2) (by rw [Nat.pow_succ] at hx; omega) (by omega)
      omega
  exact this 40 s hs h0
end Go.Proofs.YtecjhkpldcmlaaaDoor

/- Cauchy and Davenport: sums on rings of prime size have many places. -/
namespace Go.Proofs.YtecjhkpldcmlaaaDoor
open Go.RowKit
set_option linter.unusedVariables false
theorem popF_both (f x y : Nat) : popF f (x ||| y) + popF f (x &&& y) = popF f x + popF f y := by
  induction f generalizing x y with
  | zero => simp [popF]
  | succ f ih =>
    have h1 : (x ||| y) % 2 + (x &&& y) % 2 = x % 2 + y % 2 := by
      rw [bit_zero, bit_zero (x &&& y), bit_zero x, bit_zero y, Nat.testBit_or, Nat.testBit_and]
      cases x.testBit 0 <;> cases y.testBit 0 <;> simp
    have h2 : (x ||| y) / 2 = x / 2 ||| y / 2 := Nat.eq_of_testBit_eq fun i => by
      rw [Nat.testBit_div_two, Nat.testBit_or, Nat.testBit_or, Nat.testBit_div_two, Nat.testBit_div_two]
    have h3 : (x &&& y) / 2 = x / 2 &&& y / 2 := Nat.eq_of_testBit_eq fun i => by
      rw [Nat.testBit_div_two, Nat.testBit_and, Nat.testBit_and, Nat.testBit_div_two, Nat.testBit_div_two]
    have h4 := ih (x / 2) (y / 2)
    show (x ||| y) % 2 + popF f ((x ||| y) / 2) + ((x &&& y) % 2 + popF f ((x &&& y) / 2)) = x % 2 + popF f (x / 2) + (y % 2 + popF f (y / 2))
    rw [h2, h3]
    omega
theorem popF_same (f x y : Nat) (hx : x < 2 ^ f) (hy : y < 2 ^ f) (h : ∀ i, x.testBit i = true → y.testBit i = true) (he : popF f y ≤ popF f x) : x = y := by
  induction f generalizing x y with
  | zero => simp at hx hy; omega
  | succ f ih =>
    have hs : ∀ i, (x / 2).testBit i = true → (y / 2).testBit i = true := fun i hi => by
      rw [Nat.testBit_div_two] at hi ⊢
      exact h _ hi
    have h1 : x % 2 ≤ y % 2 := by
      rw [bit_zero, bit_zero]
      have := h 0
      by_cases hx : x.testBit 0 = true
      · rw [if_pos hx, if_pos (this hx)]; exact Nat.le_refl _
      · rw [if_neg hx]; exact Nat.zero_le _
    have h2 := popF_mono f (x / 2) (y / 2) hs
    have he' : y % 2 + popF f (y / 2) ≤ x % 2 + popF f (x / 2) := he
    have := ih (x / 2) (y / 2) (by rw [Nat.pow_succ] at hx; omega) (by rw [Nat.pow_succ] at hy; omega) hs (by omega)
    omega
theorem shift_mem (n s : Nat) (k : Int) (h1 : 1 ≤ n) (hs : s < 2 ^ n) (i : Nat) (hi : i < n) : (shiftN n s k).testBit i = s.testBit (rest n ((i : Int) - k)) := by
  rw [Bool.eq_iff_iff, shiftN_bit n s k h1 hs]
  have key : ∀ v : Nat, v < n → (rest n ((v : Int) + k) = i ↔ rest n ((i : Int) - k) = v) := by
    intro v hv
    have e1 := rest_cast n ((v : Int) + k) h1
    have e2 := rest_cast n ((i : Int) - k) h1
    constructor
    · intro h
      rw [h] at e1
      have : ((i : Int) - k) % (n : Int) = (v : Int) := by
        rw [e1, Int.sub_emod, Int.emod_emod, ← Int.sub_emod, Int.add_sub_cancel]
        exact Int.emod_eq_of_lt (by omega) (by omega)
      omega
    · intro h
      rw [h] at e2
      have : ((v : Int) + k) % (n : Int) = (i : Int) := by
        rw [e2, Int.emod_add_emod, Int.sub_add_cancel]
        exact Int.emod_eq_of_lt (by omega) (by omega)
      omega
  constructor
  · rintro ⟨v, hv, h2, h3⟩
    rw [(key v hv).1 h3]; exact h2
  · intro h
    exact ⟨_, rest_lt n _ h1, h, (key _ (rest_lt n _ h1)).2 rfl⟩
theorem rest_congr' (n : Nat) (a b : Int) (h : a % (n : Int) = b % (n : Int)) : rest n a = rest n b := by unfold rest; rw [h]
theorem rest_rest (n : Nat) (a b : Int) (h1 : 1 ≤ n) : rest n (((rest n a : Nat) : Int) + b) = rest n (a + b) := by
  refine rest_congr' n _ _ ?_
  rw [rest_cast n a h1, Int.emod_add_emod]
theorem rest_both (n : Nat) (a b : Int) (h1 : 1 ≤ n) : rest n (((rest n a : Nat) : Int) + ((rest n b : Nat) : Int)) = rest n (a + b) := by
  rw [rest_rest n a _ h1, Int.add_comm, rest_rest n b _ h1, Int.add_comm]
def Prim (n : Nat) : Prop := ∀ e : Nat, e < n → 2 ≤ e → n % e ≠ 0
def primB (n : Nat) : Bool := (List.range n).all fun e => decide (e < 2) || n % e != 0
def reachB (n : Nat) : Bool := (List.range n).all fun d => d == 0 || (List.range n).all fun v => (List.range n).all fun i => (List.range n).any fun k => (v + k * d) % n == i
theorem reach_all : ((List.range 13).all fun n => !primB n || reachB n) = true := by decide +kernel
theorem reach (n : Nat) (hn : n < 13) (hP : Prim n) (d : Nat) (hd : d < n) (hd0 : 0 < d) (v : Nat) (hv : v < n) (i : Nat) (hi : i < n) : ∃ k : Nat, k < n ∧ (v + k * d) % n = i := by
  have h := List.all_eq_true.1 reach_all n (by simpa using hn)
  have hp : primB n = true := List.all_eq_true.2 fun e he => by
    have he' : e < n := by simpa using he
    by_cases h2 : e < 2
    · simp [h2]
    · have := hP e he' (by omega)
      simp [this]
  rw [hp] at h
  have h3 := List.all_eq_true.1 (show reachB n = true from by simpa using h) d (by simpa using hd)
  have h4 : ((List.range n).all fun v => (List.range n).all fun i => (List.range n).any fun k => (v + k * d) % n == i) = true := by
    have : (d == 0) = false := by simp; omega
    rw [this] at h3
    simpa using h3
  have h5 := List.all_eq_true.1 h4 v (by simpa using hv)
  have h6 := List.all_eq_true.1 h5 i (by simpa using hi)
  obtain ⟨k, hk, e⟩ := List.any_eq_true.1 h6
  exact ⟨k, by simpa using hk, eq_of_beq e⟩
theorem some_bit (s : Nat) (h : s ≠ 0) : ∃ v, s.testBit v = true := by
  refine Classical.byContradiction fun hn => h (Nat.eq_of_testBit_eq fun i => ?_)
  rw [Nat.zero_testBit]
  cases hb : s.testBit i
  · rfl
  · exact absurd ⟨i, hb⟩ hn
theorem bit_ne {s v : Nat} (h : s.testBit v = true) : s ≠ 0 := fun e => by
  rw [e, Nat.zero_testBit] at h; cases h
theorem size_le (n s : Nat) (h2 : n ≤ 12) (hs : s < 2 ^ n) : sizeN s ≤ n := by
  rw [sizeN_of n s h2 hs]
  have : ∀ f x, popF f x ≤ f := by
    intro f
    induction f with
    | zero => exact fun _ => Nat.le_refl _
    | succ f ih =>
      intro x
      have a := ih (x / 2)
      have b : x % 2 < 2 := Nat.mod_lt _ (by omega)
      show x % 2 + popF f (x / 2) ≤ f + 1
      omega
  exact this n s
theorem full_of_closed (n a d : Nat) (h2 : n ≤ 12) (hP : Prim n) (ha : a < 2 ^ n) (hne : a ≠ 0) (hd : d < n) (hd0 : 0 < d) (hc : ∀ v, v < n → a.testBit v = true → a.testBit ((v + d) % n) = true) : sizeN a = n := by
  obtain ⟨v, hv⟩ := some_bit a hne
  have hvn := lt_of_bits n a ha v hv
  have step : ∀ k, a.testBit ((v + k * d) % n) = true := by
    intro k
    induction k with
    | zero => rw [Nat.zero_mul, Nat.add_zero, Nat.mod_eq_of_lt hvn]; exact hv
    | succ k ih =>
      have h := hc _ (Nat.mod_lt _ (by omega)) ih
      rw [Nat.mod_add_mod] at h
      rw [Nat.succ_mul, ← Nat.add_assoc]
      exact h
  have all : ∀ i, i < n → a.testBit i = true := by
    intro i hi
    obtain ⟨k, _, e⟩ := reach n (by omega) hP d hd hd0 v hvn i hi
    rw [← e]; exact step k
  rw [sizeN_of n a h2 ha, popF_cnt]
  have : ∀ j, j ≤ n → cntB a j = j := by
    intro j
    induction j with
    | zero => intro _; rfl
    | succ j ih =>
      intro hj
      show cntB a j + (if a.testBit j then 1 else 0) = j + 1
      rw [all j (by omega), ih (by omega)]
      rfl
  exact this n (Nat.le_refl n)
theorem one_size : ∀ b : Nat, b < 12 → sizeN (2 ^ b) = 1 := by decide +kernel
theorem sum_mem (n a b i : Nat) (h1 : 1 ≤ n) (ha : a < 2 ^ n) (hb : b < 2 ^ n) (v w : Nat) (hv : b.testBit v = true) (hw : a.testBit w = true) (e : rest n ((v : Int) + (w : Int)) = i) : (sumN n a b).testBit i = true := by
  rw [sumN_bit n a b i h1 ha]
  refine ⟨v, w, lt_of_bits n b hb v hv, hv, lt_of_bits n a ha w hw, hw, ?_⟩
  rw [← e]
  have hj : rest n (w : Int) = w % n := by
    have := rest_add n w 0 h1
    simpa [rest] using this
  rw [rest_add n v _ h1, hj, Nat.add_mod_mod]
theorem rest_self (n v : Nat) (hv : v < n) : rest n (v : Int) = v := by
  unfold rest
  rw [Int.emod_eq_of_lt (by omega) (by omega)]
  exact Int.toNat_natCast v
set_option maxHeartbeats 1000000 in
theorem davenport (n : Nat) (h1 : 1 ≤ n) (h2 : n ≤ 12) (hP : Prim n) : ∀ m a b : Nat, a < 2 ^ n → b < 2 ^ n → a ≠ 0 → b ≠ 0 → sizeN b ≤ m → sizeN (sumN n a b) = n ∨ sizeN a + sizeN b ≤ sizeN (sumN n a b) + 1 := by
  intro m
  induction m with
  | zero =>
    intro a b ha hb hna hnb hm
    have hp := pow_le n h2
    have := size_pos b (by omega) hnb
    omega
  | succ m ih =>
    intro a b ha hb hna hnb hm
    have hp := pow_le n h2
    have hsl := size_le n (sumN n a b) h2 (sumN_lt n a b)
    by_cases hx : ∃ u v : Nat, a.testBit u = true ∧ b.testBit v = true ∧ (b &&& shiftN n a ((v : Int) - (u : Int))) ≠ b
    · obtain ⟨u, v, hu, hv, hne⟩ := hx
      have hun := lt_of_bits n a ha u hu
      have hvn := lt_of_bits n b hb v hv
      have hA' : a ||| shiftN n b ((u : Int) - (v : Int)) < 2 ^ n := Nat.or_lt_two_pow ha (shiftN_lt n b _)
      have hB' : b &&& shiftN n a ((v : Int) - (u : Int)) < 2 ^ n := Nat.lt_of_le_of_lt Nat.and_le_left hb
      have hvB : (b &&& shiftN n a ((v : Int) - (u : Int))).testBit v = true := by
        rw [Nat.testBit_and, hv, shift_mem n a _ h1 ha v hvn]
        rw [show (v : Int) - ((v : Int) - (u : Int)) = (u : Int) by omega, rest_self n u hun, hu]
        rfl
      have hA0 : a ||| shiftN n b ((u : Int) - (v : Int)) ≠ 0 := bit_ne (v := u) (by rw [Nat.testBit_or, hu]; rfl)
      have hlt : sizeN (b &&& shiftN n a ((v : Int) - (u : Int))) < sizeN b := by
        refine Classical.byContradiction fun hge => hne ?_
        exact popF_same 40 _ b (by omega) (by omega) (fun i hi => by
          rw [Nat.testBit_and] at hi
          simp at hi; exact hi.1) (by unfold sizeN at hge; omega)
      have key : shiftN n (b &&& shiftN n a ((v : Int) - (u : Int))) ((u : Int) - (v : Int)) = a &&& shiftN n b ((u : Int) - (v : Int)) := by
        refine Nat.eq_of_testBit_eq fun i => ?_
        by_cases hi : i < n
        · have hr := rest_lt n ((i : Int) - ((u : Int) - (v : Int))) h1
          rw [shift_mem n _ _ h1 hB' i hi, Nat.testBit_and, Nat.testBit_and, shift_mem n b _ h1 hb i hi, shift_mem n a _ h1 ha _ hr]
          rw [show ((rest n ((i : Int) - ((u : Int) - (v : Int))) : Nat) : Int) - ((v : Int) - (u : Int)) = ((rest n ((i : Int) - ((u : Int) - (v : Int))) : Nat) : Int) + ((u : Int) - (v : Int)) by omega]
          rw [rest_rest n _ _ h1, show (i : Int) - ((u : Int) - (v : Int)) + ((u : Int) - (v : Int)) = (i : Int) by omega, rest_self n i hi, Bool.and_comm]
        · have z1 : ∀ x, x < 2 ^ n → x.testBit i = false := fun x hx => Nat.testBit_lt_two_pow (Nat.lt_of_lt_of_le hx (Nat.pow_le_pow_right (by omega) (by omega)))
          rw [z1 _ (shiftN_lt n _ _), Nat.testBit_and, z1 a ha]
          rfl
      have s1 := size_shift n (b &&& shiftN n a ((v : Int) - (u : Int))) ((u : Int) - (v : Int)) h1 h2 hB'
      rw [key] at s1
      have s2 : sizeN (a ||| shiftN n b ((u : Int) - (v : Int))) + sizeN (a &&& shiftN n b ((u : Int) - (v : Int))) = sizeN a + sizeN (shiftN n b ((u : Int) - (v : Int))) := popF_both 40 a (shiftN n b ((u : Int) - (v : Int)))
      have s3 := size_shift n b ((u : Int) - (v : Int)) h1 h2 hb
      have hih := ih _ _ hA' hB' hA0 (bit_ne hvB) (by omega)
      have hsub : sizeN (sumN n (a ||| shiftN n b ((u : Int) - (v : Int))) (b &&& shiftN n a ((v : Int) - (u : Int)))) ≤ sizeN (sumN n a b) := by
        refine popF_mono 40 _ _ fun i hi => ?_
        rw [sumN_bit n _ _ i h1 hA'] at hi
        obtain ⟨p, q, hp', hpb, hq, hqa, e⟩ := hi
        rw [Nat.testBit_and] at hpb
        have hpb1 : b.testBit p = true := by simp at hpb; exact hpb.1
        have hpb2 : (shiftN n a ((v : Int) - (u : Int))).testBit p = true := by simp at hpb; exact hpb.2
        rw [Nat.testBit_or] at hqa
        have hpq : rest n ((p : Int) + (q : Int)) = i := by
          have hj : rest n (q : Int) = q % n := by
            have := rest_add n q 0 h1
            simpa [rest] using this
          rw [rest_add n p _ h1, hj, Nat.add_mod_mod]; exact e
        by_cases hqa1 : a.testBit q = true
        · exact sum_mem n a b i h1 ha hb p q hpb1 hqa1 hpq
        · have hqs : (shiftN n b ((u : Int) - (v : Int))).testBit q = true := by
            cases h : a.testBit q
            · rw [h] at hqa; simpa using hqa
            · exact absurd h hqa1
          rw [shift_mem n b _ h1 hb q hq] at hqs
          rw [shift_mem n a _ h1 ha p hp'] at hpb2
          refine sum_mem n a b i h1 ha hb _ _ hqs hpb2 ?_
          rw [rest_both n _ _ h1, ← hpq]
          exact rest_congr' n _ _ (by rw [show (q : Int) - ((u : Int) - (v : Int)) + ((p : Int) - ((v : Int) - (u : Int))) = (p : Int) + (q : Int) from by omega])
      clear key hlt hvB hA0 hA' hB' hp
      omega
    · have hcl : ∀ u v c : Nat, a.testBit u = true → b.testBit v = true → b.testBit c = true → a.testBit (rest n ((c : Int) - (v : Int) + (u : Int))) = true := by
        intro u v c hu hv hc
        have e : (b &&& shiftN n a ((v : Int) - (u : Int))) = b := Classical.byContradiction fun h => hx ⟨u, v, hu, hv, h⟩
        have hcn := lt_of_bits n b hb c hc
        have h3 : (b &&& shiftN n a ((v : Int) - (u : Int))).testBit c = true := by rw [e]; exact hc
        rw [Nat.testBit_and, hc, Bool.true_and, shift_mem n a _ h1 ha c hcn] at h3
        rw [show (c : Int) - (v : Int) + (u : Int) = (c : Int) - ((v : Int) - (u : Int)) by omega]
        exact h3
      have hge := size_sum_ge n a b h1 h2 ha hb hnb
      by_cases hy : ∃ v c : Nat, b.testBit v = true ∧ b.testBit c = true ∧ v ≠ c
      · obtain ⟨v, c, hv, hc, hvc⟩ := hy
        have hvn := lt_of_bits n b hb v hv
        have hcn := lt_of_bits n b hb c hc
        have hd := rest_lt n ((c : Int) - (v : Int)) h1
        have hd0 : 0 < rest n ((c : Int) - (v : Int)) := by
          refine Classical.byContradiction fun h => hvc ?_
          have h0 : rest n ((c : Int) - (v : Int)) = 0 := by omega
          have e := rest_rest n ((c : Int) - (v : Int)) (v : Int) h1
          rw [h0, show (c : Int) - (v : Int) + (v : Int) = (c : Int) by omega, rest_self n c hcn] at e
          rw [show ((0 : Nat) : Int) + (v : Int) = (v : Int) by omega, rest_self n v hvn] at e
          exact e
        have := full_of_closed n a _ h2 hP ha hna hd hd0 (fun w hw hb' => by
          have h := hcl w v c hb' hv hc
          rw [← rest_rest n _ _ h1, Int.add_comm, rest_add n w _ h1] at h
          rw [rest_self n _ hd] at h
          exact h)
        left; omega
      · obtain ⟨v, hv⟩ := some_bit b hnb
        have hvn := lt_of_bits n b hb v hv
        have hs1 : sizeN b ≤ 1 := by
          rw [← one_size v (by omega)]
          refine popF_mono 40 _ _ fun i hi => ?_
          rw [Nat.testBit_two_pow]
          have : v = i := Classical.byContradiction fun h => hy ⟨v, i, hv, hi, h⟩
          simpa using this
        right; omega
end Go.Proofs.YtecjhkpldcmlaaaDoor
