/- Differences, the program's side: the least even set of a size. Written by gen79.py. -/
import Derived.Test.YtaomjhkodohkcaaDfpC
import Derived.Test.YtaomjhkodohkcaaGJ
namespace Go.Proofs.Ytaomjhkodohkcaa
open Go.RowKit Go.Shelf
set_option linter.unusedVariables false
attribute [local go_sem] Oper.semAt_some
/-- The last set that has come. -/
def lastV {N : Nat} (pre : List (Fin N)) : Nat := (pre.getLast?.map (·.val)).getD 0
theorem lastV_snoc {N : Nat} (pre : List (Fin N)) (x : Fin N) : lastV (pre ++ [x]) = x.val := by simp [lastV]
/-- The last set that has come is the first one of size k. -/
def hitK {N : Nat} (k : Nat) (pre : List (Fin N)) : Prop := ∃ pre0 x, pre = pre0 ++ [x] ∧ sizeN x.val = k ∧ ∀ y, y ∈ pre0 → sizeN y.val ≠ k
theorem find_last (n k : Nat) (h1 : 2 ≤ n) (hk : 1 ≤ k) (pre : List (Fin (2 ^ n))) (j : Nat) (hj : j < 2 ^ n) (hpj : evQ n j = true) (he : pre = comeP (evQ n) (2 ^ n) (j + 1)) (hh : hitK k pre) : findN n k = lastV pre ∧ findN n k ≠ 0 := by
  obtain ⟨pre0, x, rfl, hs, hn⟩ := hh
  rw [lastV_snoc]
  exact find_hit n k h1 hk pre0 x j hj hpj he hs hn
set_option maxRecDepth 100000 in
set_option maxHeartbeats 4000000 in
theorem leastEven_any (n k : Nat) (w : World) (h1 : 2 ≤ n) (h2 : n ≤ 12) (hk1 : 1 ≤ k) (hk2 : k ≤ n - 1) :
    Calls Try.prog 49 #[.agg #[.int .i64 (n:Int)], .int .i64 (k:Int)] w fun e w' => e = .returned (.tuple #[.int .i64 ((findN n k : Nat) : Int), .bool (decide (findN n k ≠ 0))]) ∧ Below w.heap.size w w' := by
  have hp := pow_le n h2
  have h1' : 1 ≤ n := by omega
  have HHit := Lib.hid (fun pre j hj hpj he hh => find_last n k h1 hk1 pre j hj hpj he hh)
  have HMiss := Lib.hid (find_miss n k h1)
  refine (callsIn_wide (n := 9)).1 ?_
  refine callsIn_of_wp_marks Try.func49 rfl trivial ?_ rfl
  simp only [Try.ntmps49, List.size_toArray, List.length_cons, List.length_nil, Nat.reduceAdd, Nat.reduceSub, Array.replicate_succ, Array.replicate_zero, List.push_toArray, List.append_toArray, List.nil_append, List.cons_append]
  have bR0 := (((Boxed.new w 40 (.int .i64 (n:Int))).alloc (.cells #[.int .i64 (k:Int)] 3)).alloc (.cells #[.int .i64 0] 45)).alloc (.cells #[.bool false] 4)
  have c0 := bR0.cell
  gi_wp2_with (refine ⟨trivial, ?_⟩; gi_at_call 56; refine (callsIn_wide.2 (setsThat_any _ _ _ _ _)).mono ?_; rintro e W1 ⟨rfl, rfl⟩)
  clear c0
  have bR := (bR0.alloc (.cells #[.int .i64 (n:Int)] 40)).alloc (.cells #[.func (.func 72) #[.agg #[.int .i64 (n:Int)]] #[]] 56)
  have bT := ((((Boxed.new (w.alloc (.cells #[.int .i64 (n:Int)] 40)) 3 (.int .i64 (k:Int))).alloc (.cells #[.int .i64 0] 45)).alloc (.cells #[.bool false] 4)).alloc (.cells #[.int .i64 (n:Int)] 40)).alloc (.cells #[.func (.func 72) #[.agg #[.int .i64 (n:Int)]] #[]] 56)
  have bX := (((Boxed.new ((w.alloc (.cells #[.int .i64 (n:Int)] 40)).alloc (.cells #[.int .i64 (k:Int)] 3)) 45 (.int .i64 0)).alloc (.cells #[.bool false] 4)).alloc (.cells #[.int .i64 (n:Int)] 40)).alloc (.cells #[.func (.func 72) #[.agg #[.int .i64 (n:Int)]] #[]] 56)
  have bY := ((Boxed.new (((w.alloc (.cells #[.int .i64 (n:Int)] 40)).alloc (.cells #[.int .i64 (k:Int)] 3)).alloc (.cells #[.int .i64 0] 45)) 4 (.bool false)).alloc (.cells #[.int .i64 (n:Int)] 40)).alloc (.cells #[.func (.func 72) #[.agg #[.int .i64 (n:Int)]] #[]] 56)
  have bS := (Boxed.new ((((w.alloc (.cells #[.int .i64 (n:Int)] 40)).alloc (.cells #[.int .i64 (k:Int)] 3)).alloc (.cells #[.int .i64 0] 45)).alloc (.cells #[.bool false] 4)) 40 (.int .i64 (n:Int))).alloc (.cells #[.func (.func 72) #[.agg #[.int .i64 (n:Int)]] #[]] 56)
  have bH := Boxed.new (((((w.alloc (.cells #[.int .i64 (n:Int)] 40)).alloc (.cells #[.int .i64 (k:Int)] 3)).alloc (.cells #[.int .i64 0] 45)).alloc (.cells #[.bool false] 4)).alloc (.cells #[.int .i64 (n:Int)] 40)) 56 (.func (.func 72) #[.agg #[.int .i64 (n:Int)]] #[])
  have hB0 : Below w.heap.size w ((((((w.alloc (.cells #[.int .i64 (n:Int)] 40)).alloc (.cells #[.int .i64 (k:Int)] 3)).alloc (.cells #[.int .i64 0] 45)).alloc (.cells #[.bool false] 4)).alloc (.cells #[.int .i64 (n:Int)] 40)).alloc (.cells #[.func (.func 72) #[.agg #[.int .i64 (n:Int)]] #[]] 56)) := ((((((Below.refl _ w).alloc (Nat.le_refl _) _).alloc (by simp) _).alloc (by simp; omega) _).alloc (by simp; omega) _).alloc (by simp; omega) _).alloc (by simp; omega) _
  have hsz : ((((((w.alloc (.cells #[.int .i64 (n:Int)] 40)).alloc (.cells #[.int .i64 (k:Int)] 3)).alloc (.cells #[.int .i64 0] 45)).alloc (.cells #[.bool false] 4)).alloc (.cells #[.int .i64 (n:Int)] 40)).alloc (.cells #[.func (.func 72) #[.agg #[.int .i64 (n:Int)]] #[]] 56)).heap.size = w.heap.size + 6 := by simp
  simp only [World.size_alloc] at bR bT bX bY bS bH
  obtain ⟨W0, hW0⟩ : ∃ W0, ((((((w.alloc (.cells #[.int .i64 (n:Int)] 40)).alloc (.cells #[.int .i64 (k:Int)] 3)).alloc (.cells #[.int .i64 0] 45)).alloc (.cells #[.bool false] 4)).alloc (.cells #[.int .i64 (n:Int)] 40)).alloc (.cells #[.func (.func 72) #[.agg #[.int .i64 (n:Int)]] #[]] 56)) = W0 := ⟨_, rfl⟩
  rw [hW0] at bR bT bX bY bS bH hB0 hsz ⊢
  clear hW0 bR0
  refine wpIn_rangeFunc_ownF rfl (by omega) (gf := 78) (lb := #[.pointer (some ⟨w.heap.size + 1 + 1 + 1 + 1, 0, none⟩), .pointer (some ⟨w.heap.size + 1 + 1 + 1 + 1 + 1, 0, none⟩)]) rfl trivial (enters_of Try.func78 (by kernel_rfl) rfl)
    (stops_isEven 8 (by omega) (w.heap.size + 1 + 1 + 1 + 1) (w.heap.size + 1 + 1 + 1 + 1 + 1) w.heap.size n h1' h2 W0 bS bH) KS.trans (KS.put (by omega)) (Below.refl _ _) (fun _ => rfl)
    (fun pre W => ((((Boxed W w.heap.size 40 (.int .i64 (n:Int)) ∧ Boxed W (w.heap.size + 1) 3 (.int .i64 (k:Int))) ∧ Boxed W (w.heap.size + 1 + 1) 45 (.int .i64 0)) ∧ Boxed W (w.heap.size + 1 + 1 + 1) 4 (.bool false)) ∧ Below w.heap.size w W) ∧ (∀ y, y ∈ pre → sizeN y.val ≠ k))
    (fun c pre W => (c = Code.ret ∧ hitK k pre) ∧ ((Boxed W (w.heap.size + 1 + 1) 45 (.int .i64 ((lastV pre : Nat) : Int)) ∧ Boxed W (w.heap.size + 1 + 1 + 1) 4 (.bool true)) ∧ Below w.heap.size w W))
    (OwnFrom.and (OwnFrom.and (OwnFrom.and (OwnFrom.and (OwnFrom.and (Own.from (boxed_own _ _ _) _) (Own.from (boxed_own _ _ _) _)) (Own.from (boxed_own _ _ _) _)) (Own.from (boxed_own _ _ _) _)) (ownFrom_below (Nat.le_refl _) (by omega))) (ownFrom_pure _ _))
    (fun c => OwnFrom.and (ownFrom_pure _ _) (OwnFrom.and (OwnFrom.and (Own.from (boxed_own _ _ (fun pre => Value.int .i64 ((lastV pre : Nat) : Int))) _) (Own.from (boxed_own _ _ _) _)) (ownFrom_below (Nat.le_refl _) (by omega))))
    ⟨⟨⟨⟨⟨bR, bT⟩, bX⟩, bY⟩, hB0⟩, fun y hy => by simp at hy⟩
    (fun x => { tmps := #[.agg #[.int .i64 (n:Int)], .int .i64 (k:Int), .pointer (some ⟨w.heap.size, 0, none⟩), .pointer (some ⟨w.heap.size + 1, 0, none⟩), .pointer (some ⟨w.heap.size + 1 + 1, 0, none⟩), .pointer (some ⟨w.heap.size + 1 + 1 + 1, 0, none⟩), .int .i64 (x.val : Int), .agg #[.int .i64 (n:Int)], .agg #[.int .i64 (n:Int)], .func (.func 72) #[.agg #[.int .i64 (n:Int)]] #[], .func (.func 78) #[] #[.pointer (some ⟨w.heap.size + 1 + 1 + 1 + 1, 0, none⟩), .pointer (some ⟨w.heap.size + 1 + 1 + 1 + 1 + 1, 0, none⟩)], .int .i64 (x.val : Int), undef, undef, undef, undef, undef], defers := [] }) ?assign ?body ?done ?stop
  case assign =>
    intro l x W K hK
    gi_wp2
    exact hK
  case body =>
    rintro l pre x W ⟨⟨⟨⟨⟨bR1, bT1⟩, bX1⟩, bY1⟩, hB1⟩, hok⟩ hlen
    have hx := x.isLt
    have hz := size12 hp hx
    have hsW := hB1.size
    have lT := bT1.lt
    have lY := bY1.lt
    have hmx : Try.prog.follows .mixedOrders = true := by kernel_rfl
    have Hsize := Lib.hid (fun W => placesSize_any x.val W (by omega))
    have HOK := Lib.hid hok
    have HYes : Hid (sizeN x.val = k → hitK k (pre ++ [x])) := Lib.hid (fun h => ⟨pre, x, rfl, h, hok⟩)
    have HNo : Hid (sizeN x.val ≠ k → ∀ y, y ∈ pre ++ [x] → sizeN y.val ≠ k) := Lib.hid (fun h y hy => by
      rcases List.mem_append.1 hy with hy | hy
      · exact hok y hy
      · rw [List.mem_singleton.1 hy]; exact h)
    have HLast := Lib.hid (lastV_snoc pre x)
    clear hok
    generalize sizeN x.val = z at *
    by_cases hzk : z = k
    · have HHy := Lib.hid (HYes.out hzk)
      have e1 : ((z : Int) == (k : Int)) = true := by rw [hzk]; simp
      clear HYes HNo hzk
      gi_wp2
      have hA0 := Aside.start (w.heap.size + 1) W
      have bT_0 := (show Boxed W.drew _ _ _ from bT1)
      refine region_round (fun W2 => Aside (w.heap.size + 1) W W2) hmx (by kernel_rfl) (fun ⟨_, _, h⟩ => h) hA0 (fun _ => ?_)
      refine take1 0 (v := ?_) rfl (by kernel_rfl) (by kernel_rfl) (by kernel_rfl) (fun _ _ _ h => h) (by rfl) ?_ hA0 ?_
      rotate_left
      · intro W2 hA
        clear hA
        go_simp
        try with_reducible rfl
      try simp only [Act.put, List.setIfInBounds_toArray, List.set_cons_zero, List.set_cons_succ]
      refine step2 1 2 (by kernel_rfl) rfl rfl (fun K hK => ?_) (fun K hK => ?_)
      · go_simp
        refine (Hsize.out _).mono ?_
        rintro e W1' ⟨rfl, hb1⟩
        go_wp2_with fail
        have hA1 := hA0.call hb1
        have bT_1 := boxed_below bT_0 bT_0.lt hb1
        refine hK.out _ _ hA1 ?_
        clear hK K
        try simp only [Act.put, List.setIfInBounds_toArray, List.set_cons_zero, List.set_cons_succ]
        refine step1 2 (by kernel_rfl) rfl (fun K hK => ?_)
        have cT_ := bT_1.cell
        go_simp
        refine hK.out _ _ hA1 ?_
        clear hK K
        try simp only [Act.put, List.setIfInBounds_toArray, List.set_cons_zero, List.set_cons_succ]
        refine take1 3 (v := ?_) rfl (by kernel_rfl) (by kernel_rfl) (by kernel_rfl) (fun _ _ _ h => h) (by rfl) ?_ hA1 ?_
        rotate_left
        · intro W2 hA
          clear hA
          go_simp
          try with_reducible rfl
        try simp only [Act.put, List.setIfInBounds_toArray, List.set_cons_zero, List.set_cons_succ]
        refine stop1 (by kernel_rfl) ?_
        have bX2 := hA1.box bX1 (by omega)
        have bY2 := hA1.box bY1 (by omega)
        have fX2 := bX2.frozen
        have cX2 := bX2.cell
        have cY2 := (bY2.other (B' := w.heap.size + 1 + 1) (by omega) (.int .i64 (x.val : Int))).cell
        have fY2 := (bY2.other (B' := w.heap.size + 1 + 1) (by omega) (.int .i64 (x.val : Int))).frozen
        have hB2 := hB1.trans (hA1.below (m := w.heap.size) (by omega) hsW)
        gi_wp2
        exact ⟨(hA1.others bT1).trans ((KeepsOthers.setCell _ _ _).trans (KeepsOthers.setCell _ _ _)), ⟨rfl, HHy.out⟩, ⟨by rw [HLast.out]; exact (bX2.set _).other (by omega) _, (bY2.other (by omega) _).set _⟩, (hB2.setCell (p := ⟨w.heap.size + 1 + 1, 0, none⟩) (by simp; omega) _).setCell (p := ⟨w.heap.size + 1 + 1 + 1, 0, none⟩) (by simp; omega) _⟩
      · have cT_ := bT_0.cell
        go_simp
        refine hK.out _ _ hA0 ?_
        clear hK K
        try simp only [Act.put, List.setIfInBounds_toArray, List.set_cons_zero, List.set_cons_succ]
        refine step1 1 (by kernel_rfl) rfl (fun K hK => ?_)
        go_simp
        refine (Hsize.out _).mono ?_
        rintro e W1' ⟨rfl, hb1⟩
        go_wp2_with fail
        have hA1 := hA0.call hb1
        have bT_1 := boxed_below bT_0 bT_0.lt hb1
        refine hK.out _ _ hA1 ?_
        clear hK K
        try simp only [Act.put, List.setIfInBounds_toArray, List.set_cons_zero, List.set_cons_succ]
        refine take1 3 (v := ?_) rfl (by kernel_rfl) (by kernel_rfl) (by kernel_rfl) (fun _ _ _ h => h) (by rfl) ?_ hA1 ?_
        rotate_left
        · intro W2 hA
          clear hA
          go_simp
          try with_reducible rfl
        try simp only [Act.put, List.setIfInBounds_toArray, List.set_cons_zero, List.set_cons_succ]
        refine stop1 (by kernel_rfl) ?_
        have bX2 := hA1.box bX1 (by omega)
        have bY2 := hA1.box bY1 (by omega)
        have fX2 := bX2.frozen
        have cX2 := bX2.cell
        have cY2 := (bY2.other (B' := w.heap.size + 1 + 1) (by omega) (.int .i64 (x.val : Int))).cell
        have fY2 := (bY2.other (B' := w.heap.size + 1 + 1) (by omega) (.int .i64 (x.val : Int))).frozen
        have hB2 := hB1.trans (hA1.below (m := w.heap.size) (by omega) hsW)
        gi_wp2
        exact ⟨(hA1.others bT1).trans ((KeepsOthers.setCell _ _ _).trans (KeepsOthers.setCell _ _ _)), ⟨rfl, HHy.out⟩, ⟨by rw [HLast.out]; exact (bX2.set _).other (by omega) _, (bY2.other (by omega) _).set _⟩, (hB2.setCell (p := ⟨w.heap.size + 1 + 1, 0, none⟩) (by simp; omega) _).setCell (p := ⟨w.heap.size + 1 + 1 + 1, 0, none⟩) (by simp; omega) _⟩
    · have HHn := Lib.hid (HNo.out hzk)
      have e1 : ((z : Int) == (k : Int)) = false := by simp; omega
      clear HYes HNo hzk
      gi_wp2
      have hA0 := Aside.start (w.heap.size + 1) W
      have bT_0 := (show Boxed W.drew _ _ _ from bT1)
      refine region_round (fun W2 => Aside (w.heap.size + 1) W W2) hmx (by kernel_rfl) (fun ⟨_, _, h⟩ => h) hA0 (fun _ => ?_)
      refine take1 0 (v := ?_) rfl (by kernel_rfl) (by kernel_rfl) (by kernel_rfl) (fun _ _ _ h => h) (by rfl) ?_ hA0 ?_
      rotate_left
      · intro W2 hA
        clear hA
        go_simp
        try with_reducible rfl
      try simp only [Act.put, List.setIfInBounds_toArray, List.set_cons_zero, List.set_cons_succ]
      refine step2 1 2 (by kernel_rfl) rfl rfl (fun K hK => ?_) (fun K hK => ?_)
      · go_simp
        refine (Hsize.out _).mono ?_
        rintro e W1' ⟨rfl, hb1⟩
        go_wp2_with fail
        have hA1 := hA0.call hb1
        have bT_1 := boxed_below bT_0 bT_0.lt hb1
        refine hK.out _ _ hA1 ?_
        clear hK K
        try simp only [Act.put, List.setIfInBounds_toArray, List.set_cons_zero, List.set_cons_succ]
        refine step1 2 (by kernel_rfl) rfl (fun K hK => ?_)
        have cT_ := bT_1.cell
        go_simp
        refine hK.out _ _ hA1 ?_
        clear hK K
        try simp only [Act.put, List.setIfInBounds_toArray, List.set_cons_zero, List.set_cons_succ]
        refine take1 3 (v := ?_) rfl (by kernel_rfl) (by kernel_rfl) (by kernel_rfl) (fun _ _ _ h => h) (by rfl) ?_ hA1 ?_
        rotate_left
        · intro W2 hA
          clear hA
          go_simp
          try with_reducible rfl
        try simp only [Act.put, List.setIfInBounds_toArray, List.set_cons_zero, List.set_cons_succ]
        refine stop1 (by kernel_rfl) ?_
        gi_wp2
        exact ⟨hA1.others bT1, ⟨hA1.kb (by omega) (by omega) hsW, hA1.kb (by omega) (by omega) hsW⟩, ⟨⟨⟨⟨hA1.box bR1 (by omega), bT_1⟩, hA1.box bX1 (by omega)⟩, hA1.box bY1 (by omega)⟩, hB1.trans (hA1.below (by omega) hsW)⟩, HHn.out⟩
      · have cT_ := bT_0.cell
        go_simp
        refine hK.out _ _ hA0 ?_
        clear hK K
        try simp only [Act.put, List.setIfInBounds_toArray, List.set_cons_zero, List.set_cons_succ]
        refine step1 1 (by kernel_rfl) rfl (fun K hK => ?_)
        go_simp
        refine (Hsize.out _).mono ?_
        rintro e W1' ⟨rfl, hb1⟩
        go_wp2_with fail
        have hA1 := hA0.call hb1
        have bT_1 := boxed_below bT_0 bT_0.lt hb1
        refine hK.out _ _ hA1 ?_
        clear hK K
        try simp only [Act.put, List.setIfInBounds_toArray, List.set_cons_zero, List.set_cons_succ]
        refine take1 3 (v := ?_) rfl (by kernel_rfl) (by kernel_rfl) (by kernel_rfl) (fun _ _ _ h => h) (by rfl) ?_ hA1 ?_
        rotate_left
        · intro W2 hA
          clear hA
          go_simp
          try with_reducible rfl
        try simp only [Act.put, List.setIfInBounds_toArray, List.set_cons_zero, List.set_cons_succ]
        refine stop1 (by kernel_rfl) ?_
        gi_wp2
        exact ⟨hA1.others bT1, ⟨hA1.kb (by omega) (by omega) hsW, hA1.kb (by omega) (by omega) hsW⟩, ⟨⟨⟨⟨hA1.box bR1 (by omega), bT_1⟩, hA1.box bX1 (by omega)⟩, hA1.box bY1 (by omega)⟩, hB1.trans (hA1.below (by omega) hsW)⟩, HHn.out⟩
  case done =>
    rintro D ys W hD rfl ⟨⟨⟨⟨⟨_, _⟩, bX1⟩, bY1⟩, hB⟩, hok⟩ hK
    have HV := Lib.hid (HMiss.out hok)
    have hsW := hB.size
    have lY := bY1.lt
    have cX := bX1.cell
    have fX := bX1.frozen
    have cY := (bY1.other (B' := w.heap.size + 1 + 1) (by omega) (.int .i64 0)).cell
    have fY := (bY1.other (B' := w.heap.size + 1 + 1) (by omega) (.int .i64 0)).frozen
    have hKs : ((W.setCell ⟨w.heap.size + 1 + 1, 0, none⟩ (.int .i64 0)).setCell ⟨w.heap.size + 1 + 1 + 1, 0, none⟩ (.bool false)).heap[D]? = some (.deferred (some [])) := (Below.heap_setCell _ ⟨w.heap.size + 1 + 1 + 1, 0, none⟩ (.bool false) D (by simp; omega)).trans ((Below.heap_setCell W ⟨w.heap.size + 1 + 1, 0, none⟩ (.int .i64 0) D (by simp; omega)).trans hK)
    clear hok
    gi_wp2
    refine ⟨by simp, .inl ⟨_, _, rfl, run_takeDeferred (hKs), ?_⟩⟩
    have c5 := (((bX1.set (.int .i64 0)).other (by omega) (.bool false)).kept (grownBy_putObj' ((W.setCell ⟨w.heap.size + 1 + 1, 0, none⟩ (.int .i64 0)).setCell ⟨w.heap.size + 1 + 1 + 1, 0, none⟩ (.bool false)) D (.deferred none)) (by intro e; cases e; omega)).cell
    have c6 := (((bY1.other (B' := w.heap.size + 1 + 1) (by omega) (.int .i64 0)).set (.bool false)).kept (grownBy_putObj' ((W.setCell ⟨w.heap.size + 1 + 1, 0, none⟩ (.int .i64 0)).setCell ⟨w.heap.size + 1 + 1 + 1, 0, none⟩ (.bool false)) D (.deferred none)) (by intro e; cases e; omega)).cell
    exact ⟨.tuple #[.int .i64 0, .bool false], by simp [results, Try.results49, go_sem, c5, c6], by rw [HV.out]; rfl, ((hB.setCell (p := ⟨w.heap.size + 1 + 1, 0, none⟩) (by simp; omega) _).setCell (p := ⟨w.heap.size + 1 + 1 + 1, 0, none⟩) (by simp; omega) _).trans (belowK_b (w := w) (Nat.le_refl _) _ D _ _ (by omega) hKs rfl rfl)⟩
  case stop =>
    rintro D c pre W hD ⟨j, hj, hpj, hpre⟩ ⟨⟨rfl, hit⟩, ⟨bX1, bY1⟩, hB⟩ hK
    obtain ⟨hv, hv2⟩ := HHit.out pre j hj hpj hpre hit
    have HV := Lib.hid hv
    have HV2 := Lib.hid (show decide (findN n k ≠ 0) = true from decide_eq_true hv2)
    have hsW := hB.size
    have lY := bY1.lt
    have cX := bX1.cell
    have cY := bY1.cell
    clear hv hv2 hit hpre
    gi_wp2
    refine ⟨by simp, .inl ⟨_, _, rfl, run_takeDeferred hK, ?_⟩⟩
    have c5 := (bX1.kept (grownBy_putObj' W D (.deferred none)) (by intro e; cases e; omega)).cell
    have c6 := (bY1.kept (grownBy_putObj' W D (.deferred none)) (by intro e; cases e; omega)).cell
    exact ⟨.tuple #[.int .i64 ((lastV pre : Nat) : Int), .bool true], by simp [results, Try.results49, go_sem, c5, c6], by rw [HV2.out, HV.out], hB.trans (belowK_b (w := w) (Nat.le_refl _) W D _ _ (by omega) hK rfl rfl)⟩
end Go.Proofs.Ytaomjhkodohkcaa
