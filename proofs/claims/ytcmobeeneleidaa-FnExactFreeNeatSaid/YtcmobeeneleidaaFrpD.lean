/- Free sets, the program's side: loops over the iterator. Written by gen47.py. -/
import Derived.Test.YtcmobeeneleidaaFrpC
import Derived.Test.YtcmobeeneleidaaFarLL
import Derived.LoopTactic
namespace Go.Proofs.Ytcmobeeneleidaa
open Go.RowKit Go.Shelf
set_option linter.unusedVariables false
attribute [local go_sem] Oper.semAt_some
def topS (m x : Nat) : Nat := if Nat.blt m (sizeN x) then sizeN x else m
def lowS (m x : Nat) : Nat := if Nat.blt (sizeN x) m then sizeN x else m
def cntS (m _x : Nat) : Nat := m + 1
def neatS (l : List Int) (x : Nat) : List Int := l ++ [(x : Int)]
theorem top_run (p : Nat → Bool) (k : Nat) : runP topS p 0 k = topN p k := by
  induction k with
  | zero => rfl
  | succ k ih =>
    show (if p k then topS (runP topS p 0 k) k else runP topS p 0 k) = (if p k && Nat.blt (topN p k) (sizeN k) then sizeN k else topN p k)
    rw [ih]
    cases p k <;> simp [topS]
theorem low_run (p : Nat → Bool) (b k : Nat) : runP lowS p b k = lowN p b k := by
  induction k with
  | zero => rfl
  | succ k ih =>
    show (if p k then lowS (runP lowS p b k) k else runP lowS p b k) = (if p k && Nat.blt (sizeN k) (lowN p b k) then sizeN k else lowN p b k)
    rw [ih]
    cases p k <;> simp [lowS]
theorem cnt_run (p : Nat → Bool) (k : Nat) : runP cntS p 0 k = cntP p k := by
  induction k with
  | zero => rfl
  | succ k ih =>
    show (if p k then cntS (runP cntS p 0 k) k else runP cntS p 0 k) = (if p k then cntP p k + 1 else cntP p k)
    rw [ih]
    rfl
theorem neat_run (n s k : Nat) : runP neatS (neatN n s) [] k = neatL n s k := by
  induction k with
  | zero => rfl
  | succ k ih =>
    show (if neatN n s k then neatS (runP neatS (neatN n s) [] k) k else runP neatS (neatN n s) [] k) = (if neatN n s k then neatL n s k ++ [(k : Int)] else neatL n s k)
    rw [ih]
    rfl
theorem foldP_le (f : Nat → Nat → Nat) (N b a : Nat) (ha : a ≤ b) (hf : ∀ m x, x < N → m ≤ b → f m x ≤ b) (pre : List (Fin N)) : foldP f a (vals pre) ≤ b := by
  have h : ∀ (l : List Nat) (a : Nat), a ≤ b → (∀ v ∈ l, v < N) → l.foldl f a ≤ b := by
    intro l
    induction l with
    | nil => exact fun a ha _ => ha
    | cons v l ih => exact fun a ha hl => ih _ (hf a v (hl v (by simp)) ha) (fun u hu => hl u (by simp [hu]))
  exact h _ a ha (vals_lt pre)
theorem foldP_cnt (l : List Nat) : foldP cntS 0 l = l.length := by
  have h : ∀ (l : List Nat) (a : Nat), l.foldl cntS a = a + l.length := by
    intro l
    induction l with
    | nil => intro a; rfl
    | cons v l ih =>
      intro a
      rw [List.foldl_cons, ih]
      simp [cntS]; omega
  have := h l 0
  unfold foldP; omega
theorem foldP_neat (l : List Nat) : (foldP neatS [] l).length = l.length := by
  have h : ∀ (l : List Nat) (a : List Int), (l.foldl neatS a).length = a.length + l.length := by
    intro l
    induction l with
    | nil => intro a; rfl
    | cons v l ih =>
      intro a
      rw [List.foldl_cons, ih]
      simp [neatS]; omega
  have := h l []
  unfold foldP; simpa using this
theorem size12 {N x : Nat} (hN : N ≤ 4096) (hx : x < N) : sizeN x ≤ 12 := sizeN_le 12 x (by omega) (Nat.lt_of_lt_of_le hx hN)
theorem topS_le (N : Nat) (hN : N ≤ 4096) (pre : List (Fin N)) : foldP topS 0 (vals pre) ≤ 12 :=
  foldP_le topS N 12 0 (by omega) (fun m x hx hm => by
    have := size12 hN hx
    unfold topS; split <;> omega) pre
theorem lowS_le (N n : Nat) (hn : n ≤ 12) (hN : N ≤ 4096) (pre : List (Fin N)) : foldP lowS n (vals pre) ≤ 12 :=
  foldP_le lowS N 12 n hn (fun m x hx hm => by
    have := size12 hN hx
    unfold lowS; split <;> omega) pre
theorem topS_yes {m x : Nat} (h : m < sizeN x) : topS m x = sizeN x := by unfold topS; rw [if_pos ((blt_iff _ _).2 h)]
theorem topS_no {m x : Nat} (h : ¬ m < sizeN x) : topS m x = m := by unfold topS; rw [if_neg (fun c => h ((blt_iff _ _).1 c))]
theorem lowS_yes {m x : Nat} (h : sizeN x < m) : lowS m x = sizeN x := by unfold lowS; rw [if_pos ((blt_iff _ _).2 h)]
theorem lowS_no {m x : Nat} (h : ¬ sizeN x < m) : lowS m x = m := by unfold lowS; rw [if_neg (fun c => h ((blt_iff _ _).1 c))]
/-- An operation that defers nothing, in a round. -/
theorem wpInR_of_wp {P : Program} {l m : Nat} {o : Oper} {a : Act} {w : World} {K : Act → World → Prop} {Q : Exit → Act → World → Prop} (hd : noDefer o = true) (hl : ¬ LetsOut Q) (h : o.wp P a w K Q) : o.wpIn (Fence.wide.inRound l) m P a w K Q := by
  refine ⟨fun _ _ => trivial, ?_⟩
  rw [show Oper.semAt (Fence.wide.inRound l).round a.eval o = execOp a.eval o from Oper.semAt_some l _ o (noDefer_ne hd)]
  unfold Oper.wp at h
  generalize (execOp a.eval o).run P w = r at *
  cases r with
  | ok x w' =>
    cases x <;> first
      | exact h
      | exact False.elim h
      | exact ⟨fun hh => (by cases hh), CallsIn.inRound l (callsIn_wide.2 h)⟩
      | exact ⟨fun hh => (by cases hh), fun c cs _ => let ⟨v, w', r, s⟩ := h c cs; ⟨v, w', r, stepsIn_wide.2 s⟩⟩
  | halt x w' => cases x <;> exact h
theorem wpListIn_append_ints {l m : Nat} {ops : Array Oper} {rest : List Oper} {o : Oper} {act : Act} {Q : Exit → Act → World → Prop} (hgd : Region.wanted o (yielded ops act.tmps) = true) (hd : noDefer o = true) (hlo : ¬ LetsOut Q) (s x : Operand) (ho : o.op = .call { callee := .builtin .append, args := #[s, x], argTypes := #[27, 27] })
    (a : Value) (xs : List Int) (r : Int) (W : World) (N : Nat) (hs : act.eval s = a) (hx : act.eval x = .slice (some ⟨W.heap.size, 0, none⟩) 1 1) (hO : IsInts W N a xs) (hl : xs.length ≤ 100000) (hN : N ≤ W.heap.size)
    (h : ∀ (v' : Value) (w1 : World), IsInts w1 N v' (xs ++ [r]) → (∀ (g len c : Nat) (ys : List Int) (N' : Nat), IsInts W N' (.slice (some ⟨g, 0, none⟩) len c) ys → g < N → IsInts w1 N' (.slice (some ⟨g, 0, none⟩) len c) ys) →
      (∀ (B : Nat) (w0 : World), B ≤ N → Below B w0 W → Below B w0 w1) → wpListIn (Fence.wide.inRound l) m Try.prog ops Q rest (act.put o.dst v') w1) : wpListIn (Fence.wide.inRound l) m Try.prog ops Q (o :: rest) act (W.alloc (.cells #[.int .i64 r] 3)) :=
  BigFrame.wpListIn_want hgd fun K hK => wpInR_of_wp hd hlo (wp_append_ints s x ho a xs r W N hs hx hO hl hN fun v' w1 h1 h2 h3 => hK _ _ (h v' w1 h1 h2 h3))
theorem free_any (n s : Nat) (w : World) (h1 : 1 ≤ n) (h2 : n ≤ 12) (hs : s < 2 ^ n) :
    Calls Try.prog 34 #[.agg #[.int .i64 (n:Int), .int .i64 (s:Int)]] w fun e w' => ∃ R H, e = .returned (.func (.func 62) #[] #[.pointer (some ⟨R, 0, none⟩), .pointer (some ⟨H, 0, none⟩)]) ∧ w.heap.size ≤ R ∧ w.heap.size ≤ H ∧ Boxed w' R 36 (.int .i64 (n:Int)) ∧ Boxed w' H 56 (.func (.func 54) #[.agg #[.int .i64 (n:Int), .int .i64 (s:Int)]] #[]) ∧ Below w.heap.size w w' := by
  go_enter Try.func34, Try.ntmps34
  go_wp2_with (go_at_call 50; refine (setsThat_any _ _ _ _ _).mono ?_; rintro e w2 ⟨rfl, rfl⟩)
  go_ret
  have bR := (Boxed.new (w.alloc (.cells #[.int .i64 (n:Int), .int .i64 (s:Int)] 39)) 36 (.int .i64 (n:Int))).alloc (.cells #[.func (.func 54) #[.agg #[.int .i64 (n:Int), .int .i64 (s:Int)]] #[]] 56)
  have bH := Boxed.new ((w.alloc (.cells #[.int .i64 (n:Int), .int .i64 (s:Int)] 39)).alloc (.cells #[.int .i64 (n:Int)] 36)) 56 (.func (.func 54) #[.agg #[.int .i64 (n:Int), .int .i64 (s:Int)]] #[])
  simp only [World.size_alloc] at bR bH
  exact ⟨_, _, rfl, by omega, by omega, bR, bH, ((((Below.refl _ w).alloc (Nat.le_refl _) _).alloc (by simp) _).alloc (by simp; omega) _)⟩
set_option maxRecDepth 100000 in
set_option maxHeartbeats 4000000 in
theorem greatest_any (R H N : Nat) (p : Nat → Bool) (w : World) (hN : N ≤ 4096) (hR : R < w.heap.size) (hH : H < w.heap.size)
    (hq : SeqStopsK Fence.wide 8 Try.prog 62 #[.pointer (some ⟨R, 0, none⟩), .pointer (some ⟨H, 0, none⟩)] (fun x : Fin N => #[Value.int .i64 (x.val : Int)]) (KS R H w.heap.size) (fun ys => ys = comeP p N N) (fun _ => True) 5000 w) :
    Calls Try.prog 33 #[.func (.func 62) #[] #[.pointer (some ⟨R, 0, none⟩), .pointer (some ⟨H, 0, none⟩)]] w fun e w' => e = .returned (.int .i64 ((topN p N : Nat) : Int)) ∧ Below w.heap.size w w' := by
  refine (callsIn_wide (n := 9)).1 ?_
  refine callsIn_of_wp_marks Try.func33 rfl trivial ?_ rfl
  simp only [Try.ntmps33, List.size_toArray, List.length_cons, List.length_nil, Nat.reduceAdd, Nat.reduceSub, Array.replicate_succ, Array.replicate_zero, List.push_toArray, List.append_toArray, List.nil_append, List.cons_append]
  gi_wp2
  have bT := Boxed.new w 3 (.int .i64 0)
  have hB0 : Below w.heap.size w (w.alloc (.cells #[.int .i64 0] 3)) := (Below.refl _ w).alloc (Nat.le_refl _) _
  have hsz : (w.alloc (.cells #[.int .i64 0] 3)).heap.size = w.heap.size + 1 := by simp
  obtain ⟨W0, hW0⟩ : ∃ W0, w.alloc (.cells #[.int .i64 0] 3) = W0 := ⟨_, rfl⟩
  rw [hW0] at bT hB0 hsz ⊢
  clear hW0
  refine wpIn_rangeFunc_ownF rfl (by omega) (gf := 62) (lb := #[.pointer (some ⟨R, 0, none⟩), .pointer (some ⟨H, 0, none⟩)]) rfl trivial (enters_of Try.func62 (by kernel_rfl) rfl)
    hq KS.trans (KS.put (by omega)) hB0 (fun _ => rfl)
    (fun pre W => Boxed W w.heap.size 3 (.int .i64 ((foldP topS 0 (vals pre) : Nat) : Int)) ∧ Below w.heap.size w W)
    (fun _ _ _ => False)
    (OwnFrom.and (Own.from (boxed_own _ _ _) _) (ownFrom_below (Nat.le_refl _) (by omega)))
    (fun _ _ _ _ _ hs _ _ => hs)
    ⟨bT, hB0⟩
    (fun x => { tmps := #[.func (.func 62) #[] #[.pointer (some ⟨R, 0, none⟩), .pointer (some ⟨H, 0, none⟩)], undef, .int .i64 0, .pointer (some ⟨w.heap.size, 0, none⟩), .int .i64 (x.val : Int), .func (.func 62) #[] #[.pointer (some ⟨R, 0, none⟩), .pointer (some ⟨H, 0, none⟩)], .int .i64 (x.val : Int), undef, undef, undef, undef, undef], defers := [] }) ?assign ?body ?done ?stop
  case assign =>
    intro l x W K hK
    gi_wp2
    exact hK
  case body =>
    rintro l pre x W ⟨bT1, hB1⟩ hlen
    have hx := x.isLt
    have hm := topS_le N hN pre
    have hz := size12 hN hx
    have hsW := hB1.size
    have lT := bT1.lt
    have hmx : Try.prog.follows .mixedOrders = true := by kernel_rfl
    have HS := foldP_snoc topS 0 pre x
    have Hsize := Lib.hid (fun W => placesSize_any x.val W (by omega))
    have HY := fun h => topS_yes (m := foldP topS 0 (vals pre)) (x := x.val) h
    have HNo := fun h => topS_no (m := foldP topS 0 (vals pre)) (x := x.val) h
    generalize foldP topS 0 (vals pre) = m at *
    generalize sizeN x.val = z at *
    by_cases hlt : m < z
    · have k1 : (m : Int) < (z : Int) := by omega
      rw [HY hlt] at HS
      have HS := Lib.hid HS
      clear HY HNo hlt
      gi_wp2
      have hA0 := Aside.start (w.heap.size) W
      have bT_0 := (show Boxed W.drew _ _ _ from bT1)
      refine region_round (fun W2 => Aside (w.heap.size) W W2) hmx (by kernel_rfl) (fun ⟨_, _, h⟩ => h) hA0 (fun _ => ?_)
      refine take1 1 (v := ?_) rfl (by kernel_rfl) (by kernel_rfl) (by kernel_rfl) (fun _ _ _ h => h) (by rfl) ?_ hA0 ?_
      rotate_left
      · intro W2 hA
        clear hA
        go_simp
        try with_reducible rfl
      try simp only [Act.put, List.setIfInBounds_toArray, List.set_cons_zero, List.set_cons_succ]
      refine step2 0 2 (by kernel_rfl) rfl rfl (fun K hK => ?_) (fun K hK => ?_)
      · have cT_ := bT_0.cell
        go_simp
        refine hK.out _ _ hA0 ?_
        clear hK K
        try simp only [Act.put, List.setIfInBounds_toArray, List.set_cons_zero, List.set_cons_succ]
        refine step1 2 (by kernel_rfl) rfl (fun K hK => ?_)
        go_simp
        refine (Hsize.out _).mono ?_
        rintro e W1' ⟨rfl, hb1⟩
        go_wp2_with fail
        have hA1 := hA0.call hb1
        have bT_1 := boxed_below bT_0 bT_0.lt hb1
        refine hK.out _ _ hA1 ?_
        clear hK K
        try simp only [Act.put, List.setIfInBounds_toArray, List.set_cons_zero, List.set_cons_succ]
        refine take1 3 (v := ?_) rfl (by kernel_rfl) (by kernel_rfl) (by kernel_rfl) (fun _ _ _ h => h) (by rfl) ?_ hA1 ?_
        rotate_left
        · intro W2 hA
          clear hA
          go_simp
          try with_reducible rfl
        try simp only [Act.put, List.setIfInBounds_toArray, List.set_cons_zero, List.set_cons_succ]
        have cT_9 := bT_1.cell
        have fT_9 := bT_1.frozen
        refine step1 4 (by kernel_rfl) rfl (fun K hK => ?_)
        go_simp
        refine hK.out _ _ (hA1.set _) ?_
        clear hK K
        try simp only [Act.put, List.setIfInBounds_toArray, List.set_cons_zero, List.set_cons_succ]
        refine stop1 (by kernel_rfl) ?_
        gi_wp2
        exact ⟨(hA1.set _).others bT1, ⟨(hA1.set _).kb (by omega) (by omega) hsW, (hA1.set _).kb (by omega) (by omega) hsW⟩, by rw [HS.out]; exact (bT_1.set _), hB1.trans ((hA1.set _).below (by omega) hsW)⟩
      · go_simp
        refine (Hsize.out _).mono ?_
        rintro e W1' ⟨rfl, hb1⟩
        go_wp2_with fail
        have hA1 := hA0.call hb1
        have bT_1 := boxed_below bT_0 bT_0.lt hb1
        refine hK.out _ _ hA1 ?_
        clear hK K
        try simp only [Act.put, List.setIfInBounds_toArray, List.set_cons_zero, List.set_cons_succ]
        refine step1 0 (by kernel_rfl) rfl (fun K hK => ?_)
        have cT_ := bT_1.cell
        go_simp
        refine hK.out _ _ hA1 ?_
        clear hK K
        try simp only [Act.put, List.setIfInBounds_toArray, List.set_cons_zero, List.set_cons_succ]
        refine take1 3 (v := ?_) rfl (by kernel_rfl) (by kernel_rfl) (by kernel_rfl) (fun _ _ _ h => h) (by rfl) ?_ hA1 ?_
        rotate_left
        · intro W2 hA
          clear hA
          go_simp
          try with_reducible rfl
        try simp only [Act.put, List.setIfInBounds_toArray, List.set_cons_zero, List.set_cons_succ]
        have cT_9 := bT_1.cell
        have fT_9 := bT_1.frozen
        refine step1 4 (by kernel_rfl) rfl (fun K hK => ?_)
        go_simp
        refine hK.out _ _ (hA1.set _) ?_
        clear hK K
        try simp only [Act.put, List.setIfInBounds_toArray, List.set_cons_zero, List.set_cons_succ]
        refine stop1 (by kernel_rfl) ?_
        gi_wp2
        exact ⟨(hA1.set _).others bT1, ⟨(hA1.set _).kb (by omega) (by omega) hsW, (hA1.set _).kb (by omega) (by omega) hsW⟩, by rw [HS.out]; exact (bT_1.set _), hB1.trans ((hA1.set _).below (by omega) hsW)⟩
    · have k1 : ¬ (m : Int) < (z : Int) := by omega
      rw [HNo hlt] at HS
      have HS := Lib.hid HS
      clear HY HNo hlt
      gi_wp2
      have hA0 := Aside.start (w.heap.size) W
      have bT_0 := (show Boxed W.drew _ _ _ from bT1)
      refine region_round (fun W2 => Aside (w.heap.size) W W2) hmx (by kernel_rfl) (fun ⟨_, _, h⟩ => h) hA0 (fun _ => ?_)
      refine take1 1 (v := ?_) rfl (by kernel_rfl) (by kernel_rfl) (by kernel_rfl) (fun _ _ _ h => h) (by rfl) ?_ hA0 ?_
      rotate_left
      · intro W2 hA
        clear hA
        go_simp
        try with_reducible rfl
      try simp only [Act.put, List.setIfInBounds_toArray, List.set_cons_zero, List.set_cons_succ]
      refine step2 0 2 (by kernel_rfl) rfl rfl (fun K hK => ?_) (fun K hK => ?_)
      · have cT_ := bT_0.cell
        go_simp
        refine hK.out _ _ hA0 ?_
        clear hK K
        try simp only [Act.put, List.setIfInBounds_toArray, List.set_cons_zero, List.set_cons_succ]
        refine step1 2 (by kernel_rfl) rfl (fun K hK => ?_)
        go_simp
        refine (Hsize.out _).mono ?_
        rintro e W1' ⟨rfl, hb1⟩
        go_wp2_with fail
        have hA1 := hA0.call hb1
        have bT_1 := boxed_below bT_0 bT_0.lt hb1
        refine hK.out _ _ hA1 ?_
        clear hK K
        try simp only [Act.put, List.setIfInBounds_toArray, List.set_cons_zero, List.set_cons_succ]
        refine take1 3 (v := ?_) rfl (by kernel_rfl) (by kernel_rfl) (by kernel_rfl) (fun _ _ _ h => h) (by rfl) ?_ hA1 ?_
        rotate_left
        · intro W2 hA
          clear hA
          go_simp
          try with_reducible rfl
        try simp only [Act.put, List.setIfInBounds_toArray, List.set_cons_zero, List.set_cons_succ]
        have cT_9 := bT_1.cell
        have fT_9 := bT_1.frozen
        refine step1 4 (by kernel_rfl) rfl (fun K hK => ?_)
        go_simp
        refine hK.out _ _ (hA1.set _) ?_
        clear hK K
        try simp only [Act.put, List.setIfInBounds_toArray, List.set_cons_zero, List.set_cons_succ]
        refine stop1 (by kernel_rfl) ?_
        gi_wp2
        exact ⟨(hA1.set _).others bT1, ⟨(hA1.set _).kb (by omega) (by omega) hsW, (hA1.set _).kb (by omega) (by omega) hsW⟩, by rw [HS.out]; exact (bT_1.set _), hB1.trans ((hA1.set _).below (by omega) hsW)⟩
      · go_simp
        refine (Hsize.out _).mono ?_
        rintro e W1' ⟨rfl, hb1⟩
        go_wp2_with fail
        have hA1 := hA0.call hb1
        have bT_1 := boxed_below bT_0 bT_0.lt hb1
        refine hK.out _ _ hA1 ?_
        clear hK K
        try simp only [Act.put, List.setIfInBounds_toArray, List.set_cons_zero, List.set_cons_succ]
        refine step1 0 (by kernel_rfl) rfl (fun K hK => ?_)
        have cT_ := bT_1.cell
        go_simp
        refine hK.out _ _ hA1 ?_
        clear hK K
        try simp only [Act.put, List.setIfInBounds_toArray, List.set_cons_zero, List.set_cons_succ]
        refine take1 3 (v := ?_) rfl (by kernel_rfl) (by kernel_rfl) (by kernel_rfl) (fun _ _ _ h => h) (by rfl) ?_ hA1 ?_
        rotate_left
        · intro W2 hA
          clear hA
          go_simp
          try with_reducible rfl
        try simp only [Act.put, List.setIfInBounds_toArray, List.set_cons_zero, List.set_cons_succ]
        have cT_9 := bT_1.cell
        have fT_9 := bT_1.frozen
        refine step1 4 (by kernel_rfl) rfl (fun K hK => ?_)
        go_simp
        refine hK.out _ _ (hA1.set _) ?_
        clear hK K
        try simp only [Act.put, List.setIfInBounds_toArray, List.set_cons_zero, List.set_cons_succ]
        refine stop1 (by kernel_rfl) ?_
        gi_wp2
        exact ⟨(hA1.set _).others bT1, ⟨(hA1.set _).kb (by omega) (by omega) hsW, (hA1.set _).kb (by omega) (by omega) hsW⟩, by rw [HS.out]; exact (bT_1.set _), hB1.trans ((hA1.set _).below (by omega) hsW)⟩
  case done =>
    rintro D ys W hD rfl ⟨bT1, hB⟩ hK
    have cT := bT1.cell
    rw [foldP_come _ _ _ _ _ (Nat.le_refl _), top_run] at cT
    gi_wp2
    refine ⟨by simp, .inl ⟨_, _, rfl, run_takeDeferred hK, ?_⟩⟩
    exact ⟨_, results_tmp rfl _ _ _, rfl, hB.trans (belowK_b (w := w) (Nat.le_refl _) W D _ _ (by omega) hK rfl rfl)⟩
  case stop =>
    rintro D c pre W _ _ h _
    exact h.elim
end Go.Proofs.Ytcmobeeneleidaa
