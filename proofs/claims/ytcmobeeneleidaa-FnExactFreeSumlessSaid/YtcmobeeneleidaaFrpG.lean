/- Free sets, the program's side: neat. Written by gen48.py. -/
import Derived.Test.YtcmobeeneleidaaFrpE
namespace Go.Proofs.Ytcmobeeneleidaa
open Go.RowKit Go.Shelf
set_option linter.unusedVariables false
attribute [local go_sem] Oper.semAt_some
theorem boxInts_own {β : Type} (N B : Nat) (t : TypeId) (f : β → List Int) : Own (fun s W => ∃ v, Boxed W B t v ∧ IsInts W N v (f s)) := by
  intro s X Y row h hg hrow
  obtain ⟨v, h1, h2⟩ := h
  obtain ⟨v', a, b, c⟩ := holdsRow_own (β := β) N B t 3 1 (fun s => (f s).length) (fun s => (f s).map (Value.int .i64)) (fun _ _ => True) s X Y row ⟨v, h1, h2, trivial⟩ hg hrow
  exact ⟨v', a, b⟩
theorem snoc_shape {W : World} {N : Nat} {v : Value} {xs : List Int} {r : Int} (h : IsInts W N v (xs ++ [r])) : ∃ g cap, v = .slice (some ⟨g, 0, none⟩) (xs.length + 1) cap := by
  rcases h.shape with ⟨_, hnil⟩ | ⟨g, cap, e, _⟩
  · simp at hnil
  · exact ⟨g, cap, by rw [e, List.length_append]; rfl⟩
theorem size_own {β : Type} (B m : Nat) : OwnFrom B (fun (_ : β) W => m ≤ W.heap.size) := fun _ _ _ _ h hg _ => Nat.le_trans h hg.size
theorem ints_step {W w1 : World} {T N n₀ : Nat} {t : TypeId} {ov v' : Value} {m ys : List Int} {tmp : Obj} (hv : Boxed W T t ov) (hO : IsInts W N ov m) (hT : T < N) (hn : n₀ ≤ T) (hN : N ≤ W.heap.size) (hI : IsInts w1 N v' ys) (hg : (W.alloc tmp).grownBy w1 ov.ownBlock) :
    Boxed w1 T t ov ∧ Boxed (w1.setCell ⟨T, 0, none⟩ v') T t v' ∧ IsInts (w1.setCell ⟨T, 0, none⟩ v') N v' ys ∧ KeepsOthers W (w1.setCell ⟨T, 0, none⟩ v') ∧ (∀ Bn, Bn ≠ T → Bn < N → KB Bn n₀ W (w1.setCell ⟨T, 0, none⟩ v')) := by
  have hne : ∀ k, k < N → some k ≠ ov.ownBlock := fun k hk e => by
    have := (World.ownsRow.lt hO k e.symm).1
    omega
  have hv1 : Boxed w1 T t ov := (hv.alloc tmp).kept hg (hne T hT)
  refine ⟨hv1, hv1.set v', World.ownsRow.kept hI (grownBy_setCell' w1 T v') ?_, ?_, fun Bn h1 h2 => ⟨fun t u hb => ?_, ?_⟩⟩
  · cases hv' : v'.ownBlock with
    | none => exact .inl rfl
    | some g =>
      refine .inr fun e => ?_
      have := (World.ownsRow.lt hI g hv').1
      injection e with e
      omega
  · refine ((KeepsOthers.alloc W tmp).trans (KeepsOthers.of_grownBy hg fun j o ej hj => ?_)).trans (KeepsOthers.setCell _ _ _)
    rcases (World.ownsRow.alloc hO tmp).2 with ⟨rfl, _⟩ | ⟨g, cap, cur, rfl, _, hgb, _⟩
    · simp [Value.ownBlock] at ej
    · obtain rfl : g = j := by simpa [Value.ownBlock] using ej
      rw [hgb] at hj; cases hj; rfl
  · exact ((hb.alloc tmp).kept hg (hne Bn h2)).other h1 v'
  · refine (((Below.refl n₀ W).alloc (by omega) tmp).grown hg (by simp; omega) fun j ej => ?_).setCell (p := ⟨T, 0, none⟩) hn v'
    have := (World.ownsRow.lt hO j ej).1
    omega
theorem wp_append_grow {o : Oper} {act : Act} {K : Act → World → Prop} {Q : Exit → Act → World → Prop} (s x : Operand) (ho : o.op = .call { callee := .builtin .append, args := #[s, x], argTypes := #[27, 27] })
    (a : Value) (xs : List Int) (r : Int) (W : World) (N : Nat) (hs : act.eval s = a) (hx : act.eval x = .slice (some ⟨W.heap.size, 0, none⟩) 1 1) (hO : IsInts W N a xs) (hl : xs.length ≤ 100000) (hN : N ≤ W.heap.size)
    (h : ∀ (v' : Value) (w1 : World), IsInts w1 N v' (xs ++ [r]) → (W.alloc (.cells #[.int .i64 r] 3)).grownBy w1 a.ownBlock → K (act.put o.dst v') w1) : o.wp Try.prog act (W.alloc (.cells #[.int .i64 r] 3)) K Q := by
  obtain ⟨i0, hi, hz0, hz1, hz2⟩ := info_parts Try.infoQ
  have hO2 : (W.alloc (.cells #[.int .i64 r] 3)).ownsRow N 3 1 a xs.length (xs.map (Value.int .i64)) := World.ownsRow.alloc hO _
  have hc1 : ∀ j u, [Value.int .i64 r][j]? = some u → (W.alloc (.cells #[.int .i64 r] 3)).cell? ((⟨W.heap.size, 0, none⟩ : Addr).add j) = some u := by
    intro j u hj
    cases j with
    | zero => simp at hj; subst hj; simp [Addr.add]
    | succ j => simp at hj
  have hc2 : ∀ u ∈ [Value.int .i64 r], u.oneCell' = true := by intro u hu; simp at hu; subst hu; rfl
  have hc3 : xs.length + 1 ≤ maxLen := by unfold maxLen; omega
  have hc4 : N ≤ (W.alloc (.cells #[.int .i64 r] 3)).heap.size := by simp; omega
  refine wp_append_own (W.alloc (.cells #[.int .i64 r] 3)) s x 27 ho N 3 i0 (.int .i64 0) 1 8 Try.underlying27 hi hz0 hz1 hz2 rfl (by decide) a xs.length _ hs hO2 ⟨W.heap.size, 0, none⟩ 1 1 [.int .i64 r] hx rfl hc1 hc2 hc3 (by omega) hc4 fun v' w1 hown' hgrow hiff => ?_
  exact h v' w1 (snoc_ints hown') hgrow
theorem wpListIn_append_grow {l m : Nat} {ops : Array Oper} {rest : List Oper} {o : Oper} {act : Act} {Q : Exit → Act → World → Prop} (hgd : Region.wanted o (yielded ops act.tmps) = true) (hd : noDefer o = true) (hlo : ¬ LetsOut Q) (s x : Operand) (ho : o.op = .call { callee := .builtin .append, args := #[s, x], argTypes := #[27, 27] })
    (a : Value) (xs : List Int) (r : Int) (W : World) (N : Nat) (hs : act.eval s = a) (hx : act.eval x = .slice (some ⟨W.heap.size, 0, none⟩) 1 1) (hO : IsInts W N a xs) (hl : xs.length ≤ 100000) (hN : N ≤ W.heap.size)
    (h : ∀ (v' : Value) (w1 : World), IsInts w1 N v' (xs ++ [r]) → (W.alloc (.cells #[.int .i64 r] 3)).grownBy w1 a.ownBlock → wpListIn (Fence.wide.inRound l) m Try.prog ops Q rest (act.put o.dst v') w1) : wpListIn (Fence.wide.inRound l) m Try.prog ops Q (o :: rest) act (W.alloc (.cells #[.int .i64 r] 3)) :=
  BigFrame.wpListIn_want hgd fun K hK => wpInR_of_wp hd hlo (wp_append_grow s x ho a xs r W N hs hx hO hl hN fun v' w1 h1 h2 => hK _ _ (h v' w1 h1 h2))
set_option maxRecDepth 100000 in
set_option maxHeartbeats 4000000 in
theorem neat_any (n s : Nat) (w : World) (h1 : 1 ≤ n) (h2 : n ≤ 12) (hs : s < 2 ^ n) :
    Calls Try.prog 47 #[.agg #[.int .i64 (n:Int), .int .i64 (s:Int)]] w fun e w' => ∃ sv, e = .returned sv ∧ Below w.heap.size w w' ∧ IsInts w' w.heap.size sv (neatL n s (2 ^ n)) := by
  have hp := pow_le n h2
  refine (callsIn_wide (n := 9)).1 ?_
  refine callsIn_of_wp_marks Try.func47 rfl trivial ?_ rfl
  simp only [Try.ntmps47, List.size_toArray, List.length_cons, List.length_nil, Nat.reduceAdd, Nat.reduceSub, Array.replicate_succ, Array.replicate_zero, List.push_toArray, List.append_toArray, List.nil_append, List.cons_append]
  have hD0 := (Duo.new w 39 (.int .i64 (n:Int)) (.int .i64 (s:Int)))
  have d0 := hD0.cell0
  have d1 := hD0.cell1
  gi_wp2_with (refine ⟨trivial, ?_⟩; gi_at_call 50; refine (callsIn_wide.2 (setsThat_any _ _ _ _ _)).mono ?_; rintro e W1 ⟨rfl, rfl⟩)
  clear d0 d1 hD0
  have bT := ((Boxed.new (w.alloc (.cells #[.int .i64 (n:Int), .int .i64 (s:Int)] 39)) 27 (.slice none 0 0)).alloc (.cells #[.int .i64 (n:Int)] 36)).alloc (.cells #[.func (.func 60) #[.agg #[.int .i64 (n:Int), .int .i64 (s:Int)]] #[]] 56)
  have bR := (Boxed.new ((w.alloc (.cells #[.int .i64 (n:Int), .int .i64 (s:Int)] 39)).alloc (.cells #[.slice none 0 0] 27)) 36 (.int .i64 (n:Int))).alloc (.cells #[.func (.func 60) #[.agg #[.int .i64 (n:Int), .int .i64 (s:Int)]] #[]] 56)
  have bH := Boxed.new (((w.alloc (.cells #[.int .i64 (n:Int), .int .i64 (s:Int)] 39)).alloc (.cells #[.slice none 0 0] 27)).alloc (.cells #[.int .i64 (n:Int)] 36)) 56 (.func (.func 60) #[.agg #[.int .i64 (n:Int), .int .i64 (s:Int)]] #[])
  have hB0 : Below w.heap.size w ((((w.alloc (.cells #[.int .i64 (n:Int), .int .i64 (s:Int)] 39)).alloc (.cells #[.slice none 0 0] 27)).alloc (.cells #[.int .i64 (n:Int)] 36)).alloc (.cells #[.func (.func 60) #[.agg #[.int .i64 (n:Int), .int .i64 (s:Int)]] #[]] 56)) := ((((Below.refl _ w).alloc (Nat.le_refl _) _).alloc (by simp) _).alloc (by simp; omega) _).alloc (by simp; omega) _
  have hsz : ((((w.alloc (.cells #[.int .i64 (n:Int), .int .i64 (s:Int)] 39)).alloc (.cells #[.slice none 0 0] 27)).alloc (.cells #[.int .i64 (n:Int)] 36)).alloc (.cells #[.func (.func 60) #[.agg #[.int .i64 (n:Int), .int .i64 (s:Int)]] #[]] 56)).heap.size = w.heap.size + 4 := by simp
  simp only [World.size_alloc] at bT bR bH
  obtain ⟨W0, hW0⟩ : ∃ W0, ((((w.alloc (.cells #[.int .i64 (n:Int), .int .i64 (s:Int)] 39)).alloc (.cells #[.slice none 0 0] 27)).alloc (.cells #[.int .i64 (n:Int)] 36)).alloc (.cells #[.func (.func 60) #[.agg #[.int .i64 (n:Int), .int .i64 (s:Int)]] #[]] 56)) = W0 := ⟨_, rfl⟩
  rw [hW0] at bT bR bH hB0 hsz ⊢
  clear hW0
  refine wpIn_rangeFunc_ownF rfl (by omega) (gf := 62) (lb := #[.pointer (some ⟨w.heap.size + 1 + 1, 0, none⟩), .pointer (some ⟨w.heap.size + 1 + 1 + 1, 0, none⟩)]) rfl trivial (enters_of Try.func62 (by kernel_rfl) rfl)
    (stops_isNeat 8 (by omega) (w.heap.size + 1 + 1) (w.heap.size + 1 + 1 + 1) w.heap.size n s h1 h2 hs W0 bR bH) KS.trans (KS.put (by omega)) (Below.refl _ _) (fun _ => rfl)
    (fun pre W => ((∃ ov, Boxed W (w.heap.size + 1) 27 ov ∧ IsInts W (w.heap.size + 4) ov (foldP neatS [] (vals pre))) ∧ w.heap.size + 4 ≤ W.heap.size) ∧ Below w.heap.size w W)
    (fun _ _ _ => False)
    (OwnFrom.and (OwnFrom.and (Own.from (boxInts_own _ _ _ _) _) (size_own _ _)) (ownFrom_below (Nat.le_refl _) (by omega)))
    (fun _ _ _ _ _ hs _ _ => hs)
    ⟨⟨⟨_, bT, isInts_nil _ _⟩, by omega⟩, hB0⟩
    (fun x => { tmps := #[.agg #[.int .i64 (n:Int), .int .i64 (s:Int)], .pointer (some ⟨w.heap.size, 0, none⟩), .slice none 0 0, .pointer (some ⟨w.heap.size + 1, 0, none⟩), .int .i64 (x.val : Int), .pointer (some ⟨w.heap.size, 0, none⟩), .agg #[.int .i64 (n:Int)], .agg #[.int .i64 (n:Int), .int .i64 (s:Int)], .func (.func 60) #[.agg #[.int .i64 (n:Int), .int .i64 (s:Int)]] #[], .func (.func 62) #[] #[.pointer (some ⟨w.heap.size + 1 + 1, 0, none⟩), .pointer (some ⟨w.heap.size + 1 + 1 + 1, 0, none⟩)], .int .i64 (x.val : Int), undef, undef, undef, undef, undef], defers := [] }) ?assign ?body ?done ?stop
  case assign =>
    intro l x W K hK
    gi_wp2
    exact hK
  case body =>
    rintro l pre x W ⟨⟨⟨ov, bT1, hO⟩, hz4⟩, hB1⟩ hlen
    have hx := x.isLt
    have hsW := hB1.size
    have lT := bT1.lt
    have hz4 : w.heap.size + 4 ≤ W.heap.size := hz4
    have HS := Lib.hid (foldP_snoc neatS [] pre x)
    have hc : (foldP neatS [] (vals pre)).length < 5000 := by rw [foldP_neat]; simpa [vals] using hlen
    have cT := bT1.cell
    have HU : Hid (∀ m : List Int, neatS m x.val = m ++ [((x.val : Nat) : Int)]) := Lib.hid (fun m => rfl)
    have HB1 := Lib.hid hB1
    have HZ := Lib.hid (show w.heap.size + 4 ≤ W.heap.size from hz4)
    have HST := Lib.hid (fun v' w1 hI hg => ints_step (v' := v') (w1 := w1) (ys := foldP neatS [] (vals pre) ++ [((x.val : Nat) : Int)]) (tmp := .cells #[.int .i64 ((x.val : Nat) : Int)] 3) bT1 hO (n₀ := w.heap.size) (by omega) (by omega) hz4 hI hg)
    generalize foldP neatS [] (vals pre) = m at *
    have HO := Lib.hid hO
    have HBT := Lib.hid bT1
    clear hO hB1 bT1
    gi_wp2_with (first
      | (gi_at_builtin; go_loud (refine wpListIn_append_grow (by rfl) (by rfl) (by exact fun ⟨_, _, h⟩ => h) _ _ rfl ov m ((x.val : Nat) : Int) W (w.heap.size + 4) rfl rfl HO.out (by omega) HZ.out ?_; intro v' w1 hI1 hg1; obtain ⟨bT2, bT3, hI3, hk3, hkb⟩ := HST.out v' w1 hI1 hg1; obtain ⟨g9, cap9, rfl⟩ := snoc_shape hI1; have fT := bT2.frozen; have cT1 := bT2.cell; have HI3 := Lib.hid hI3; have HG := Lib.hid hg1; clear hI1 hI3 hg1))
      | go_in)
    exact ⟨hk3, ⟨hkb _ (by omega) (by omega), hkb _ (by omega) (by omega)⟩, ⟨⟨_, bT3, by rw [HS.out, HU.out]; exact HI3.out⟩, Nat.le_trans HZ.out hk3.size⟩, HB1.out.trans (hkb (w.heap.size + 1 + 1) (by omega) (by omega)).below⟩
  case done =>
    rintro D ys W hD rfl ⟨⟨⟨ov, bT1, hO⟩, hz4⟩, hB⟩ hK
    have cT := bT1.cell
    rw [foldP_come _ _ _ _ _ (Nat.le_refl _), neat_run] at hO
    gi_wp2
    refine ⟨by simp, .inl ⟨_, _, rfl, run_takeDeferred hK, ?_⟩⟩
    have hI9 : IsInts (W.putObj D (.deferred none)) w.heap.size ov (neatL n s (2 ^ n)) := IsInts.base (b := w.heap.size + 4) (ownsRow_putObj hO _ hK rfl) (by omega)
    exact ⟨_, results_tmp rfl _ _ _, ov, rfl, hB.trans (belowK_b (w := w) (Nat.le_refl _) W D _ _ (by omega) hK rfl rfl), hI9⟩
  case stop =>
    rintro D c pre W _ _ h _
    exact h.elim
end Go.Proofs.Ytcmobeeneleidaa
