/- Plays, the program's side: all plays of a ring. Written by gen96.py. -/
import Derived.Test.YtaklmepioeoohaaPlpC
import Derived.Test.YtaklmepioeoohaaGJ
namespace Go.Proofs.Ytaklmepioeoohaa
open Go.RowKit Go.Shelf
set_option linter.unusedVariables false
attribute [local go_sem] Oper.semAt_some
/-- The cells of a list of plays. -/
def playCells (n : Nat) (xs : List Int) : List Value := xs.flatMap fun x => [.int .i64 (n:Int), .int .i64 x]
/-- v reads as a list of plays of a ring of n, in memory from block b on. -/
def IsPlays (W : World) (b : Nat) (v : Value) (n : Nat) (xs : List Int) : Prop := W.ownsRow b 47 2 v xs.length (playCells n xs)
theorem playCells_len (n : Nat) (xs : List Int) : (playCells n xs).length = xs.length * 2 := by
  induction xs with
  | nil => rfl
  | cons x xs ih =>
    show ([Value.int .i64 (n:Int), .int .i64 x] ++ playCells n xs).length = _
    rw [List.length_append, ih, List.length_cons]
    simp; omega
theorem playCells_at (n : Nat) (xs : List Int) (i : Nat) (hi : i < xs.length) : (playCells n xs)[i * 2]? = some (.int .i64 (n:Int)) ∧ (playCells n xs)[i * 2 + 1]? = some (.int .i64 (xs.getD i 0)) := by
  induction xs generalizing i with
  | nil => exact absurd hi (Nat.not_lt_zero _)
  | cons x xs ih =>
    have e : playCells n (x :: xs) = [Value.int .i64 (n:Int), .int .i64 x] ++ playCells n xs := rfl
    rw [e]
    cases i with
    | zero => exact ⟨rfl, rfl⟩
    | succ i =>
      have hi' : i < xs.length := by simpa using hi
      obtain ⟨a, b⟩ := ih i hi'
      have e1 : (i + 1) * 2 = i * 2 + 1 + 1 := by omega
      have e2 : (i + 1) * 2 + 1 = i * 2 + 1 + 1 + 1 := by omega
      rw [e1]
      exact ⟨a, b⟩
theorem IsPlays.cells {W : World} {b g cap len n : Nat} {xs : List Int} (h : IsPlays W b (.slice (some ⟨g, 0, none⟩) len cap) n xs) {i : Nat} (hi : i < xs.length) : W.cell? ⟨g, i * 2, none⟩ = some (.int .i64 (n:Int)) ∧ W.cell? ⟨g, i * 2 + 1, none⟩ = some (.int .i64 (xs.getD i 0)) := by
  obtain ⟨a, c⟩ := playCells_at n xs i hi
  have h2 := World.ownsRow.cells h (g := g) rfl (i * 2) _ a
  have h3 := World.ownsRow.cells h (g := g) rfl (i * 2 + 1) _ c
  have hadd : ∀ j, (⟨g, 0, none⟩ : Addr).add j = ⟨g, j, none⟩ := fun j => by unfold Addr.add; split <;> simp_all
  rw [hadd] at h2 h3
  exact ⟨h2, h3⟩
theorem IsPlays.below {W W' : World} {b n : Nat} {v : Value} {xs : List Int} (h : IsPlays W b v n xs) {N : Nat} (hN : ∀ g, v.ownBlock = some g → g < N) (hb : Below N W W') : IsPlays W' b v n xs := by
  refine ⟨h.1, ?_⟩
  rcases h.2 with hn | ⟨g, cap, cur, rfl, h1, hgg, rest⟩
  · exact .inl hn
  · exact .inr ⟨g, cap, cur, rfl, h1, (hb.block g (hN g rfl)).trans hgg, rest⟩
theorem IsPlays.belowAll {W W' : World} {b n : Nat} {v : Value} {xs : List Int} (h : IsPlays W b v n xs) (hb : Below W.heap.size W W') : IsPlays W' b v n xs :=
  h.below (fun g hg => (World.ownsRow.lt h g hg).2) hb
theorem IsPlays.base {W : World} {b b' n : Nat} {v : Value} {xs : List Int} (h : IsPlays W b v n xs) (hb : b' ≤ b) : IsPlays W b' v n xs := by
  refine ⟨h.1, ?_⟩
  rcases h.2 with hn | ⟨g, cap, cur, rfl, h1, rest⟩
  · exact .inl hn
  · exact .inr ⟨g, cap, cur, rfl, by omega, rest⟩
theorem IsPlays.shape {W : World} {b n : Nat} {v : Value} {xs : List Int} (h : IsPlays W b v n xs) : (v = .slice none 0 0 ∧ xs = []) ∨ ∃ g cap, v = .slice (some ⟨g, 0, none⟩) xs.length cap ∧ b ≤ g := by
  rcases h.2 with ⟨a, c⟩ | ⟨g, cap, cur, rfl, h1, _⟩
  · exact .inl ⟨a, List.eq_nil_of_length_eq_zero c⟩
  · exact .inr ⟨g, cap, rfl, h1⟩
theorem Try.infoPlay : (Try.prog.info? 47).map (fun i => (i.zero, i.size, i.bytes)) = some (some (.agg #[.int .i64 0, .int .i64 0]), 2, 16) := by kernel_rfl
theorem snoc_plays {W : World} {b n : Nat} {v : Value} {xs : List Int} {z : Int} (h : W.ownsRow b 47 2 v (xs.length + 1) (playCells n xs ++ [.int .i64 (n:Int), .int .i64 z])) : IsPlays W b v n (xs ++ [z]) := by
  unfold IsPlays playCells at *
  rw [List.length_append, List.flatMap_append]
  exact h
theorem wp_append_play {o : Oper} {act : Act} {K : Act → World → Prop} {Q : Exit → Act → World → Prop} (s x : Operand) (ho : o.op = .call { callee := .builtin .append, args := #[s, x], argTypes := #[59, 59] })
    (a : Value) (n : Nat) (xs : List Int) (r : Int) (W : World) (N : Nat) (hs : act.eval s = a) (hx : act.eval x = .slice (some ⟨W.heap.size, 0, none⟩) 1 1) (hO : IsPlays W N a n xs) (hl : xs.length ≤ 100000) (hN : N ≤ W.heap.size)
    (h : ∀ (v' : Value) (w1 : World), IsPlays w1 N v' n (xs ++ [r]) → (W.alloc (.cells #[.int .i64 (n:Int), .int .i64 r] 47)).grownBy w1 a.ownBlock → K (act.put o.dst v') w1) : o.wp Try.prog act (W.alloc (.cells #[.int .i64 (n:Int), .int .i64 r] 47)) K Q := by
  obtain ⟨i0, hi, hz0, hz1, hz2⟩ := info_parts Try.infoPlay
  have hO2 : (W.alloc (.cells #[.int .i64 (n:Int), .int .i64 r] 47)).ownsRow N 47 2 a xs.length (playCells n xs) := World.ownsRow.alloc hO _
  have hc1 : ∀ j u, [Value.int .i64 (n:Int), .int .i64 r][j]? = some u → (W.alloc (.cells #[.int .i64 (n:Int), .int .i64 r] 47)).cell? ((⟨W.heap.size, 0, none⟩ : Addr).add j) = some u := by
    intro j u hj
    have hd := Duo.new W 47 (.int .i64 (n:Int)) (.int .i64 r)
    have hadd : ∀ j, (⟨W.heap.size, 0, none⟩ : Addr).add j = ⟨W.heap.size, j, none⟩ := fun j => by unfold Addr.add; split <;> simp_all
    rw [hadd]
    match j with
    | 0 => simp at hj; subst hj; exact hd.cell0
    | 1 => simp at hj; subst hj; exact hd.cell1
    | j + 2 => simp at hj
  have hc2 : ∀ u ∈ [Value.int .i64 (n:Int), .int .i64 r], u.oneCell' = true := by intro u hu; simp at hu; rcases hu with rfl | rfl <;> rfl
  have hc3 : xs.length + 1 ≤ maxLen := by unfold maxLen; omega
  have hc4 : N ≤ (W.alloc (.cells #[.int .i64 (n:Int), .int .i64 r] 47)).heap.size := by simp; omega
  refine wp_append_own (W.alloc (.cells #[.int .i64 (n:Int), .int .i64 r] 47)) s x 59 ho N 47 i0 (.agg #[.int .i64 0, .int .i64 0]) 2 16 Try.underlying59 hi hz0 hz1 hz2 rfl (by decide) a xs.length _ hs hO2 ⟨W.heap.size, 0, none⟩ 1 1 [.int .i64 (n:Int), .int .i64 r] hx rfl hc1 hc2 hc3 (by omega) hc4 fun v' w1 hown' hgrow hiff => ?_
  exact h v' w1 (snoc_plays hown') hgrow
theorem wpListIn_append_play {l m : Nat} {ops : Array Oper} {rest : List Oper} {o : Oper} {act : Act} {Q : Exit → Act → World → Prop} (hgd : Region.wanted o (yielded ops act.tmps) = true) (hd : noDefer o = true) (hlo : ¬ LetsOut Q) (s x : Operand) (ho : o.op = .call { callee := .builtin .append, args := #[s, x], argTypes := #[59, 59] })
    (a : Value) (n : Nat) (xs : List Int) (r : Int) (W : World) (N : Nat) (hs : act.eval s = a) (hx : act.eval x = .slice (some ⟨W.heap.size, 0, none⟩) 1 1) (hO : IsPlays W N a n xs) (hl : xs.length ≤ 100000) (hN : N ≤ W.heap.size)
    (h : ∀ (v' : Value) (w1 : World), IsPlays w1 N v' n (xs ++ [r]) → (W.alloc (.cells #[.int .i64 (n:Int), .int .i64 r] 47)).grownBy w1 a.ownBlock → wpListIn (Fence.wide.inRound l) m Try.prog ops Q rest (act.put o.dst v') w1) : wpListIn (Fence.wide.inRound l) m Try.prog ops Q (o :: rest) act (W.alloc (.cells #[.int .i64 (n:Int), .int .i64 r] 47)) :=
  BigFrame.wpListIn_want hgd fun K hK => wpInR_of_wp hd hlo (wp_append_play s x ho a n xs r W N hs hx hO hl hN fun v' w1 h1 h2 => hK _ _ (h v' w1 h1 h2))
theorem boxPlays_own {β : Type} (N B n : Nat) (t : TypeId) (f : β → List Int) : Own (fun s W => ∃ v, Boxed W B t v ∧ IsPlays W N v n (f s)) := by
  intro s X Y row h hg hrow
  obtain ⟨v, h1, h2⟩ := h
  obtain ⟨v', a, b, c⟩ := holdsRow_own (β := β) N B t 47 2 (fun s => (f s).length) (fun s => playCells n (f s)) (fun _ _ => True) s X Y row ⟨v, h1, h2, trivial⟩ hg hrow
  exact ⟨v', a, b⟩
theorem snoc_playShape {W : World} {N n : Nat} {v : Value} {xs : List Int} {r : Int} (h : IsPlays W N v n (xs ++ [r])) : ∃ g cap, v = .slice (some ⟨g, 0, none⟩) (xs.length + 1) cap := by
  rcases h.shape with ⟨_, hnil⟩ | ⟨g, cap, e, _⟩
  · simp at hnil
  · exact ⟨g, cap, by rw [e, List.length_append]; rfl⟩
theorem plays_step {W w1 : World} {T N n₀ n : Nat} {t : TypeId} {ov v' : Value} {m ys : List Int} {tmp : Obj} (hv : Boxed W T t ov) (hO : IsPlays W N ov n m) (hT : T < N) (hn : n₀ ≤ T) (hN : N ≤ W.heap.size) (hI : IsPlays w1 N v' n ys) (hg : (W.alloc tmp).grownBy w1 ov.ownBlock) :
    Boxed w1 T t ov ∧ Boxed (w1.setCell ⟨T, 0, none⟩ v') T t v' ∧ IsPlays (w1.setCell ⟨T, 0, none⟩ v') N v' n ys ∧ KeepsOthers W (w1.setCell ⟨T, 0, none⟩ v') ∧ (∀ Bn, Bn ≠ T → Bn < N → KB Bn n₀ W (w1.setCell ⟨T, 0, none⟩ v')) := by
  have hne : ∀ k, k < N → some k ≠ ov.ownBlock := fun k hk e => by
    have := (World.ownsRow.lt hO k e.symm).1
    omega
  have hv1 : Boxed w1 T t ov := (hv.alloc tmp).kept hg (hne T hT)
  refine ⟨hv1, hv1.set v', World.ownsRow.kept hI (grownBy_setCell' w1 T v') ?_, ?_, fun Bn h1 h2 => ⟨fun t u hb => ?_, ?_⟩⟩
  · cases hv' : v'.ownBlock with
    | none => exact .inl rfl
    | some g =>
      refine .inr fun e => ?_
      have := (World.ownsRow.lt hI g hv').1
      injection e with e
      omega
  · refine ((KeepsOthers.alloc W tmp).trans (KeepsOthers.of_grownBy hg fun j o ej hj => ?_)).trans (KeepsOthers.setCell _ _ _)
    rcases (World.ownsRow.alloc hO tmp).2 with ⟨rfl, _⟩ | ⟨g, cap, cur, rfl, _, hgb, _⟩
    · simp [Value.ownBlock] at ej
    · obtain rfl : g = j := by simpa [Value.ownBlock] using ej
      rw [hgb] at hj; cases hj; rfl
  · exact ((hb.alloc tmp).kept hg (hne Bn h2)).other h1 v'
  · refine (((Below.refl n₀ W).alloc (by omega) tmp).grown hg (by simp; omega) fun j ej => ?_).setCell (p := ⟨T, 0, none⟩) hn v'
    have := (World.ownsRow.lt hO j ej).1
    omega
set_option maxRecDepth 100000 in
set_option maxHeartbeats 4000000 in
theorem plays_any (n : Nat) (w : World) (h1 : 1 ≤ n) (h2 : n ≤ 12) :
    Calls Try.prog 53 #[.agg #[.int .i64 (n:Int)]] w fun e w' => ∃ sv, e = .returned sv ∧ Below w.heap.size w w' ∧ IsPlays w' w.heap.size sv n (playL n (2 ^ (n - 1))) := by
  have hp := pow_le n h2
  have hrun := plays_run n (playB n) (fun _ => rfl) (2 ^ (n - 1))
  rw [← half_pow n h1] at hrun
  have HRun := Lib.hid hrun
  clear hrun
  refine (callsIn_wide (n := 9)).1 ?_
  refine callsIn_of_wp_marks Try.func53 rfl trivial ?_ rfl
  simp only [Try.ntmps53, List.size_toArray, List.length_cons, List.length_nil, Nat.reduceAdd, Nat.reduceSub, Array.replicate_succ, Array.replicate_zero, List.push_toArray, List.append_toArray, List.nil_append, List.cons_append]
  have bR0 := Boxed.new w 42 (.int .i64 (n:Int))
  have c0 := bR0.cell
  gi_wp2_with (refine ⟨trivial, ?_⟩; gi_at_call 81; refine (callsIn_wide.2 (setsThat_any _ _ _ _ _)).mono ?_; rintro e W1 ⟨rfl, rfl⟩)
  clear c0
  have bS := ((bR0.alloc (.cells #[.slice none 0 0] 59)).alloc (.cells #[.int .i64 (n:Int)] 42)).alloc (.cells #[.func (.func 72) #[.agg #[.int .i64 (n:Int)]] #[]] 81)
  have bT := ((Boxed.new (w.alloc (.cells #[.int .i64 (n:Int)] 42)) 59 (.slice none 0 0)).alloc (.cells #[.int .i64 (n:Int)] 42)).alloc (.cells #[.func (.func 72) #[.agg #[.int .i64 (n:Int)]] #[]] 81)
  have bR := (Boxed.new ((w.alloc (.cells #[.int .i64 (n:Int)] 42)).alloc (.cells #[.slice none 0 0] 59)) 42 (.int .i64 (n:Int))).alloc (.cells #[.func (.func 72) #[.agg #[.int .i64 (n:Int)]] #[]] 81)
  have bH := Boxed.new (((w.alloc (.cells #[.int .i64 (n:Int)] 42)).alloc (.cells #[.slice none 0 0] 59)).alloc (.cells #[.int .i64 (n:Int)] 42)) 81 (.func (.func 72) #[.agg #[.int .i64 (n:Int)]] #[])
  have hB0 : Below w.heap.size w ((((w.alloc (.cells #[.int .i64 (n:Int)] 42)).alloc (.cells #[.slice none 0 0] 59)).alloc (.cells #[.int .i64 (n:Int)] 42)).alloc (.cells #[.func (.func 72) #[.agg #[.int .i64 (n:Int)]] #[]] 81)) := ((((Below.refl _ w).alloc (Nat.le_refl _) _).alloc (by simp) _).alloc (by simp; omega) _).alloc (by simp; omega) _
  have hsz : ((((w.alloc (.cells #[.int .i64 (n:Int)] 42)).alloc (.cells #[.slice none 0 0] 59)).alloc (.cells #[.int .i64 (n:Int)] 42)).alloc (.cells #[.func (.func 72) #[.agg #[.int .i64 (n:Int)]] #[]] 81)).heap.size = w.heap.size + 4 := by simp
  simp only [World.size_alloc] at bT bR bH
  obtain ⟨W0, hW0⟩ : ∃ W0, ((((w.alloc (.cells #[.int .i64 (n:Int)] 42)).alloc (.cells #[.slice none 0 0] 59)).alloc (.cells #[.int .i64 (n:Int)] 42)).alloc (.cells #[.func (.func 72) #[.agg #[.int .i64 (n:Int)]] #[]] 81)) = W0 := ⟨_, rfl⟩
  rw [hW0] at bS bT bR bH hB0 hsz ⊢
  clear hW0 bR0
  refine wpIn_rangeFunc_ownF rfl (by omega) (gf := 94) (lb := #[.pointer (some ⟨w.heap.size + 1 + 1, 0, none⟩), .pointer (some ⟨w.heap.size + 1 + 1 + 1, 0, none⟩)]) rfl trivial (enters_of Try.func94 (by kernel_rfl) rfl)
    (stops_isPlay 8 (by omega) (w.heap.size + 1 + 1) (w.heap.size + 1 + 1 + 1) w.heap.size n h1 h2 W0 bR bH) KS.trans (KS.put (by omega)) (Below.refl _ _) (fun _ => rfl)
    (fun pre W => ((Boxed W w.heap.size 42 (.int .i64 (n:Int)) ∧ (∃ ov, Boxed W (w.heap.size + 1) 59 ov ∧ IsPlays W (w.heap.size + 4) ov n (foldP appS [] (vals pre)))) ∧ w.heap.size + 4 ≤ W.heap.size) ∧ Below w.heap.size w W)
    (fun _ _ _ => False)
    (OwnFrom.and (OwnFrom.and (OwnFrom.and (Own.from (boxed_own _ _ _) _) (Own.from (boxPlays_own _ _ _ _ _) _)) (size_own _ _)) (ownFrom_below (Nat.le_refl _) (by omega)))
    (fun _ _ _ _ _ hs _ _ => hs)
    ⟨⟨⟨bS, ⟨_, bT, World.ownsRow_nil _ _ _ _⟩⟩, by omega⟩, hB0⟩
    (fun x => { tmps := #[.agg #[.int .i64 (n:Int)], .pointer (some ⟨w.heap.size, 0, none⟩), .slice none 0 0, .pointer (some ⟨w.heap.size + 1, 0, none⟩), .int .i64 (x.val : Int), .agg #[.int .i64 (n:Int)], .agg #[.int .i64 (n:Int)], .func (.func 72) #[.agg #[.int .i64 (n:Int)]] #[], .func (.func 94) #[] #[.pointer (some ⟨w.heap.size + 1 + 1, 0, none⟩), .pointer (some ⟨w.heap.size + 1 + 1 + 1, 0, none⟩)], .int .i64 (x.val : Int), undef, undef, undef, undef, undef, undef, undef, undef], defers := [] }) ?assign ?body ?done ?stop
  case assign =>
    intro l x W K hK
    gi_wp2
    exact hK
  case body =>
    rintro l pre x W ⟨⟨⟨bS1, ⟨ov, bT1, hO⟩⟩, hz4⟩, hB1⟩ hlen
    have hx := x.isLt
    have hsW := hB1.size
    have lT := bT1.lt
    have hz4 : w.heap.size + 4 ≤ W.heap.size := hz4
    have HS := Lib.hid (foldP_snoc appS [] pre x)
    have hc : (foldP appS [] (vals pre)).length < 5000 := by rw [foldP_app]; simpa [vals] using hlen
    have cT := bT1.cell
    have cS := bS1.cell
    have HU : Hid (∀ m : List Int, appS m x.val = m ++ [((x.val : Nat) : Int)]) := Lib.hid (fun m => rfl)
    have HB1 := Lib.hid hB1
    have HZ := Lib.hid (show w.heap.size + 4 ≤ W.heap.size from hz4)
    have HST := Lib.hid (fun v' w1 hI hg => plays_step (v' := v') (w1 := w1) (ys := foldP appS [] (vals pre) ++ [((x.val : Nat) : Int)]) (tmp := .cells #[.int .i64 (n:Int), .int .i64 ((x.val : Nat) : Int)] 47) bT1 hO (n₀ := w.heap.size) (by omega) (by omega) hz4 hI hg)
    generalize foldP appS [] (vals pre) = m at *
    have HO := Lib.hid hO
    have HBT := Lib.hid bT1
    have HBS := Lib.hid bS1
    clear hO hB1 bT1 bS1
    gi_wp2_with (first
      | (gi_at_builtin; go_loud (refine wpListIn_append_play (by rfl) (by rfl) (by exact fun ⟨_, _, h⟩ => h) _ _ rfl ov n m ((x.val : Nat) : Int) W (w.heap.size + 4) rfl rfl HO.out (by omega) HZ.out ?_; intro v' w1 hI1 hg1; obtain ⟨bT2, bT3, hI3, hk3, hkb⟩ := HST.out v' w1 hI1 hg1; obtain ⟨g9, cap9, rfl⟩ := snoc_playShape hI1; have fT := bT2.frozen; have cT1 := bT2.cell; have HI3 := Lib.hid hI3; have HG := Lib.hid hg1; clear hI1 hI3 hg1))
      | go_in)
    exact ⟨hk3, ⟨hkb _ (by omega) (by omega), hkb _ (by omega) (by omega)⟩, ⟨⟨(hkb w.heap.size (by omega) (by omega)).box _ _ HBS.out, ⟨_, bT3, by rw [HS.out, HU.out]; exact HI3.out⟩⟩, Nat.le_trans HZ.out hk3.size⟩, HB1.out.trans (hkb (w.heap.size + 1 + 1) (by omega) (by omega)).below⟩
  case done =>
    rintro D ys W hD rfl ⟨⟨⟨bS1, ⟨ov, bT1, hO⟩⟩, hz4⟩, hB⟩ hK
    have cT := bT1.cell
    rw [foldP_come _ _ _ _ _ (Nat.le_refl _), HRun.out] at hO
    gi_wp2
    refine ⟨by simp, .inl ⟨_, _, rfl, run_takeDeferred hK, ?_⟩⟩
    have hI9 : IsPlays (W.putObj D (.deferred none)) w.heap.size ov n (playL n (2 ^ (n - 1))) := IsPlays.base (b := w.heap.size + 4) (ownsRow_putObj hO _ hK rfl) (by omega)
    exact ⟨_, results_tmp rfl _ _ _, ov, rfl, hB.trans (belowK_b (w := w) (Nat.le_refl _) W D _ _ (by omega) hK rfl rfl), hI9⟩
  case stop =>
    rintro D c pre W _ _ h _
    exact h.elim
end Go.Proofs.Ytaklmepioeoohaa
