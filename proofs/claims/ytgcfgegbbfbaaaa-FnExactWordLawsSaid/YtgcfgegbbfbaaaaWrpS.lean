/- Words, the program's side: the least words of a list, the loop. Written by gen131.py. -/
import Derived.Test.YtgcfgegbbfbaaaaWrpR
namespace Go.Proofs.Ytgcfgegbbfbaaaa
open Go.RowKit Go.Shelf
set_option linter.unusedVariables false
attribute [local go_sem] Oper.semAt_some
/-- The least ones among those that have come. -/
def lstW (F : List (List Int)) (pre : List Nat) : List (List Int) := (pre.map fun i => F.getD i []).foldl (leastStep partD) []
theorem lstW_snoc (F : List (List Int)) (pre : List Nat) (x : Nat) : lstW F (pre ++ [x]) = leastStep partD (lstW F pre) (F.getD x []) := by
  unfold lstW
  rw [List.map_append, List.foldl_append]
  rfl
theorem lstW_all (F : List (List Int)) : lstW F (List.range F.length) = F.foldl (leastStep partD) [] := by
  unfold lstW
  have e : (List.range F.length).map (fun i => F.getD i []) = F := by
    refine List.ext_getElem (by simp) fun i h1 h2 => ?_
    rw [List.getElem_map, List.getElem_range, List.getD_eq_getElem?_getD, List.getElem?_eq_getElem h2]
    rfl
  rw [e]
theorem least_fold_len (l a : List (List Int)) : (l.foldl (leastStep partD) a).length ≤ a.length + l.length := by
  induction l generalizing a with
  | nil => exact Nat.le_refl _
  | cons c l ih =>
    have h1 := ih (leastStep partD a c)
    have h2 : (leastStep partD a c).length ≤ a.length + 1 := by
      unfold leastStep
      split
      · omega
      · simp
    show (l.foldl (leastStep partD) (leastStep partD a c)).length ≤ a.length + (l.length + 1)
    omega
theorem lstW_len (F : List (List Int)) (pre : List Nat) : (lstW F pre).length ≤ pre.length := by
  have h := least_fold_len (pre.map fun i => F.getD i []) []
  simpa [lstW] using h
/-- Words of one length: what is a part is the same. -/
theorem fold_part (m : Nat) (hm : m ≤ 3) (F a : List (List Int)) (hF : ∀ c ∈ F, c.length = m) (ha : ∀ c ∈ a, c.length = m) : F.foldl (leastStep partD) a = F.foldl (leastStep partC) a := by
  induction F generalizing a with
  | nil => rfl
  | cons c F ih =>
    have hc := hF c (by simp)
    have e : a.any (fun l => partD l c) = a.any (fun l => partC l c) := by
      rw [Bool.eq_iff_iff, List.any_eq_true, List.any_eq_true]
      constructor
      · rintro ⟨d, h1, h2⟩
        exact ⟨d, h1, by rw [part_tri d c (by rw [ha d h1, hc]) (by rw [ha d h1]; exact hm)]; exact h2⟩
      · rintro ⟨d, h1, h2⟩
        exact ⟨d, h1, by rw [← part_tri d c (by rw [ha d h1, hc]) (by rw [ha d h1]; exact hm)]; exact h2⟩
    have e2 : leastStep partD a c = leastStep partC a c := by
      unfold leastStep
      rw [e]
    show F.foldl (leastStep partD) (leastStep partD a c) = F.foldl (leastStep partC) (leastStep partC a c)
    rw [e2]
    refine ih _ (fun d hd => hF d (List.mem_cons_of_mem _ hd)) (fun d hd => ?_)
    unfold leastStep at hd
    split at hd
    · exact ha d hd
    · rcases List.mem_append.1 hd with h | h
      · exact ha d h
      · rw [List.mem_singleton.1 h]; exact hc
theorem IsWords.base {W : World} {b b' : Nat} {v : Value} {F : List (List Int)} (h : IsWords W b v F) (hb : b' ≤ b) : IsWords W b' v F := by
  refine ⟨h.1, ?_⟩
  rcases h.2 with hn | ⟨g, cap, cur, rfl, h1, rest⟩
  · exact .inl hn
  · exact .inr ⟨g, cap, cur, rfl, by omega, rest⟩
theorem wpInRW_of_wp {P : Program} {l m : Nat} {o : Oper} {a : Act} {w : World} {K : Act → World → Prop} {Q : Exit → Act → World → Prop} (hd : noDefer o = true) (hl : ¬ LetsOut Q) (h : o.wp P a w K Q) : o.wpIn (Fence.wide.inRound l) m P a w K Q := by
  refine ⟨fun _ _ => trivial, ?_⟩
  rw [show Oper.semAt (Fence.wide.inRound l).round a.eval o = execOp a.eval o from Oper.semAt_some l _ o (noDefer_ne hd)]
  unfold Oper.wp at h
  generalize (execOp a.eval o).run P w = r at *
  cases r with
  | ok x w' =>
    cases x <;> first
      | exact h
      | exact False.elim h
      | exact ⟨fun hh => (by cases hh), CallsIn.inRound l (callsIn_wide.2 h)⟩
      | exact ⟨fun hh => (by cases hh), fun c cs _ => let ⟨v, w', r, s⟩ := h c cs; ⟨v, w', r, stepsIn_wide.2 s⟩⟩
  | halt x w' => cases x <;> exact h
theorem wpListIn_append_word {l m : Nat} {ops : Array Oper} {rest : List Oper} {o : Oper} {act : Act} {Q : Exit → Act → World → Prop} (hgd : Region.wanted o (yielded ops act.tmps) = true) (hd : noDefer o = true) (hlo : ¬ LetsOut Q) (s x : Operand) (ho : o.op = .call { callee := .builtin .append, args := #[s, x], argTypes := #[62, 62] })
    (a : Value) (F : List (List Int)) (cs : List Int) (W : World) (N : Nat) (hs : act.eval s = a) (hx : act.eval x = .slice (some ⟨W.heap.size, 0, none⟩) 1 1) (hO : IsWords W N a F) (hl : F.length ≤ 100000) (hN : N ≤ W.heap.size)
    (h : ∀ (v' : Value) (w1 : World), IsWords w1 N v' (F ++ [cs]) → (W.alloc (.cells #[.int .i64 (cO cs 0), .int .i64 (cO cs 1), .int .i64 (cO cs 2)] 50)).grownBy w1 a.ownBlock → wpListIn (Fence.wide.inRound l) m Try.prog ops Q rest (act.put o.dst v') w1) :
    wpListIn (Fence.wide.inRound l) m Try.prog ops Q (o :: rest) act (W.alloc (.cells #[.int .i64 (cO cs 0), .int .i64 (cO cs 1), .int .i64 (cO cs 2)] 50)) :=
  BigFrame.wpListIn_want hgd fun K hK => wpInRW_of_wp hd hlo (wp_append_word s x ho a F cs W N hs hx hO hl hN fun v' w1 h1 h2 _ => hK _ _ (h v' w1 h1 h2))
/-- What an append to the list in a box leaves. -/
theorem word_step {w W1 w9 : World} {T P N : Nat} {t t' : TypeId} {ov v' fv : Value} {m ys : List (List Int)} {tmp : Obj} (hv : Boxed W1 T t ov) (hp : Boxed W1 P t' fv) (hPT : P ≠ T) (hO : IsWords W1 N ov m) (hT : T < N) (hP : P < N) (hN : N ≤ W1.heap.size)
    (hI : IsWords w9 N v' ys) (hg : (W1.alloc tmp).grownBy w9 ov.ownBlock) (hw : w.heap.size ≤ T) (hB : w.heap.size ≤ W1.heap.size) :
    Boxed w9 T t ov ∧ Boxed (w9.setCell ⟨T, 0, none⟩ v') T t v' ∧ Boxed (w9.setCell ⟨T, 0, none⟩ v') P t' fv ∧ IsWords (w9.setCell ⟨T, 0, none⟩ v') N v' ys ∧ Below w.heap.size W1 (w9.setCell ⟨T, 0, none⟩ v') ∧ KeepsOthers W1 (w9.setCell ⟨T, 0, none⟩ v') := by
  have hrow : ∀ r, ov.ownBlock = some r → N ≤ r := fun r e => (World.ownsRow.lt hO r e).1
  have h9 : Boxed w9 T t ov := (hv.alloc tmp).kept hg (fun e => by have := hrow T e.symm; omega)
  have hp9 : Boxed w9 P t' fv := (hp.alloc tmp).kept hg (fun e => by have := hrow P e.symm; omega)
  have hsz : W1.heap.size + 1 ≤ w9.heap.size := by have := hg.size; simpa using this
  refine ⟨h9, h9.set v', (Below.heap_setCell w9 ⟨T, 0, none⟩ v' P hPT).trans hp9, hI.same fun g e => Below.heap_setCell w9 ⟨T, 0, none⟩ v' g (by
    have := (World.ownsRow.lt hI g e).1
    show g ≠ T
    omega), ?_, ?_, fun k o hk ho => ?_⟩
  · refine (((Below.refl _ W1).alloc hB tmp).grown hg (by simp; omega) fun j ej => ?_).setCell (p := ⟨T, 0, none⟩) hw v'
    have := hrow j ej
    omega
  · show W1.heap.size ≤ (w9.setCell ⟨T, 0, none⟩ v').heap.size
    simp [World.setCell]; omega
  · have hkl := (Array.getElem?_eq_some_iff.1 hk).1
    rw [Below.heap_setCell w9 ⟨T, 0, none⟩ v' k (fun e => by
      have e' : k = T := e
      subst e'
      have h4 : W1.heap[k]? = _ := hv
      rw [hk] at h4
      cases h4
      cases ho), hg.block k (by simp; omega) (fun e => by
      obtain ⟨cur, h4⟩ := hO.type e.symm
      rw [hk] at h4
      cases h4
      cases ho), Below.heap_alloc _ _ _ hkl]
    exact hk
/-- What the loop has between two rounds. -/
def LfI (w : World) (F : List (List Int)) (pre : List Nat) (W : World) : Prop :=
  Boxed W w.heap.size 89 (.func (.func 63) #[] #[]) ∧ (∃ ov, Boxed W (w.heap.size + 1) 62 ov ∧ IsWords W (w.heap.size + 2) ov (lstW F pre)) ∧ Below w.heap.size w W
theorem lfI_own (w : World) (F : List (List Int)) (N : Nat) (hN : w.heap.size ≤ N) : OwnFrom N (LfI w F) := by
  rintro pre X Y row ⟨h1, ⟨ov, h2, h3⟩, h4⟩ hg hr
  have hr' : ∀ r, row = some r → ∃ o : Obj, X.heap[r]? = some o ∧ o.isCells = false := fun r e => (hr r e).2
  refine ⟨boxed_own _ _ (fun _ : List Nat => (.func (.func 63) #[] #[])) pre X Y row h1 hg hr', ⟨ov, boxed_own _ _ (fun _ : List Nat => ov) pre X Y row h2 hg hr', h3.same fun g e => hg.block g (World.ownsRow.lt h3 g e).2 fun e2 => ?_⟩, ownFrom_below (Nat.le_refl _) hN pre X Y row h4 hg hr⟩
  obtain ⟨ob, e4, e5⟩ := hr' g e2.symm
  obtain ⟨cur, e6⟩ := h3.type e
  rw [e4] at e6
  cases e6
  cases e5
set_option maxRecDepth 100000 in
set_option maxHeartbeats 8000000 in
theorem leastOfW_any (Bn L cap : Nat) (A : Option Addr) (F : List (List Int)) (w : World) (hL : F.length = L) (hL3 : L ≤ 100000) (hBn : Boxed w Bn 62 (.slice A L cap))
    (hb : 0 < L → ∃ g, A = some ⟨g, 0, none⟩ ∧ g < w.heap.size ∧ ∀ i, i < L → (w.cell? ⟨g, i * 3, none⟩ = some (.int .i64 (cO (F.getD i []) 0)) ∧ w.cell? ⟨g, i * 3 + 1, none⟩ = some (.int .i64 (cO (F.getD i []) 1)) ∧ w.cell? ⟨g, i * 3 + 2, none⟩ = some (.int .i64 (cO (F.getD i []) 2)))) :
    Calls Try.prog 61 #[.func (.func 83) #[] #[.pointer (some ⟨Bn, 0, none⟩)], (.func (.func 63) #[] #[])] w fun e w' => ∃ v, e = .returned v ∧ Below w.heap.size w w' ∧ IsWords w' 0 v (F.foldl (leastStep partD) []) := by
  refine (callsIn_wide (n := 9)).1 ?_
  refine callsIn_of_wp_marks Try.func61 rfl trivial ?_ rfl
  simp only [Try.ntmps61, List.size_toArray, List.length_cons, List.length_nil, Nat.reduceAdd, Nat.reduceSub, Array.replicate_succ, Array.replicate_zero, List.push_toArray, List.append_toArray, List.nil_append, List.cons_append]
  gi_wp2
  have bF0 := (Boxed.new w 89 (.func (.func 63) #[] #[])).alloc (.cells #[.slice none 0 0] 62)
  have bT0 := Boxed.new (w.alloc (.cells #[.func (.func 63) #[] #[]] 89)) 62 (.slice none 0 0)
  simp only [World.size_alloc] at bT0
  have bN0 : Boxed ((w.alloc (.cells #[.func (.func 63) #[] #[]] 89)).alloc (.cells #[.slice none 0 0] 62)) Bn 62 (.slice A L cap) := (hBn.alloc _).alloc _
  have hB0 : Below w.heap.size w ((w.alloc (.cells #[.func (.func 63) #[] #[]] 89)).alloc (.cells #[.slice none 0 0] 62)) := ((Below.refl _ w).alloc (Nat.le_refl _) _).alloc (by simp) _
  have hz0 : ((w.alloc (.cells #[.func (.func 63) #[] #[]] 89)).alloc (.cells #[.slice none 0 0] 62)).heap.size = w.heap.size + 2 := by simp
  have hBl := hBn.lt
  obtain ⟨W0, hW0⟩ : ∃ W0, ((w.alloc (.cells #[.func (.func 63) #[] #[]] 89)).alloc (.cells #[.slice none 0 0] 62)) = W0 := ⟨_, rfl⟩
  rw [hW0] at bF0 bT0 bN0 hB0 hz0 ⊢
  clear hW0 hBn
  have HEnd := Lib.hid (lstW_all F)
  have HPl := Lib.hid (lstW_len F)
  have HPs := Lib.hid (lstW_snoc F)
  have HL := Lib.hid hL
  refine wpIn_rangeFunc_ownH rfl (by omega) (gf := 83) (lb := #[.pointer (some ⟨Bn, 0, none⟩)]) rfl trivial (enters_of Try.func83 (by kernel_rfl) rfl)
    (values_stops 8 (by omega) Bn w.heap.size L cap A F hL hL3 W0 hB0.size (fun h => by
      obtain ⟨g, e, hg, hc⟩ := hb h
      exact ⟨g, e, hg, fun i hi => ⟨(hB0.cell (p := ⟨g, i * 3, none⟩) hg).trans (hc i hi).1, (hB0.cell (p := ⟨g, i * 3 + 1, none⟩) hg).trans (hc i hi).2.1, (hB0.cell (p := ⟨g, i * 3 + 2, none⟩) hg).trans (hc i hi).2.2⟩⟩) bN0) KB.trans (KB.put hB0.size) (Below.refl _ _) (fun _ => rfl)
    (LfI w F) (fun _ _ _ => False) (lfI_own w F _ hB0.size) (fun _ _ _ _ _ hs _ _ => hs) ⟨bF0, ⟨_, bT0, World.ownsRow_nil _ _ _ _⟩, hB0⟩
    (fun x a' W => ∃ Bx, w.heap.size + 1 < Bx ∧ Ter W Bx 50 (.int .i64 (cO (F.getD x []) 0)) (.int .i64 (cO (F.getD x []) 1)) (.int .i64 (cO (F.getD x []) 2)) ∧ a' = { tmps := #[.func (.func 83) #[] #[.pointer (some ⟨Bn, 0, none⟩)], .func (.func 63) #[] #[], undef, .pointer (some ⟨w.heap.size, 0, none⟩), .slice none 0 0, .pointer (some ⟨w.heap.size + 1, 0, none⟩), .pointer (some ⟨Bx, 0, none⟩), undef, .func (.func 83) #[] #[.pointer (some ⟨Bn, 0, none⟩)], .agg #[.int .i64 (cO (F.getD x []) 0), .int .i64 (cO (F.getD x []) 1), .int .i64 (cO (F.getD x []) 2)], undef, undef, undef, undef, undef, undef, undef, undef, undef, undef], defers := [] })
    (fun x a' _ X Y row hs hg hr => by obtain ⟨Bx, h1, h2, h3⟩ := hs; exact ⟨Bx, h1, h2.same (ter_same hg (fun r e => (hr r e).2) h2), h3⟩)
    ?assign ?body ?done ?stop
  case assign =>
    rintro l pre x W K ⟨hF, ⟨ov, hT, hO⟩, hB⟩ hK
    have lW := hT.lt
    have HO := Lib.hid hO
    clear hO
    unfold encI
    gi_wp2
    exact hK _ _ ((KeepsOthers.alloc _ _).from _) ⟨fun t v hb => hb.alloc _, (Below.refl _ W).alloc hB.size _⟩ ⟨hF.alloc _, ⟨ov, hT.alloc _, World.ownsRow.alloc HO.out _⟩, hB.alloc hB.size _⟩ ⟨W.heap.size, lW, Ter.new W 50 _ _ _, rfl⟩
  case body =>
    rintro l pre x a' W hl ⟨r, hr⟩ ⟨hF, ⟨ov, hT, hO⟩, hB⟩ ⟨Bx, hBx, hX, rfl⟩ hlen
    have hlz := HPl.out pre
    have HSx := Lib.hid (HPs.out pre x)
    obtain ⟨c, hc⟩ : ∃ c, F.getD x [] = c := ⟨_, rfl⟩
    rw [hc] at hX HSx ⊢
    generalize hzs : lstW F pre = zs at *
    clear hzs hc
    have hsW := hB.size
    have HA : Hid (0 < zs.length → ∃ g, ov = .slice (some ⟨g, 0, none⟩) zs.length (match ov with | .slice _ _ k => k | _ => 0) ∧ g < W.heap.size ∧ ∀ i, i < zs.length → (W.cell? ⟨g, i * 3, none⟩ = some (.int .i64 (cO (zs.getD i []) 0)) ∧ W.cell? ⟨g, i * 3 + 1, none⟩ = some (.int .i64 (cO (zs.getD i []) 1)) ∧ W.cell? ⟨g, i * 3 + 2, none⟩ = some (.int .i64 (cO (zs.getD i []) 2)))) := Lib.hid (fun h => by
      rcases hO.shape with ⟨rfl, e⟩ | ⟨g, k, rfl, _, hg⟩
      · rw [e] at h; simp at h
      · exact ⟨g, rfl, hg, fun i hi => ⟨hO.cells hi 0 (by omega), hO.cells hi 1 (by omega), hO.cells hi 2 (by omega)⟩⟩)
    obtain ⟨A9, cp, hov, hA⟩ : ∃ A9 cp, ov = .slice A9 zs.length cp ∧ (0 < zs.length → ∃ g, A9 = some ⟨g, 0, none⟩ ∧ g < W.heap.size ∧ ∀ i, i < zs.length → (W.cell? ⟨g, i * 3, none⟩ = some (.int .i64 (cO (zs.getD i []) 0)) ∧ W.cell? ⟨g, i * 3 + 1, none⟩ = some (.int .i64 (cO (zs.getD i []) 1)) ∧ W.cell? ⟨g, i * 3 + 2, none⟩ = some (.int .i64 (cO (zs.getD i []) 2)))) := by
      rcases hO.shape with ⟨rfl, e⟩ | ⟨g, k, rfl, _, hg⟩
      · exact ⟨none, 0, by rw [e]; rfl, fun h => by rw [e] at h; simp at h⟩
      · exact ⟨_, k, rfl, fun _ => ⟨g, rfl, hg, fun i hi => ⟨hO.cells hi 0 (by omega), hO.cells hi 1 (by omega), hO.cells hi 2 (by omega)⟩⟩⟩
    subst hov
    clear HA
    have cT := hT.cell
    have HC := Lib.hid (fun q hq => containsFuncW_any zs A9 cp c w.heap.size Bx zs.length W q hq rfl (by omega) hF hX hA)
    have HG := Lib.hid (⟨hF, hT, hX, hO, hB⟩ : _ ∧ _ ∧ _ ∧ _ ∧ _)
    have HZ := Lib.hid (show zs.length ≤ 100000 ∧ W0.heap.size = w.heap.size + 2 ∧ w.heap.size + 1 < W.heap.size ∧ Bn < w.heap.size from ⟨by omega, hz0, hT.lt, hBl⟩)
    cases hq : zs.any (fun d => partD d c)
    · have HCq := Lib.hid (HC.out false hq)
      have HU : Hid (leastStep partD zs c = zs ++ [c]) := Lib.hid (by unfold leastStep; rw [hq]; rfl)
      clear HC hq hA hO hB hT hF hX
      gi_wp2_with (first
        | (refine ⟨trivial, ?_⟩; gi_at_call 82; refine (callsIn_wide.2 HCq.out).mono ?_; rintro e w2 ⟨rfl, hb2⟩; have hT2 := boxed_below HG.out.2.1 HG.out.2.1.lt hb2; have hF2 := boxed_below HG.out.1 HG.out.1.lt hb2; have hX2 := HG.out.2.2.1.below HG.out.2.2.1.lt hb2; have hO2 := HG.out.2.2.2.1.belowAll hb2; have HG2 := Lib.hid (⟨hF2, hT2, hX2, hO2, hb2⟩ : _ ∧ _ ∧ _ ∧ _ ∧ _); have HS2 := Lib.hid (show w.heap.size + 2 ≤ w2.heap.size by have := HZ.out.2.2.1; have := hb2.size; omega); have cT2 := hT2.cell; have x0 := hX2.cell0; have x1 := hX2.cell1; have x2 := hX2.cell2; clear hT2 hF2 hX2 hO2 hb2)
        | (gi_at_builtin; go_loud (refine wpListIn_append_word (by rfl) (by rfl) (by exact fun ⟨_, _, h⟩ => h) _ _ rfl _ zs c w2 (w.heap.size + 2) rfl rfl HG2.out.2.2.2.1 HZ.out.1 HS2.out ?_; intro v' w1 hI1 hg1; obtain ⟨bT2, bT3, bF3, hI3, hb3, hk3⟩ := word_step (w := w) (v' := v') HG2.out.2.1 HG2.out.1 (by omega) HG2.out.2.2.2.1 (by omega) (by omega) HS2.out hI1 hg1 (by omega) (by have := HS2.out; omega); obtain ⟨A8, l8, cap8, rfl⟩ := hI1.slice; have fT := bT2.frozen; have cT1 := bT2.cell; have HN3 := Lib.hid (⟨bT3, bF3, hI3, hb3, hk3⟩ : _ ∧ _ ∧ _ ∧ _ ∧ _); clear hI1 hI3 hg1 hk3 hb3 bT3 bT2 bF3))
        | go_in)
      have hbb := (HG2.out.2.2.2.2.mono (show w.heap.size ≤ W.heap.size by have := HZ.out; omega)).trans HN3.out.2.2.2.1
      exact ⟨((others_below HG2.out.2.2.2.2).trans HN3.out.2.2.2.2).from _, ⟨fun t v h => boxed_below h HZ.out.2.2.2 hbb, hbb⟩, HN3.out.2.1, ⟨_, HN3.out.1, by rw [HSx.out, HU.out]; exact HN3.out.2.2.1⟩, HG.out.2.2.2.2.trans hbb⟩
    · have HCq := Lib.hid (HC.out true hq)
      have HU : Hid (leastStep partD zs c = zs) := Lib.hid (by unfold leastStep; rw [hq]; rfl)
      clear HC hq hA hO hB hT hF hX
      gi_wp2_with (refine ⟨trivial, ?_⟩; gi_at_call 82; refine (callsIn_wide.2 HCq.out).mono ?_; rintro e w2 ⟨rfl, hb2⟩)
      have hb3 := hb2.mono (show w.heap.size ≤ W.heap.size by have := HZ.out; omega)
      exact ⟨(others_below hb2).from _, ⟨fun t v h => boxed_below h HZ.out.2.2.2 hb3, hb3⟩, boxed_below HG.out.1 HG.out.1.lt hb2, ⟨_, boxed_below HG.out.2.1 HG.out.2.1.lt hb2, by rw [HSx.out, HU.out]; exact HG.out.2.2.2.1.belowAll hb2⟩, HG.out.2.2.2.2.trans hb3⟩
  case done =>
    rintro D ys W hD rfl ⟨hF, ⟨ov, hT, hO⟩, hB⟩ hK
    have cT := hT.cell
    have e9 := HEnd.out
    rw [HL.out] at e9
    rw [e9] at hO
    obtain ⟨A9, l9, cp, rfl⟩ := hO.slice
    have HN : Hid (Below w.heap.size w (W.putObj D (.deferred none)) ∧ IsWords (W.putObj D (.deferred none)) 0 (.slice A9 l9 cp) (F.foldl (leastStep partD) [])) := Lib.hid ⟨hB.trans (belowK_b (w := w) (Nat.le_refl _) W D _ (.deferred none) (by omega) hK rfl rfl), (hO.same fun g e => World.putObj_heap_other (fun e2 => by
      obtain ⟨cur, h4⟩ := hO.type e
      rw [e2, hK] at h4
      cases h4)).base (by omega)⟩
    clear hO hB hT hF e9
    gi_wp2
    refine ⟨by simp, .inl ⟨_, _, rfl, run_takeDeferred hK, ?_⟩⟩
    refine ⟨.slice A9 l9 cp, ?_, _, rfl, HN.out.1, HN.out.2⟩
    simp [results, Try.results61, go_sem]
  case stop =>
    rintro D c pre W _ _ h _
    exact h.elim
end Go.Proofs.Ytgcfgegbbfbaaaa
