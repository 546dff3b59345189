/- Texts of mine, laid together: FrpA FrpB FrpN FrpC FrpD FrpE FrpG FrpF. -/
import Derived.Test.YtkdgbnjpjkhopaaGI
import Derived.Test.YtkdgbnjpjkhopaaRoA
import Derived.Test.YtkdgbnjpjkhopaaStepZ
import Derived.Test.YtkdgbnjpjkhopaaGG
import Derived.LoopTactic
/- Free sets, the program's side: what holds of a set. -/
namespace Go.Proofs.Ytkdgbnjpjkhopaa
open Go.RowKit Go.Shelf
set_option linter.unusedVariables false
theorem cast_beq0 (a : Nat) : ((a : Int) == 0) = Nat.beq a 0 := by
  cases a with
  | zero => rfl
  | succ k =>
    show ((((k + 1 : Nat) : Int)) == 0) = false
    simp; omega
theorem cast_beq (a b : Nat) : ((a : Int) == (b : Int)) = Nat.beq a b := by
  by_cases h : a = b
  · subst h
    rw [Nat.beq_refl]
    simp
  · rw [beq_cast_ne h]
    cases hb : Nat.beq a b
    · rfl
    · exact absurd (Nat.eq_of_beq_eq_true hb) h
end Go.Proofs.Ytkdgbnjpjkhopaa

/- Free sets, the program's side: the iterator over the sets of which something holds. -/
namespace Go.Proofs.Ytkdgbnjpjkhopaa
open Go.RowKit Go.Shelf
set_option linter.unusedVariables false
attribute [local go_sem] Oper.semAt_some
/-- The sets that have come when k is asked next. -/
def comeP (p : Nat → Bool) (N : Nat) : Nat → List (Fin N)
  | 0 => []
  | k + 1 => if h : k < N then (if p k then comeP p N k ++ [⟨k, h⟩] else comeP p N k) else comeP p N k
theorem comeP_yes {p : Nat → Bool} {N k : Nat} (h : k < N) (hb : p k = true) : comeP p N (k + 1) = comeP p N k ++ [⟨k, h⟩] := by simp [comeP, h, hb]
theorem comeP_no {p : Nat → Bool} {N k : Nat} (hb : p k = false) : comeP p N (k + 1) = comeP p N k := by simp [comeP, hb]
theorem comeP_len (p : Nat → Bool) (N k : Nat) : (comeP p N k).length ≤ k := by
  induction k with
  | zero => simp [comeP]
  | succ k ih =>
    unfold comeP
    split
    · split
      · simp; omega
      · omega
    · omega
/-- A state turned by f at each set that has come. -/
def foldP {α : Type} (f : α → Nat → α) (a : α) (pre : List Nat) : α := pre.foldl f a
theorem foldP_snoc {α : Type} (f : α → Nat → α) (a : α) {N : Nat} (pre : List (Fin N)) (x : Fin N) : foldP f a (vals (pre ++ [x])) = f (foldP f a (vals pre)) x.val := by simp [foldP, vals_snoc]
/-- What a loop over all sets makes of it. -/
def runP {α : Type} (f : α → Nat → α) (p : Nat → Bool) (a : α) : Nat → α
  | 0 => a
  | k + 1 => if p k then f (runP f p a k) k else runP f p a k
theorem foldP_come {α : Type} (f : α → Nat → α) (a : α) (p : Nat → Bool) (N k : Nat) (hk : k ≤ N) : foldP f a (vals (comeP p N k)) = runP f p a k := by
  induction k with
  | zero => rfl
  | succ k ih =>
    have hlt : k < N := by omega
    cases hb : p k
    · rw [comeP_no hb, ih (by omega)]
      simp [runP, hb]
    · rw [comeP_yes hlt hb, foldP_snoc, ih (by omega)]
      simp [runP, hb]
/-- Both boxes are kept, and all below n₀. -/
def KS (R H n₀ : Nat) (W W' : World) : Prop := KB R n₀ W W' ∧ KB H n₀ W W'
theorem KS.trans {R H n₀ : Nat} {A B C : World} (h : KS R H n₀ A B) (k : KS R H n₀ B C) : KS R H n₀ A C := ⟨h.1.trans k.1, h.2.trans k.2⟩
theorem KS.put {R H n₀ : Nat} {w : World} (hn : n₀ ≤ w.heap.size) (W : World) (l : Nat) (o o' : Obj) (hl : w.heap.size ≤ l) (h : W.heap[l]? = some o) (hc : o.isCells = false) (hw : o.isWalk = false) : KS R H n₀ W (W.putObj l o') :=
  ⟨KB.put hn W l o o' hl h hc hw, KB.put hn W l o o' hl h hc hw⟩
theorem grown_below {W W' : World} (h : Below W.heap.size W W') : W.grownBy W' none := ⟨h.os, h.tape, h.output, h.size, fun k hk _ => h.block k hk⟩
theorem abides_below {β : Type} {B : Nat} {J : β → World → Prop} (hJ : AbidesFrom B J) {s : β} {W W' : World} (h : J s W) (hb : Below W.heap.size W W') : J s W' :=
  hJ s W W' none h (grown_below hb) (fun r e => by cases e)
end Go.Proofs.Ytkdgbnjpjkhopaa

/- Free sets, the program's side: neat sets. Written by gen45.py. -/
namespace Go.Proofs.Ytkdgbnjpjkhopaa
open Go.RowKit Go.Shelf
set_option linter.unusedVariables false
theorem take0 {P : Program} {md : Region.Mode} {Q : Exit → Act → World → Prop} {S : World → Prop} {L : List Oper} (i : Nat) {oi : Oper} {fuel : Nat} {listed : Array Bool} {a : Act} {w : World} (hi : L[i]? = some oi)
    (hs : Region.noSelect L.toArray = true) (hf : Region.free md L.toArray listed i = true) (hr : (Region.ready md L.toArray listed).contains i = true)
    (hQ : ∀ c a w, Q (.panic c) (a.put oi.dst undef) w → Q (.panic c) a w) (hw : Region.wanted oi (yielded L.toArray a.tmps) = false) (hS : S w)
    (h : wpAnyH P md L.toArray Q S fuel (listed.setIfInBounds i true) (a.put oi.dst undef) w) : wpAnyH P md L.toArray Q S (fuel + 1) listed a w :=
  wpAnyH_take (by simpa using hi) hs hf hr hQ (.inr ⟨by simpa using hw, rfl⟩) hS h
end Go.Proofs.Ytkdgbnjpjkhopaa

/- Free sets, the program's side: the sets that the iterator yields, for each of the four predicates. Written by gen46.py. -/
namespace Go.Proofs.Ytkdgbnjpjkhopaa
open Go.RowKit Go.Shelf
set_option linter.unusedVariables false
attribute [local go_sem] Oper.semAt_some
end Go.Proofs.Ytkdgbnjpjkhopaa

/- Free sets, the program's side: loops over the iterator. Written by gen47.py. -/
namespace Go.Proofs.Ytkdgbnjpjkhopaa
open Go.RowKit Go.Shelf
set_option linter.unusedVariables false
attribute [local go_sem] Oper.semAt_some
def topS (m x : Nat) : Nat := if Nat.blt m (sizeN x) then sizeN x else m
def lowS (m x : Nat) : Nat := if Nat.blt (sizeN x) m then sizeN x else m
def cntS (m _x : Nat) : Nat := m + 1
def neatS (l : List Int) (x : Nat) : List Int := l ++ [(x : Int)]
theorem top_run (p : Nat → Bool) (k : Nat) : runP topS p 0 k = topN p k := by
  induction k with
  | zero => rfl
  | succ k ih =>
    show (if p k then topS (runP topS p 0 k) k else runP topS p 0 k) = (if p k && Nat.blt (topN p k) (sizeN k) then sizeN k else topN p k)
    rw [ih]
    cases p k <;> simp [topS]
theorem low_run (p : Nat → Bool) (b k : Nat) : runP lowS p b k = lowN p b k := by
  induction k with
  | zero => rfl
  | succ k ih =>
    show (if p k then lowS (runP lowS p b k) k else runP lowS p b k) = (if p k && Nat.blt (sizeN k) (lowN p b k) then sizeN k else lowN p b k)
    rw [ih]
    cases p k <;> simp [lowS]
theorem cnt_run (p : Nat → Bool) (k : Nat) : runP cntS p 0 k = cntP p k := by
  induction k with
  | zero => rfl
  | succ k ih =>
    show (if p k then cntS (runP cntS p 0 k) k else runP cntS p 0 k) = (if p k then cntP p k + 1 else cntP p k)
    rw [ih]
    rfl
theorem neat_run (n s k : Nat) : runP neatS (neatN n s) [] k = neatL n s k := by
  induction k with
  | zero => rfl
  | succ k ih =>
    show (if neatN n s k then neatS (runP neatS (neatN n s) [] k) k else runP neatS (neatN n s) [] k) = (if neatN n s k then neatL n s k ++ [(k : Int)] else neatL n s k)
    rw [ih]
    rfl
theorem foldP_le (f : Nat → Nat → Nat) (N b a : Nat) (ha : a ≤ b) (hf : ∀ m x, x < N → m ≤ b → f m x ≤ b) (pre : List (Fin N)) : foldP f a (vals pre) ≤ b := by
  have h : ∀ (l : List Nat) (a : Nat), a ≤ b → (∀ v ∈ l, v < N) → l.foldl f a ≤ b := by
    intro l
    induction l with
    | nil => exact fun a ha _ => ha
    | cons v l ih => exact fun a ha hl => ih _ (hf a v (hl v (by simp)) ha) (fun u hu => hl u (by simp [hu]))
  exact h _ a ha (vals_lt pre)
theorem foldP_cnt (l : List Nat) : foldP cntS 0 l = l.length := by
  have h : ∀ (l : List Nat) (a : Nat), l.foldl cntS a = a + l.length := by
    intro l
    induction l with
    | nil => intro a; rfl
    | cons v l ih =>
      intro a
      rw [List.foldl_cons, ih]
      simp [cntS]; omega
  have := h l 0
  unfold foldP; omega
theorem foldP_neat (l : List Nat) : (foldP neatS [] l).length = l.length := by
  have h : ∀ (l : List Nat) (a : List Int), (l.foldl neatS a).length = a.length + l.length := by
    intro l
    induction l with
    | nil => intro a; rfl
    | cons v l ih =>
      intro a
      rw [List.foldl_cons, ih]
      simp [neatS]; omega
  have := h l []
  unfold foldP; simpa using this
theorem size12 {N x : Nat} (hN : N ≤ 4096) (hx : x < N) : sizeN x ≤ 12 := sizeN_le 12 x (by omega) (Nat.lt_of_lt_of_le hx hN)
theorem topS_le (N : Nat) (hN : N ≤ 4096) (pre : List (Fin N)) : foldP topS 0 (vals pre) ≤ 12 :=
  foldP_le topS N 12 0 (by omega) (fun m x hx hm => by
    have := size12 hN hx
    unfold topS; split <;> omega) pre
theorem lowS_le (N n : Nat) (hn : n ≤ 12) (hN : N ≤ 4096) (pre : List (Fin N)) : foldP lowS n (vals pre) ≤ 12 :=
  foldP_le lowS N 12 n hn (fun m x hx hm => by
    have := size12 hN hx
    unfold lowS; split <;> omega) pre
theorem topS_yes {m x : Nat} (h : m < sizeN x) : topS m x = sizeN x := by unfold topS; rw [if_pos ((blt_iff _ _).2 h)]
theorem topS_no {m x : Nat} (h : ¬ m < sizeN x) : topS m x = m := by unfold topS; rw [if_neg (fun c => h ((blt_iff _ _).1 c))]
theorem lowS_yes {m x : Nat} (h : sizeN x < m) : lowS m x = sizeN x := by unfold lowS; rw [if_pos ((blt_iff _ _).2 h)]
theorem lowS_no {m x : Nat} (h : ¬ sizeN x < m) : lowS m x = m := by unfold lowS; rw [if_neg (fun c => h ((blt_iff _ _).1 c))]
/-- An operation that defers nothing, in a round. -/
theorem wpInR_of_wp {P : Program} {l m : Nat} {o : Oper} {a : Act} {w : World} {K : Act → World → Prop} {Q : Exit → Act → World → Prop} (hd : noDefer o = true) (hl : ¬ LetsOut Q) (h : o.wp P a w K Q) : o.wpIn (Fence.wide.inRound l) m P a w K Q := by
  refine ⟨fun _ _ => trivial, ?_⟩
  rw [show Oper.semAt (Fence.wide.inRound l).round a.eval o = execOp a.eval o from Oper.semAt_some l _ o (noDefer_ne hd)]
  unfold Oper.wp at h
  generalize (execOp a.eval o).run P w = r at *
  cases r with
  | ok x w' =>
    cases x <;> first
      | exact h
      | exact False.elim h
      | exact ⟨fun hh => (by cases hh), CallsIn.inRound l (callsIn_wide.2 h)⟩
      | exact ⟨fun hh => (by cases hh), fun c cs _ => let ⟨v, w', r, s⟩ := h c cs; ⟨v, w', r, stepsIn_wide.2 s⟩⟩
  | halt x w' => cases x <;> exact h
theorem wpListIn_append_ints {l m : Nat} {ops : Array Oper} {rest : List Oper} {o : Oper} {act : Act} {Q : Exit → Act → World → Prop} (hgd : Region.wanted o (yielded ops act.tmps) = true) (hd : noDefer o = true) (hlo : ¬ LetsOut Q) (s x : Operand) (ho : o.op = .call { callee := .builtin .append, args := #[s, x], argTypes := #[23, 23] })
    (a : Value) (xs : List Int) (r : Int) (W : World) (N : Nat) (hs : act.eval s = a) (hx : act.eval x = .slice (some ⟨W.heap.size, 0, none⟩) 1 1) (hO : IsInts W N a xs) (hl : xs.length ≤ 100000) (hN : N ≤ W.heap.size)
    (h : ∀ (v' : Value) (w1 : World), IsInts w1 N v' (xs ++ [r]) → (∀ (g len c : Nat) (ys : List Int) (N' : Nat), IsInts W N' (.slice (some ⟨g, 0, none⟩) len c) ys → g < N → IsInts w1 N' (.slice (some ⟨g, 0, none⟩) len c) ys) →
      (∀ (B : Nat) (w0 : World), B ≤ N → Below B w0 W → Below B w0 w1) → wpListIn (Fence.wide.inRound l) m Try.prog ops Q rest (act.put o.dst v') w1) : wpListIn (Fence.wide.inRound l) m Try.prog ops Q (o :: rest) act (W.alloc (.cells #[.int .i64 r] 3)) :=
  BigFrame.wpListIn_want hgd fun K hK => wpInR_of_wp hd hlo (wp_append_ints s x ho a xs r W N hs hx hO hl hN fun v' w1 h1 h2 h3 => hK _ _ (h v' w1 h1 h2 h3))
end Go.Proofs.Ytkdgbnjpjkhopaa

/- Free sets, the program's side: freeMany, leastWatch, neat. Written by gen48.py. -/
namespace Go.Proofs.Ytkdgbnjpjkhopaa
open Go.RowKit Go.Shelf
set_option linter.unusedVariables false
attribute [local go_sem] Oper.semAt_some
end Go.Proofs.Ytkdgbnjpjkhopaa

/- Free sets, the program's side: neat. Written by gen48.py. -/
namespace Go.Proofs.Ytkdgbnjpjkhopaa
open Go.RowKit Go.Shelf
set_option linter.unusedVariables false
attribute [local go_sem] Oper.semAt_some
theorem boxInts_own {β : Type} (N B : Nat) (t : TypeId) (f : β → List Int) : Own (fun s W => ∃ v, Boxed W B t v ∧ IsInts W N v (f s)) := by
  intro s X Y row h hg hrow
  obtain ⟨v, h1, h2⟩ := h
  obtain ⟨v', a, b, c⟩ := holdsRow_own (β := β) N B t 3 1 (fun s => (f s).length) (fun s => (f s).map (Value.int .i64)) (fun _ _ => True) s X Y row ⟨v, h1, h2, trivial⟩ hg hrow
  exact ⟨v', a, b⟩
theorem snoc_shape {W : World} {N : Nat} {v : Value} {xs : List Int} {r : Int} (h : IsInts W N v (xs ++ [r])) : ∃ g cap, v = .slice (some ⟨g, 0, none⟩) (xs.length + 1) cap := by
  rcases h.shape with ⟨_, hnil⟩ | ⟨g, cap, e, _⟩
  · simp at hnil
  · exact ⟨g, cap, by rw [e, List.length_append]; rfl⟩
theorem size_own {β : Type} (B m : Nat) : OwnFrom B (fun (_ : β) W => m ≤ W.heap.size) := fun _ _ _ _ h hg _ => Nat.le_trans h hg.size
theorem ints_step {W w1 : World} {T N n₀ : Nat} {t : TypeId} {ov v' : Value} {m ys : List Int} {tmp : Obj} (hv : Boxed W T t ov) (hO : IsInts W N ov m) (hT : T < N) (hn : n₀ ≤ T) (hN : N ≤ W.heap.size) (hI : IsInts w1 N v' ys) (hg : (W.alloc tmp).grownBy w1 ov.ownBlock) :
    Boxed w1 T t ov ∧ Boxed (w1.setCell ⟨T, 0, none⟩ v') T t v' ∧ IsInts (w1.setCell ⟨T, 0, none⟩ v') N v' ys ∧ KeepsOthers W (w1.setCell ⟨T, 0, none⟩ v') ∧ (∀ Bn, Bn ≠ T → Bn < N → KB Bn n₀ W (w1.setCell ⟨T, 0, none⟩ v')) := by
  have hne : ∀ k, k < N → some k ≠ ov.ownBlock := fun k hk e => by
    have := (World.ownsRow.lt hO k e.symm).1
    omega
  have hv1 : Boxed w1 T t ov := (hv.alloc tmp).kept hg (hne T hT)
  refine ⟨hv1, hv1.set v', World.ownsRow.kept hI (grownBy_setCell' w1 T v') ?_, ?_, fun Bn h1 h2 => ⟨fun t u hb => ?_, ?_⟩⟩
  · cases hv' : v'.ownBlock with
    | none => exact .inl rfl
    | some g =>
      refine .inr fun e => ?_
      have := (World.ownsRow.lt hI g hv').1
      injection e with e
      omega
  · refine ((KeepsOthers.alloc W tmp).trans (KeepsOthers.of_grownBy hg fun j o ej hj => ?_)).trans (KeepsOthers.setCell _ _ _)
    rcases (World.ownsRow.alloc hO tmp).2 with ⟨rfl, _⟩ | ⟨g, cap, cur, rfl, _, hgb, _⟩
    · simp [Value.ownBlock] at ej
    · obtain rfl : g = j := by simpa [Value.ownBlock] using ej
      rw [hgb] at hj; cases hj; rfl
  · exact ((hb.alloc tmp).kept hg (hne Bn h2)).other h1 v'
  · refine (((Below.refl n₀ W).alloc (by omega) tmp).grown hg (by simp; omega) fun j ej => ?_).setCell (p := ⟨T, 0, none⟩) hn v'
    have := (World.ownsRow.lt hO j ej).1
    omega
theorem wp_append_grow {o : Oper} {act : Act} {K : Act → World → Prop} {Q : Exit → Act → World → Prop} (s x : Operand) (ho : o.op = .call { callee := .builtin .append, args := #[s, x], argTypes := #[23, 23] })
    (a : Value) (xs : List Int) (r : Int) (W : World) (N : Nat) (hs : act.eval s = a) (hx : act.eval x = .slice (some ⟨W.heap.size, 0, none⟩) 1 1) (hO : IsInts W N a xs) (hl : xs.length ≤ 100000) (hN : N ≤ W.heap.size)
    (h : ∀ (v' : Value) (w1 : World), IsInts w1 N v' (xs ++ [r]) → (W.alloc (.cells #[.int .i64 r] 3)).grownBy w1 a.ownBlock → K (act.put o.dst v') w1) : o.wp Try.prog act (W.alloc (.cells #[.int .i64 r] 3)) K Q := by
  obtain ⟨i0, hi, hz0, hz1, hz2⟩ := info_parts Try.infoQ
  have hO2 : (W.alloc (.cells #[.int .i64 r] 3)).ownsRow N 3 1 a xs.length (xs.map (Value.int .i64)) := World.ownsRow.alloc hO _
  have hc1 : ∀ j u, [Value.int .i64 r][j]? = some u → (W.alloc (.cells #[.int .i64 r] 3)).cell? ((⟨W.heap.size, 0, none⟩ : Addr).add j) = some u := by
    intro j u hj
    cases j with
    | zero => simp at hj; subst hj; simp [Addr.add]
    | succ j => simp at hj
  have hc2 : ∀ u ∈ [Value.int .i64 r], u.oneCell' = true := by intro u hu; simp at hu; subst hu; rfl
  have hc3 : xs.length + 1 ≤ maxLen := by unfold maxLen; omega
  have hc4 : N ≤ (W.alloc (.cells #[.int .i64 r] 3)).heap.size := by simp; omega
  refine wp_append_own (W.alloc (.cells #[.int .i64 r] 3)) s x 23 ho N 3 i0 (.int .i64 0) 1 8 Try.underlying23 hi hz0 hz1 hz2 rfl (by decide) a xs.length _ hs hO2 ⟨W.heap.size, 0, none⟩ 1 1 [.int .i64 r] hx rfl hc1 hc2 hc3 (by omega) hc4 fun v' w1 hown' hgrow hiff => ?_
  exact h v' w1 (snoc_ints hown') hgrow
theorem wpListIn_append_grow {l m : Nat} {ops : Array Oper} {rest : List Oper} {o : Oper} {act : Act} {Q : Exit → Act → World → Prop} (hgd : Region.wanted o (yielded ops act.tmps) = true) (hd : noDefer o = true) (hlo : ¬ LetsOut Q) (s x : Operand) (ho : o.op = .call { callee := .builtin .append, args := #[s, x], argTypes := #[23, 23] })
    (a : Value) (xs : List Int) (r : Int) (W : World) (N : Nat) (hs : act.eval s = a) (hx : act.eval x = .slice (some ⟨W.heap.size, 0, none⟩) 1 1) (hO : IsInts W N a xs) (hl : xs.length ≤ 100000) (hN : N ≤ W.heap.size)
    (h : ∀ (v' : Value) (w1 : World), IsInts w1 N v' (xs ++ [r]) → (W.alloc (.cells #[.int .i64 r] 3)).grownBy w1 a.ownBlock → wpListIn (Fence.wide.inRound l) m Try.prog ops Q rest (act.put o.dst v') w1) : wpListIn (Fence.wide.inRound l) m Try.prog ops Q (o :: rest) act (W.alloc (.cells #[.int .i64 r] 3)) :=
  BigFrame.wpListIn_want hgd fun K hK => wpInR_of_wp hd hlo (wp_append_grow s x ho a xs r W N hs hx hO hl hN fun v' w1 h1 h2 => hK _ _ (h v' w1 h1 h2))
end Go.Proofs.Ytkdgbnjpjkhopaa

/- Free sets, the program's side: both steps and the others of both. Written by gen49.py. -/
namespace Go.Proofs.Ytkdgbnjpjkhopaa
open Go.RowKit Go.Shelf
set_option linter.unusedVariables false
end Go.Proofs.Ytkdgbnjpjkhopaa
