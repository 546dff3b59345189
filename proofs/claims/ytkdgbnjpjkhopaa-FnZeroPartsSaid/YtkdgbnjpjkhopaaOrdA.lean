/- Orders: an iterator that hands on a list of its own, written over between two rounds: what it promises, and the loop over it. -/
import Derived.Test.YtkdgbnjpjkhopaaGA
namespace Go.Proofs.Ytkdgbnjpjkhopaa
open Go.RowKit Go.Shelf
set_option linter.unusedVariables false
/-- From block B on, and of the blocks C, what was there is there. -/
structure Stays (B : Nat) (C : Nat → Prop) (W W' : World) : Prop where
  os : W'.os = W.os
  tape : W'.tape = W.tape
  output : W'.output = W.output
  size : W.heap.size ≤ W'.heap.size
  block : ∀ k, (B ≤ k ∨ C k) → k < W.heap.size → W'.heap[k]? = W.heap[k]?
theorem Stays.refl (B : Nat) (C : Nat → Prop) (W : World) : Stays B C W W := ⟨rfl, rfl, rfl, Nat.le_refl _, fun _ _ _ => rfl⟩
theorem Stays.trans {B : Nat} {C : Nat → Prop} {X Y Z : World} (h : Stays B C X Y) (k : Stays B C Y Z) : Stays B C X Z :=
  ⟨k.os.trans h.os, k.tape.trans h.tape, k.output.trans h.output, Nat.le_trans h.size k.size, fun i h1 h2 => (k.block i h1 (Nat.lt_of_lt_of_le h2 h.size)).trans (h.block i h1 h2)⟩
theorem Stays.mono {B B' : Nat} {C : Nat → Prop} {X Y : World} (h : Stays B C X Y) (hb : B ≤ B') : Stays B' C X Y := ⟨h.os, h.tape, h.output, h.size, fun i h1 h2 => h.block i (h1.imp (Nat.le_trans hb) id) h2⟩
theorem Stays.keeps {B : Nat} {C : Nat → Prop} {X Y : World} (h : Stays B C X Y) : KeepsFrom B X Y :=
  ⟨h.size, fun k o h1 h2 _ => (h.block k (.inl h1) (Array.getElem?_eq_some_iff.1 h2).1).trans h2⟩
theorem Stays.box {B : Nat} {C : Nat → Prop} {X Y : World} (h : Stays B C X Y) {b : Nat} {t : TypeId} {v : Value} (hb : Boxed X b t v) (h1 : B ≤ b) : Boxed Y b t v := (h.block b (.inl h1) hb.lt).trans hb
theorem Stays.below {B : Nat} {C : Nat → Prop} {X Y : World} (h : Below X.heap.size X Y) : Stays B C X Y := ⟨h.os, h.tape, h.output, h.size, fun i _ h2 => h.block i h2⟩
theorem Stays.setCell {B : Nat} {C : Nat → Prop} (X : World) (p : Addr) (u : Value) (h : p.block < B) (hc : ¬ C p.block) : Stays B C X (X.setCell p u) :=
  ⟨rfl, rfl, rfl, by simp [World.setCell], fun i h1 _ => Below.heap_setCell X p u i (fun e => by
    subst e
    rcases h1 with h1 | h1
    · omega
    · exact hc h1)⟩
/-- Below B, and of the cells from M on, nothing turns. -/
structure Outside (B M : Nat) (W W' : World) : Prop where
  os : W'.os = W.os
  tape : W'.tape = W.tape
  output : W'.output = W.output
  size : W.heap.size ≤ W'.heap.size
  low : ∀ k, k < B → W'.heap[k]? = W.heap[k]?
  high : ∀ k o, M ≤ k → W.heap[k]? = some o → o.isCells = true → W'.heap[k]? = some o
theorem Outside.refl (B M : Nat) (W : World) : Outside B M W W := ⟨rfl, rfl, rfl, Nat.le_refl _, fun _ _ => rfl, fun _ _ _ h _ => h⟩
theorem Outside.trans {B M : Nat} {X Y Z : World} (h : Outside B M X Y) (k : Outside B M Y Z) : Outside B M X Z :=
  ⟨k.os.trans h.os, k.tape.trans h.tape, k.output.trans h.output, Nat.le_trans h.size k.size, fun i hi => (k.low i hi).trans (h.low i hi), fun i o h1 h2 h3 => k.high i o h1 (h.high i o h1 h2 h3) h3⟩
theorem Outside.putObj {B M : Nat} (W : World) {l : Nat} {o : Obj} (o' : Obj) (hB : B ≤ l) (hl : W.heap[l]? = some o) (ho : o.isCells = false) : Outside B M W (W.putObj l o') :=
  ⟨rfl, rfl, rfl, by simp, fun k hk => World.putObj_heap_other (by omega), fun k o2 h1 h2 h3 => by
    by_cases e : k = l
    · subst e; rw [hl] at h2; cases h2; rw [ho] at h3; cases h3
    · exact (World.putObj_heap_other e).trans h2⟩
theorem Outside.alloc {B M : Nat} (W : World) (o : Obj) (hB : B ≤ W.heap.size) : Outside B M W (W.alloc o) :=
  ⟨rfl, rfl, rfl, by simp, fun k hk => Below.heap_alloc W o k (by omega), fun k o2 h1 h2 h3 => (Below.heap_alloc W o k (Array.getElem?_eq_some_iff.1 h2).1).trans h2⟩
theorem Outside.setCell {B M : Nat} (W : World) (p : Addr) (u : Value) (h1 : B ≤ p.block) (h2 : p.block < M) : Outside B M W (W.setCell p u) :=
  ⟨rfl, rfl, rfl, by simp [World.setCell], fun k hk => Below.heap_setCell W p u k (by omega), fun k o2 h3 h4 h5 => (Below.heap_setCell W p u k (by omega)).trans h4⟩
theorem Outside.drew {B M : Nat} (W : World) : Outside B M W W.drew := ⟨rfl, rfl, rfl, Nat.le_refl _, fun _ _ => rfl, fun _ _ _ h _ => h⟩
theorem Outside.grown {B M : Nat} {W W' : World} {row : Option Nat} (hg : W.grownBy W' row) (hB : B ≤ W.heap.size) (hr : ∀ r, row = some r → B ≤ r ∧ ∃ o : Obj, W.heap[r]? = some o ∧ o.isCells = false) : Outside B M W W' :=
  ⟨hg.os, hg.tape, hg.output, hg.size, fun k hk => hg.block k (by omega) (fun e => by have := (hr k e.symm).1; omega), fun k o h1 h2 h3 => (hg.block k (Array.getElem?_eq_some_iff.1 h2).1 (fun e => by
    obtain ⟨_, o2, h4, h5⟩ := hr k e.symm
    rw [h2] at h4; cases h4; rw [h3] at h5; cases h5)).trans h2⟩
/-- An iterator that hands on what reads as a list at that time: what the loop has (J) speaks of what lay when the iterator was called, and its rounds leave be what the iterator has laid. -/
def SeqReads {α : Type} (F : Fence) (m : Nat) (P : Program) (g : Nat) (lb : Array Value) (C : Nat → Prop) (Rd : α → Value → World → Prop) (S Sp : List α → Prop) (N : Nat) (w : World) : Prop :=
  ∀ (l : Nat) (J : List α → World → Prop) (Jx : Nat → List α → World → Prop) (W : World), Below w.heap.size w W →
    (∀ pre A B, J pre A → Below W.heap.size A B → J pre B) →
    (∀ M pre A B, W.heap.size ≤ M → Jx M pre A → Outside W.heap.size M A B → Jx M pre B) →
    (∀ pre x v W1, J pre W1 → W.heap.size ≤ W1.heap.size → Rd x v W1 → pre.length < N → YieldAt F (m - 1) P l #[v] W1 fun e W' =>
      (e = .returned (.bool true) ∧ J (pre ++ [x]) W' ∧ Stays W.heap.size C W1 W') ∨ (e = .returned (.bool false) ∧ Jx W1.heap.size (pre ++ [x]) W' ∧ Stays W.heap.size C W1 W')) →
    J [] W →
    CallsIn F m P g (#[.func (.yield l) #[] #[]] ++ lb) W fun e W' => (∃ v, e = .returned v) ∧ ((∃ xs, S xs ∧ J xs W') ∨ (∃ M pre, W.heap.size ≤ M ∧ Sp pre ∧ Jx M pre W'))
/-- How a round may be left. -/
def readPost {α : Type} (B : Nat) (C : Nat → Prop) (I : List α → World → Prop) (Ix : Code → Nat → List α → World → Prop) (xs : List α) (W : World) : Exit → Act → World → Prop
  | .normal, _, W' => Stays B C W W' ∧ I xs W'
  | .ret, _, W' => Stays B C W W' ∧ Ix .ret W.heap.size xs W'
  | .exit id, _, W' => Stays B C W W' ∧ Ix (.exit id) W.heap.size xs W'
  | .goto t, _, W' => Stays B C W W' ∧ Ix (.goto t) W.heap.size xs W'
  | .panic _, _, _ => False
  | .outgrown, _, _ => False
section
variable {F : Fence} {n : Nat} {P : Program}
/-- The loop over such an iterator. -/
theorem rangeReads {α : Type} {g : Operand} {p : Tmp} {assign body : Code} {Q : Exit → Act → World → Prop} {a : Act} {w : World}
    (hro : F.round = none) (h1 : 1 ≤ n) {gf : Nat} {lb : Array Value} (hg : a.eval g = .func (.func gf) #[] lb) (hFg : F.fn gf) (eg : ∀ args w, (callFunc gf args).run P w = .ok (.enter gf args) w)
    {C : Nat → Prop} {Rd : α → Value → World → Prop} {S Sp : List α → Prop} {N : Nat} {w0 : World} (hseq : SeqReads F (n - 1) P gf lb C Rd S Sp N w0) (hC : ∀ k, C k → k < w.heap.size) (hb0 : Below w0.heap.size w0 w)
    (hRd : ∀ x v W l (o o' : Obj), Rd x v W → W.heap[l]? = some o → o.isCells = false → Rd x v (W.putObj l o'))
    (I : List α → World → Prop) (Ix : Code → Nat → List α → World → Prop)
    (hI : ∀ pre A B, I pre A → Below w.heap.size A B → I pre B)
    (hIx : ∀ c M pre A B, w.heap.size ≤ M → Ix c M pre A → Outside w.heap.size M A B → Ix c M pre B)
    (h0 : I [] w) (a₁ : Value → Act)
    (hassign : ∀ (l : Nat) (v : Value) (W : World) (K : Act → World → Prop), K (a₁ v) W →
      assign.wpIn (F.inRound l) (n - 1 - 1) P (Exit.then K (fun _ _ _ => False)) { tmps := a.tmps.setIfInBounds p v, defers := [] } W)
    (hbody : ∀ (l : Nat) (pre : List α) (x : α) (v : Value) (W : World), w.heap.size + 2 ≤ W.heap.size → I pre W → Rd x v W → pre.length < N → body.wpIn (F.inRound l) (n - 1 - 1) P (readPost w.heap.size C I Ix (pre ++ [x]) W) (a₁ v) W)
    (hdone : ∀ (D : Nat) (xs : List α) (W : World), w.heap.size ≤ D → S xs → I xs W → W.heap[D]? = some (.deferred (some [])) → Q .normal { a with defers := { target := .collected D, args := #[] } :: a.defers } W)
    (hstop : ∀ (D : Nat) (c : Code) (M : Nat) (pre : List α) (W : World), w.heap.size ≤ D → D < M → Sp pre → Ix c M pre W → W.heap[D]? = some (.deferred (some [])) → c.wpIn F n P Q { a with defers := { target := .collected D, args := #[] } :: a.defers } W) :
    (Code.rangeFunc g #[p] assign body).wpIn F n P Q a w := by
  refine wpIn_rangeFunc fun fn hfn => ?_
  rw [hro]
  have hrec : ∃ rec : LoopState → Option Code → Loop, ∀ st pe, rec st pe = { state := st, pending := pe, fn, tmps := a.tmps, params := #[p], assign, body, defers := w.heap.size } := ⟨_, fun _ _ => rfl⟩
  obtain ⟨rec, hrec⟩ := hrec
  have hst : ∀ st pe, (rec st pe).state = st := fun st pe => by rw [hrec]
  have hpe : ∀ st pe, (rec st pe).pending = pe := fun st pe => by rw [hrec]
  have hto : ∀ st pe st' pe', ({ rec st pe with state := st', pending := pe' } : Loop) = rec st' pe' := fun st pe st' pe' => by rw [hrec, hrec]
  have hto1 : ∀ st pe st', ({ rec st pe with state := st' } : Loop) = rec st' pe := fun st pe st' => by rw [hrec, hrec]
  -- the two blocks that the loop lays
  have hb1 : Below w0.heap.size w0 ((w.alloc (.deferred (some []))).alloc (.loop (rec .ready none))) := (hb0.alloc hb0.size _).alloc (by have := hb0.size; simp; omega) _
  have hbw : Below w.heap.size w ((w.alloc (.deferred (some []))).alloc (.loop (rec .ready none))) := ((Below.refl _ w).alloc (Nat.le_refl _) _).alloc (by simp) _
  have hL : ((w.alloc (.deferred (some []))).alloc (.loop (rec .ready none))).heap[w.heap.size + 1]? = some (.loop (rec .ready none)) := by
    have h := World.alloc_heap_new (w.alloc (.deferred (some []))) (.loop (rec .ready none))
    rwa [World.size_alloc] at h
  have hD : ((w.alloc (.deferred (some []))).alloc (.loop (rec .ready none))).heap[w.heap.size]? = some (.deferred (some [])) := (Below.heap_alloc _ _ _ (by simp)).trans (World.alloc_heap_new w _)
  have hz : ((w.alloc (.deferred (some []))).alloc (.loop (rec .ready none))).heap.size = w.heap.size + 2 := by simp
  have hen := run_enterLoop_outer (P := P) (w := w) fn a.tmps #[p] assign body
  rw [← hrec .ready none] at hen
  obtain ⟨V, hV⟩ : ∃ V, (w.alloc (.deferred (some []))).alloc (.loop (rec .ready none)) = V := ⟨_, rfl⟩
  rw [hV] at hb1 hbw hL hD hz hen
  clear hV
  refine ⟨w.heap.size + 1, [{ target := .collected w.heap.size, args := #[] }], V, { target := .fn (.func gf) lb, args := #[.func (.yield (w.heap.size + 1)) #[] #[]] }, V, gf, #[.func (.yield (w.heap.size + 1)) #[] #[]] ++ lb, V, hen, ?_, ?_, ?_, fun _ => h1, ?_⟩
  · simp only [resolve, hg]
    simp [go_sem]
  · intro f' hf'
    simp [Target.leads] at hf'
    subst hf'
    exact hFg
  · simp [invoke, go_sem, eg]
  -- what holds between two rounds, and once the loop is to be left
  obtain ⟨J, hJ⟩ : ∃ J : List α → World → Prop, ∀ pre W, J pre W ↔ (I pre W ∧ W.heap[w.heap.size + 1]? = some (.loop (rec .ready none)) ∧ W.heap[w.heap.size]? = some (.deferred (some []))) := ⟨_, fun _ _ => Iff.rfl⟩
  obtain ⟨Jx, hJx⟩ : ∃ Jx : Nat → List α → World → Prop, ∀ M pre W, Jx M pre W ↔ (∃ c, Ix c M pre W ∧ W.heap[w.heap.size + 1]? = some (.loop (rec .done (some c))) ∧ W.heap[w.heap.size]? = some (.deferred (some []))) := ⟨_, fun _ _ _ => Iff.rfl⟩
  refine (hseq (w.heap.size + 1) J Jx V hb1 (fun pre A B h k => ?_) (fun M pre A B hM h k => ?_) (fun pre x v W h hzW hx hlen => ?_) ?_).mono ?_
  · obtain ⟨i, hl, hd⟩ := (hJ pre A).1 h
    exact (hJ pre B).2 ⟨hI pre A B i (k.mono (by omega)), (k.block _ (by omega)).trans hl, (k.block _ (by omega)).trans hd⟩
  · obtain ⟨c, i, hl, hd⟩ := (hJx M pre A).1 h
    refine (hJx M pre B).2 ⟨c, hIx c M pre A B (by omega) i ⟨k.os, k.tape, k.output, k.size, fun q hq => k.low q (by omega), k.high⟩, (k.low _ (by omega)).trans hl, (k.low _ (by omega)).trans hd⟩
  · -- one round
    obtain ⟨hi, hl, hd⟩ := (hJ pre W).1 h
    have hlt : w.heap.size + 1 < W.heap.size := (Array.getElem?_eq_some_iff.1 hl).1
    have hy := run_yield (P := P) (args := #[v]) hl (by rw [hrec]; rfl)
    have hbeg := run_beginRound (P := P) hl (hst _ _)
    rw [hto1] at hbeg
    obtain ⟨W2, hW2⟩ : ∃ W2, W.putObj (w.heap.size + 1) (.loop (rec .busy none)) = W2 := ⟨_, rfl⟩
    have hl2 : W2.heap[w.heap.size + 1]? = some (.loop (rec .busy none)) := by rw [← hW2]; exact World.putObj_heap_same hlt
    have hd2 : W2.heap[w.heap.size]? = some (.deferred (some [])) := by rw [← hW2]; exact (World.putObj_heap_other (by omega)).trans hd
    have hx2 : Rd x v W2 := by rw [← hW2]; exact hRd x v W _ _ _ hx hl rfl
    have hi2 : I pre W2 := by
      rw [← hW2]
      exact hI pre W _ hi ⟨rfl, rfl, rfl, by simp, fun k hk => World.putObj_heap_other (by omega)⟩
    have hz2 : W2.heap.size = W.heap.size := by rw [← hW2]; simp
    have hs2 : ∀ k, k ≠ w.heap.size + 1 → W2.heap[k]? = W.heap[k]? := fun k hk => by rw [← hW2]; exact World.putObj_heap_other hk
    have ho2 : W2.os = W.os ∧ W2.tape = W.tape ∧ W2.output = W.output := by rw [← hW2]; exact ⟨rfl, rfl, rfl⟩
    rw [hW2] at hbeg
    clear hW2
    rw [hrec .ready none] at hy
    refine ⟨fn, _, assign, body, hy, roundIn_of_wpIn hfn ?_⟩
    have htm : ((#[p] : Array Tmp).zip #[v]).foldl (fun (t : Array Value) (q : Tmp × Value) => t.setIfInBounds q.1 q.2) a.tmps = a.tmps.setIfInBounds p v := by simp
    refine (show assign.wpIn (F.inRound (w.heap.size + 1)) (n - 1 - 1) P _ { tmps := ((#[p] : Array Tmp).zip #[v]).foldl (fun (t : Array Value) (q : Tmp × Value) => t.setIfInBounds q.1 q.2) a.tmps, defers := [] } W from ?_)
    rw [htm]
    refine hassign _ v W _ ?_
    refine ⟨W2, hbeg, wpIn_mono (hbody _ pre x v W2 (by omega) hi2 hx2 hlen) ?_⟩
    have hend : ∀ (jump : Option Code) (W3 : World), KeepsFrom w.heap.size W2 W3 →
        (Instr.endRound (w.heap.size + 1) jump).run P W3 = .ok (.bool jump.isNone) (W3.putObj (w.heap.size + 1) (.loop (rec (if jump.isNone then .ready else .done) jump))) ∧ w.heap.size + 1 < W3.heap.size ∧
        W3.heap[w.heap.size + 1]? = some (.loop (rec .busy none)) ∧ W3.heap[w.heap.size]? = some (.deferred (some [])) := fun jump W3 hk => by
      have h3 := hk.same _ _ (by omega) hl2 rfl
      have he := run_endRound (P := P) jump h3
      rw [hto] at he
      exact ⟨he, (Array.getElem?_eq_some_iff.1 h3).1, h3, hk.same _ _ (Nat.le_refl _) hd2 rfl⟩
    have leave : ∀ (c : Code) (W3 : World), Stays w.heap.size C W2 W3 → Ix c W2.heap.size (pre ++ [x]) W3 → ∃ v' w', (Instr.endRound (w.heap.size + 1) (some c)).run P W3 = .ok v' w' ∧
        ((Ending.returned v' = .returned (.bool true) ∧ J (pre ++ [x]) w' ∧ Stays V.heap.size C W w') ∨ (Ending.returned v' = .returned (.bool false) ∧ Jx W.heap.size (pre ++ [x]) w' ∧ Stays V.heap.size C W w')) := fun c W3 hk hix => by
      obtain ⟨he, hlt3, h3, h4⟩ := hend (some c) W3 hk.keeps
      refine ⟨_, _, he, .inr ⟨rfl, (hJx _ _ _).2 ⟨c, ?_, World.putObj_heap_same hlt3, (World.putObj_heap_other (by omega)).trans h4⟩, ?_⟩⟩
      · rw [← hz2]
        exact hIx c _ _ _ _ (by omega) hix (Outside.putObj W3 _ (by omega) h3 rfl)
      · refine ⟨hk.os.trans ho2.1, hk.tape.trans ho2.2.1, hk.output.trans ho2.2.2, by rw [World.putObj_size]; have := hk.size; omega, fun k h5 h6 => ?_⟩
        have hne : k ≠ w.heap.size + 1 := by
          rcases h5 with h5 | h5
          · omega
          · have := hC k h5; omega
        rw [World.putObj_heap_other hne]
        exact (hk.block k (h5.imp (fun _ => by omega) id) (by omega)).trans (hs2 k hne)
    rintro e a3 W3 hp
    cases e with
    | normal =>
      obtain ⟨hs3, hi3⟩ := hp
      obtain ⟨he, hlt3, h3, h4⟩ := hend none W3 hs3.keeps
      refine ⟨_, _, he, .inl ⟨rfl, (hJ _ _).2 ⟨?_, World.putObj_heap_same hlt3, (World.putObj_heap_other (by omega)).trans h4⟩, ?_⟩⟩
      · exact hI _ W3 _ hi3 ⟨rfl, rfl, rfl, by simp, fun k hk => World.putObj_heap_other (by omega)⟩
      · refine ⟨hs3.os.trans ho2.1, hs3.tape.trans ho2.2.1, hs3.output.trans ho2.2.2, by rw [World.putObj_size]; have := hs3.size; omega, fun k h5 h6 => ?_⟩
        have hne : k ≠ w.heap.size + 1 := by
          rcases h5 with h5 | h5
          · omega
          · have := hC k h5; omega
        rw [World.putObj_heap_other hne]
        exact (hs3.block k (h5.imp (fun _ => by omega) id) (by omega)).trans (hs2 k hne)
    | ret => exact leave .ret W3 hp.1 hp.2
    | exit id => exact leave (.exit id) W3 hp.1 hp.2
    | goto t => exact leave (.goto t) W3 hp.1 hp.2
    | panic ch => exact hp.elim
    | outgrown => exact hp.elim
  · exact (hJ [] V).2 ⟨hI [] w V h0 hbw, hL, hD⟩
  · -- behind the iterator
    rintro e W2 ⟨⟨v, rfl⟩, (⟨xs, hS, h⟩ | ⟨M, pre, hM, hSp, h⟩)⟩
    · obtain ⟨hi, hl, hd⟩ := (hJ xs W2).1 h
      have he := run_endLoop (P := P) hl (by rw [hst]; simp)
      rw [hpe] at he
      exact ⟨none, _, he, hdone _ xs _ (Nat.le_refl _) hS (hI _ W2 _ hi ⟨rfl, rfl, rfl, by simp, fun k hk => World.putObj_heap_other (by omega)⟩) ((World.putObj_heap_other (by omega)).trans hd)⟩
    · obtain ⟨c, hi, hl, hd⟩ := (hJx M pre W2).1 h
      have he := run_endLoop (P := P) hl (by rw [hst]; simp)
      rw [hpe] at he
      exact ⟨some c, _, he, hstop _ c M pre _ (Nat.le_refl _) (by omega) hSp (hIx c M pre W2 _ (by omega) hi (Outside.putObj W2 _ (by omega) hl rfl)) ((World.putObj_heap_other (by omega)).trans hd)⟩
end
section
variable {P : Program} {ops : Array Oper} {Q : Exit → Act → World → Prop} {md : Region.Mode} {S : World → Prop}
theorem opIn_wide {n i : Nat} {K : Act → World → Prop} {a : Act} {w : World} (hl : ¬ LetsOut Q) (h : wpOp P ops Q i K a w) : wpOpIn Fence.wide n P ops Q i K a w := by
  unfold wpOpIn
  unfold wpOp at h
  split
  · simpa [*] using h
  · rename_i o ho
    simp only [ho] at h
    split
    · rename_i hw
      simp only [hw, if_true] at h
      rcases h with h | ⟨_, h⟩
      · refine ⟨fun _ _ => trivial, ?_⟩
        rw [show Oper.semAt Fence.wide.round a.eval o = execOp a.eval o from rfl]
        unfold Oper.wp at h
        generalize (execOp a.eval o).run P w = r at *
        cases r with
        | ok x w' =>
          cases x <;> first
            | exact h
            | exact False.elim h
            | exact ⟨fun hh => (by cases hh), callsIn_wide.2 h⟩
            | exact ⟨fun hh => (by cases hh), fun c cs _ => let ⟨v, w', r, s⟩ := h c cs; ⟨v, w', r, stepsIn_wide.2 s⟩⟩
        | halt x w' => cases x <;> exact h
      · exact absurd h hl
    · rename_i hw
      simp only [hw] at h
      exact ⟨fun _ _ => trivial, h⟩
theorem anyIn_wide {n : Nat} (hl : ¬ LetsOut Q) : ∀ (fuel : Nat) (listed : Array Bool) (a : Act) (w : World), wpAny P md ops Q fuel listed a w → wpAnyIn Fence.wide n P md ops Q fuel listed a w
  | 0, _, _, _, h => h
  | fuel + 1, _, _, _, h => ⟨h.1, fun i hi => opIn_wide hl (wpOp_mono (fun a' w' h' => anyIn_wide hl fuel _ a' w' h') (h.2 i hi))⟩
/-- Left the normal way alone. -/
def onlyN (Q : Exit → Act → World → Prop) : Exit → Act → World → Prop
  | .normal, a, w => Q .normal a w
  | _, _, _ => False
/-- A region that draws its order, in a function that is fenced but in no round. -/
theorem region_wide {n id : Nat} {L : List Oper} {a : Act} {w : World} (S : World → Prop) (hm : P.follows .mixedOrders = true)
    (hS : S w.drew) (h : S w.drew → wpAnyH P .any L.toArray (onlyN Q) S L.length (Array.replicate L.length false) a w.drew) :
    (Code.region id L.toArray true).wpIn Fence.wide n P Q a w := by
  refine wpIn_mono (Q := onlyN Q) (wpIn_region_any hm (anyIn_wide (fun ⟨_, _, h⟩ => h) _ _ _ _ (wpAny_of_held _ _ _ _ (by simpa using h hS)))) ?_
  intro e a w h
  cases e with
  | normal => exact h
  | _ => exact h.elim
end
end Go.Proofs.Ytkdgbnjpjkhopaa
