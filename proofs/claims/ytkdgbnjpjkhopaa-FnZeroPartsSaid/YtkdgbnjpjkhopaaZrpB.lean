/- Rows, the program's side: all choices, by a closure that calls itself and yields. Written by gen109.py. -/
import Derived.Test.YtkdgbnjpjkhopaaZrpA
import Derived.Test.YtkdgbnjpjkhopaaOrdA
namespace Go.Proofs.Ytkdgbnjpjkhopaa
open Go.RowKit Go.Shelf
set_option linter.unusedVariables false
attribute [local go_sem] Oper.semAt_some
theorem less_top (k o : Nat) : lessN (2 ^ (o + 1) * k + (2 ^ (o + 1) - 1)) (2 ^ o) = 2 ^ (o + 1) * k + (2 ^ o - 1) := by
  have hp := Nat.two_pow_pos o
  have hp1 : 2 ^ (o + 1) = 2 * 2 ^ o := by rw [Nat.pow_succ, Nat.mul_comm]
  refine Nat.eq_of_testBit_eq fun i => ?_
  rw [lessN_bit]
  rw [Nat.testBit_two_pow_mul_add k (by omega) i, Nat.testBit_two_pow_mul_add k (by omega) i, Nat.testBit_two_pow]
  by_cases h : i < o + 1
  · rw [if_pos h, if_pos h, Nat.testBit_two_pow_sub_one, Nat.testBit_two_pow_sub_one]
    by_cases e : o = i
    · subst e; simp
    · have : i < o := by omega
      simp [h, this, e]
  · rw [if_neg h, if_neg h]
    have e : ¬ o = i := by omega
    simp [e]
theorem outside_below {B M : Nat} {W W' : World} (hB : B ≤ W.heap.size) (h : Below W.heap.size W W') : Outside B M W W' :=
  ⟨h.os, h.tape, h.output, h.size, fun k hk => h.block k (by omega), fun k o _ h2 _ => (h.block k (Array.getElem?_eq_some_iff.1 h2).1).trans h2⟩
/-- From block B on, and of the blocks C, what was there is there, but for cells of one type. -/
structure Kept (T : TypeId) (B : Nat) (C : Nat → Prop) (W W' : World) : Prop where
  os : W'.os = W.os
  tape : W'.tape = W.tape
  output : W'.output = W.output
  size : W.heap.size ≤ W'.heap.size
  block : ∀ k, (B ≤ k ∨ C k) → k < W.heap.size → (∀ cur, W.heap[k]? ≠ some (.cells cur T (0, 0))) → W'.heap[k]? = W.heap[k]?
theorem Kept.refl (T : TypeId) (B : Nat) (C : Nat → Prop) (W : World) : Kept T B C W W := ⟨rfl, rfl, rfl, Nat.le_refl _, fun _ _ _ _ => rfl⟩
theorem Kept.trans {T : TypeId} {B : Nat} {C : Nat → Prop} {X Y Z : World} (h : Kept T B C X Y) (k : Kept T B C Y Z) : Kept T B C X Z :=
  ⟨k.os.trans h.os, k.tape.trans h.tape, k.output.trans h.output, Nat.le_trans h.size k.size, fun i h1 h2 h3 => (k.block i h1 (Nat.lt_of_lt_of_le h2 h.size) (fun cur hc => h3 cur ((h.block i h1 h2 h3).symm.trans hc))).trans (h.block i h1 h2 h3)⟩
theorem Kept.below {T : TypeId} {B : Nat} {C : Nat → Prop} {X Y : World} (h : Below X.heap.size X Y) : Kept T B C X Y := ⟨h.os, h.tape, h.output, h.size, fun i _ h2 _ => h.block i h2⟩
theorem Kept.keeps {T : TypeId} {B : Nat} {C : Nat → Prop} {X Y : World} (h : Kept T B C X Y) : KeepsFrom B X Y :=
  ⟨h.size, fun k o h1 h2 h3 => (h.block k (.inl h1) (Array.getElem?_eq_some_iff.1 h2).1 (fun cur hc => by rw [h2] at hc; cases hc; cases h3)).trans h2⟩
theorem Kept.box {T : TypeId} {B : Nat} {C : Nat → Prop} {X Y : World} (h : Kept T B C X Y) {b : Nat} {t : TypeId} {v : Value} (hb : Boxed X b t v) (h1 : B ≤ b ∨ C b) (ht : t ≠ T) : Boxed Y b t v :=
  (h.block b h1 hb.lt (fun cur hc => by rw [show X.heap[b]? = _ from hb] at hc; cases hc; exact ht rfl)).trans hb
theorem Kept.setCell {T : TypeId} {B : Nat} {C : Nat → Prop} (X : World) (p : Addr) (u : Value) (h : p.block < B) (hc : ¬ C p.block) : Kept T B C X (X.setCell p u) :=
  ⟨rfl, rfl, rfl, by simp [World.setCell], fun i h1 _ _ => Below.heap_setCell X p u i (fun e => by
    subst e
    rcases h1 with h1 | h1
    · omega
    · exact hc h1)⟩
theorem Kept.to {T : TypeId} {B B' : Nat} {C C' : Nat → Prop} {X Y : World} (h : Kept T B C X Y) (hB : B ≤ B') (hC : ∀ k, C' k → B ≤ k ∨ C k) : Kept T B' C' X Y :=
  ⟨h.os, h.tape, h.output, h.size, fun k h1 h2 h3 => h.block k (by
    rcases h1 with h1 | h1
    · exact .inl (by omega)
    · exact hC k h1) h2 h3⟩
theorem Kept.trip {T : TypeId} {B : Nat} {C : Nat → Prop} {X Y : World} (h : Kept T B C X Y) {b : Nat} {t : TypeId} {u v x : Value} (hb : Trip X b t u v x) (h1 : B ≤ b ∨ C b) (ht : t ≠ T) : Trip Y b t u v x :=
  (h.block b h1 hb.lt (fun cur hc => by rw [show X.heap[b]? = _ from hb] at hc; cases hc; exact ht rfl)).trans hb
theorem Kept.duo {T : TypeId} {B : Nat} {C : Nat → Prop} {X Y : World} (h : Kept T B C X Y) {b : Nat} {t : TypeId} {u v : Value} (hb : Duo X b t u v) (h1 : B ≤ b ∨ C b) (ht : t ≠ T) : Duo Y b t u v :=
  (h.block b h1 hb.lt (fun cur hc => by rw [show X.heap[b]? = _ from hb] at hc; cases hc; exact ht rfl)).trans hb
theorem Kept.shows {T : TypeId} {B : Nat} {C : Nat → Prop} {X Y : World} (h : Kept T B C X Y) {g len : Nat} {xs : List Int} (hb : Shows X g len xs) (h1 : B ≤ g ∨ C g) (ht : 3 ≠ T) : Shows Y g len xs :=
  hb.same (h.block g h1 hb.lt (fun cur hc => by
    obtain ⟨c2, h2⟩ := hb.blk
    rw [h2] at hc; cases hc; exact ht rfl))
/-- An iterator that lays memory but writes into none that it has laid or has been given. -/
def SeqKeeps {α : Type} (F : Fence) (m : Nat) (P : Program) (g : Nat) (lb : Array Value) (T : TypeId) (C : Nat → Prop) (Rd : α → Value → World → Prop) (S Sp : List α → Prop) (N : Nat) (w : World) : Prop :=
  ∀ (l : Nat) (J Jx : List α → World → Prop) (W : World), Below w.heap.size w W →
    (∀ pre A B, J pre A → Outside W.heap.size W.heap.size A B → J pre B) →
    (∀ pre A B, Jx pre A → Outside W.heap.size W.heap.size A B → Jx pre B) →
    (∀ pre x v W1, J pre W1 → W.heap.size ≤ W1.heap.size → Rd x v W1 → pre.length < N → YieldAt F (m - 1) P l #[v] W1 fun e W' =>
      (e = .returned (.bool true) ∧ J (pre ++ [x]) W' ∧ Kept T W.heap.size C W1 W') ∨ (e = .returned (.bool false) ∧ Jx (pre ++ [x]) W' ∧ Kept T W.heap.size C W1 W')) →
    J [] W →
    CallsIn F m P g (#[.func (.yield l) #[] #[]] ++ lb) W fun e W' => (∃ v, e = .returned v) ∧ ((∃ xs, S xs ∧ J xs W') ∨ (∃ pre, Sp pre ∧ Jx pre W'))
/-- How a round may be left. -/
def keepPost {α : Type} (T : TypeId) (B : Nat) (C : Nat → Prop) (I : List α → World → Prop) (Ix : Code → List α → World → Prop) (xs : List α) (W : World) : Exit → Act → World → Prop
  | .normal, _, W' => Kept T B C W W' ∧ I xs W'
  | .ret, _, W' => Kept T B C W W' ∧ Ix .ret xs W'
  | .exit id, _, W' => Kept T B C W W' ∧ Ix (.exit id) xs W'
  | .goto t, _, W' => Kept T B C W W' ∧ Ix (.goto t) xs W'
  | .panic _, _, _ => False
  | .outgrown, _, _ => False
section
variable {F : Fence} {n : Nat} {P : Program}
/-- The loop over such an iterator, whose variable is laid anew in each round. -/
theorem rangeReadsA {α : Type} {g : Operand} {p : Tmp} {assign body : Code} {Q : Exit → Act → World → Prop} {a : Act} {w : World}
    (hro : F.round = none) (h1 : 1 ≤ n) {gf : Nat} {lb : Array Value} (hg : a.eval g = .func (.func gf) #[] lb) (hFg : F.fn gf) (eg : ∀ args w, (callFunc gf args).run P w = .ok (.enter gf args) w)
    {T : TypeId} {C : Nat → Prop} {Rd : α → Value → World → Prop} {S Sp : List α → Prop} {N : Nat} {w0 : World} (hseq : SeqKeeps F (n - 1) P gf lb T C Rd S Sp N w0) (hC : ∀ k, C k → k < w.heap.size) (hb0 : Below w0.heap.size w0 w)
    (hRd : ∀ x v W l (o o' : Obj), Rd x v W → W.heap[l]? = some o → o.isCells = false → Rd x v (W.putObj l o'))
    (I : List α → World → Prop) (Ix : Code → List α → World → Prop)
    (hI : ∀ pre A B, I pre A → Outside w.heap.size w.heap.size A B → I pre B)
    (hIx : ∀ c pre A B, Ix c pre A → Outside w.heap.size w.heap.size A B → Ix c pre B)
    (hRdB : ∀ x v A B, Rd x v A → Below A.heap.size A B → Rd x v B)
    (h0 : I [] w) (Ax : Value → Act → World → Prop) (hAx : ∀ v a' W l (o o' : Obj), Ax v a' W → W.heap[l]? = some o → o.isCells = false → Ax v a' (W.putObj l o'))
    (hassign : ∀ (l : Nat) (x : α) (v : Value) (W : World) (K : Act → World → Prop), w.heap.size + 2 ≤ W.heap.size → Rd x v W → (∀ a' W', Below W.heap.size W W' → Ax v a' W' → K a' W') →
      assign.wpIn (F.inRound l) (n - 1 - 1) P (Exit.then K (fun _ _ _ => False)) { tmps := a.tmps.setIfInBounds p v, defers := [] } W)
    (hbody : ∀ (l : Nat) (pre : List α) (x : α) (v : Value) (a' : Act) (W : World), w.heap.size + 2 ≤ W.heap.size → I pre W → Rd x v W → Ax v a' W → pre.length < N → body.wpIn (F.inRound l) (n - 1 - 1) P (keepPost T w.heap.size C I Ix (pre ++ [x]) W) a' W)
    (hdone : ∀ (D : Nat) (xs : List α) (W : World), w.heap.size ≤ D → S xs → I xs W → W.heap[D]? = some (.deferred (some [])) → Q .normal { a with defers := { target := .collected D, args := #[] } :: a.defers } W)
    (hstop : ∀ (D : Nat) (c : Code) (pre : List α) (W : World), w.heap.size ≤ D → Sp pre → Ix c pre W → W.heap[D]? = some (.deferred (some [])) → c.wpIn F n P Q { a with defers := { target := .collected D, args := #[] } :: a.defers } W) :
    (Code.rangeFunc g #[p] assign body).wpIn F n P Q a w := by
  refine wpIn_rangeFunc fun fn hfn => ?_
  rw [hro]
  have hrec : ∃ rec : LoopState → Option Code → Loop, ∀ st pe, rec st pe = { state := st, pending := pe, fn, tmps := a.tmps, params := #[p], assign, body, defers := w.heap.size } := ⟨_, fun _ _ => rfl⟩
  obtain ⟨rec, hrec⟩ := hrec
  have hst : ∀ st pe, (rec st pe).state = st := fun st pe => by rw [hrec]
  have hpe : ∀ st pe, (rec st pe).pending = pe := fun st pe => by rw [hrec]
  have hto : ∀ st pe st' pe', ({ rec st pe with state := st', pending := pe' } : Loop) = rec st' pe' := fun st pe st' pe' => by rw [hrec, hrec]
  have hto1 : ∀ st pe st', ({ rec st pe with state := st' } : Loop) = rec st' pe := fun st pe st' => by rw [hrec, hrec]
  -- the two blocks that the loop lays
  have hb1 : Below w0.heap.size w0 ((w.alloc (.deferred (some []))).alloc (.loop (rec .ready none))) := (hb0.alloc hb0.size _).alloc (by have := hb0.size; simp; omega) _
  have hbw : Below w.heap.size w ((w.alloc (.deferred (some []))).alloc (.loop (rec .ready none))) := ((Below.refl _ w).alloc (Nat.le_refl _) _).alloc (by simp) _
  have hL : ((w.alloc (.deferred (some []))).alloc (.loop (rec .ready none))).heap[w.heap.size + 1]? = some (.loop (rec .ready none)) := by
    have h := World.alloc_heap_new (w.alloc (.deferred (some []))) (.loop (rec .ready none))
    rwa [World.size_alloc] at h
  have hD : ((w.alloc (.deferred (some []))).alloc (.loop (rec .ready none))).heap[w.heap.size]? = some (.deferred (some [])) := (Below.heap_alloc _ _ _ (by simp)).trans (World.alloc_heap_new w _)
  have hz : ((w.alloc (.deferred (some []))).alloc (.loop (rec .ready none))).heap.size = w.heap.size + 2 := by simp
  have hen := run_enterLoop_outer (P := P) (w := w) fn a.tmps #[p] assign body
  rw [← hrec .ready none] at hen
  obtain ⟨V, hV⟩ : ∃ V, (w.alloc (.deferred (some []))).alloc (.loop (rec .ready none)) = V := ⟨_, rfl⟩
  rw [hV] at hb1 hbw hL hD hz hen
  clear hV
  refine ⟨w.heap.size + 1, [{ target := .collected w.heap.size, args := #[] }], V, { target := .fn (.func gf) lb, args := #[.func (.yield (w.heap.size + 1)) #[] #[]] }, V, gf, #[.func (.yield (w.heap.size + 1)) #[] #[]] ++ lb, V, hen, ?_, ?_, ?_, fun _ => h1, ?_⟩
  · simp only [resolve, hg]
    simp [go_sem]
  · intro f' hf'
    simp [Target.leads] at hf'
    subst hf'
    exact hFg
  · simp [invoke, go_sem, eg]
  -- what holds between two rounds, and once the loop is to be left
  obtain ⟨J, hJ⟩ : ∃ J : List α → World → Prop, ∀ pre W, J pre W ↔ (I pre W ∧ W.heap[w.heap.size + 1]? = some (.loop (rec .ready none)) ∧ W.heap[w.heap.size]? = some (.deferred (some []))) := ⟨_, fun _ _ => Iff.rfl⟩
  obtain ⟨Jx, hJx⟩ : ∃ Jx : List α → World → Prop, ∀ pre W, Jx pre W ↔ (∃ c, Ix c pre W ∧ W.heap[w.heap.size + 1]? = some (.loop (rec .done (some c))) ∧ W.heap[w.heap.size]? = some (.deferred (some []))) := ⟨_, fun _ _ => Iff.rfl⟩
  refine (hseq (w.heap.size + 1) J Jx V hb1 (fun pre A B h k => ?_) (fun pre A B h k => ?_) (fun pre x v W h hzW hx hlen => ?_) ?_).mono ?_
  · obtain ⟨i, hl, hd⟩ := (hJ pre A).1 h
    exact (hJ pre B).2 ⟨hI pre A B i ⟨k.os, k.tape, k.output, k.size, fun q hq => k.low q (by omega), fun q o h1 h2 h3 => by
      by_cases hq : q < V.heap.size
      · exact (k.low q hq).trans h2
      · exact k.high q o (by omega) h2 h3⟩, (k.low _ (by omega)).trans hl, (k.low _ (by omega)).trans hd⟩
  · obtain ⟨c, i, hl, hd⟩ := (hJx pre A).1 h
    exact (hJx pre B).2 ⟨c, hIx c pre A B i ⟨k.os, k.tape, k.output, k.size, fun q hq => k.low q (by omega), fun q o h1 h2 h3 => by
      by_cases hq : q < V.heap.size
      · exact (k.low q hq).trans h2
      · exact k.high q o (by omega) h2 h3⟩, (k.low _ (by omega)).trans hl, (k.low _ (by omega)).trans hd⟩
  · -- one round
    obtain ⟨hi0, hl0, hd0⟩ := (hJ pre W).1 h
    have hlt0 : w.heap.size + 1 < W.heap.size := (Array.getElem?_eq_some_iff.1 hl0).1
    have hy := run_yield (P := P) (args := #[v]) hl0 (by rw [hrec]; rfl)
    rw [hrec .ready none] at hy
    refine ⟨fn, _, assign, body, hy, roundIn_of_wpIn hfn ?_⟩
    have htm : ((#[p] : Array Tmp).zip #[v]).foldl (fun (t : Array Value) (q : Tmp × Value) => t.setIfInBounds q.1 q.2) a.tmps = a.tmps.setIfInBounds p v := by simp
    refine (show assign.wpIn (F.inRound (w.heap.size + 1)) (n - 1 - 1) P _ { tmps := ((#[p] : Array Tmp).zip #[v]).foldl (fun (t : Array Value) (q : Tmp × Value) => t.setIfInBounds q.1 q.2) a.tmps, defers := [] } W from ?_)
    rw [htm]
    refine hassign _ x v W _ (by omega) hx (fun a1 Wa hba hax => ?_)
    have hi : I pre Wa := hI pre W Wa hi0 (outside_below (by omega) hba)
    have hl : Wa.heap[w.heap.size + 1]? = some (.loop (rec .ready none)) := (hba.block _ (by omega)).trans hl0
    have hd : Wa.heap[w.heap.size]? = some (.deferred (some [])) := (hba.block _ (by omega)).trans hd0
    have hxa : Rd x v Wa := hRdB x v W Wa hx hba
    have hza := hba.size
    have hlt : w.heap.size + 1 < Wa.heap.size := by omega
    have hbeg := run_beginRound (P := P) hl (hst _ _)
    rw [hto1] at hbeg
    obtain ⟨W2, hW2⟩ : ∃ W2, Wa.putObj (w.heap.size + 1) (.loop (rec .busy none)) = W2 := ⟨_, rfl⟩
    have hl2 : W2.heap[w.heap.size + 1]? = some (.loop (rec .busy none)) := by rw [← hW2]; exact World.putObj_heap_same hlt
    have hd2 : W2.heap[w.heap.size]? = some (.deferred (some [])) := by rw [← hW2]; exact (World.putObj_heap_other (by omega)).trans hd
    have hx2 : Rd x v W2 := by rw [← hW2]; exact hRd x v Wa _ _ _ hxa hl rfl
    have hax2 : Ax v a1 W2 := by rw [← hW2]; exact hAx v a1 Wa _ _ _ hax hl rfl
    have hi2 : I pre W2 := by
      rw [← hW2]
      exact hI pre Wa _ hi (Outside.putObj Wa _ (by omega) hl rfl)
    have hz2 : W2.heap.size = Wa.heap.size := by rw [← hW2]; simp
    have hs2 : ∀ k, k ≠ w.heap.size + 1 → k < W.heap.size → W2.heap[k]? = W.heap[k]? := fun k hk hkw => by rw [← hW2]; exact (World.putObj_heap_other hk).trans (hba.block k hkw)
    have ho2 : W2.os = W.os ∧ W2.tape = W.tape ∧ W2.output = W.output := by rw [← hW2]; exact ⟨hba.os, hba.tape, hba.output⟩
    rw [hW2] at hbeg
    clear hW2
    refine ⟨W2, hbeg, wpIn_mono (hbody _ pre x v a1 W2 (by omega) hi2 hx2 hax2 hlen) ?_⟩
    have hend : ∀ (jump : Option Code) (W3 : World), KeepsFrom w.heap.size W2 W3 →
        (Instr.endRound (w.heap.size + 1) jump).run P W3 = .ok (.bool jump.isNone) (W3.putObj (w.heap.size + 1) (.loop (rec (if jump.isNone then .ready else .done) jump))) ∧ w.heap.size + 1 < W3.heap.size ∧
        W3.heap[w.heap.size + 1]? = some (.loop (rec .busy none)) ∧ W3.heap[w.heap.size]? = some (.deferred (some [])) := fun jump W3 hk => by
      have h3 := hk.same _ _ (by omega) hl2 rfl
      have he := run_endRound (P := P) jump h3
      rw [hto] at he
      exact ⟨he, (Array.getElem?_eq_some_iff.1 h3).1, h3, hk.same _ _ (Nat.le_refl _) hd2 rfl⟩
    have leave : ∀ (c : Code) (W3 : World), Kept T w.heap.size C W2 W3 → Ix c (pre ++ [x]) W3 → ∃ v' w', (Instr.endRound (w.heap.size + 1) (some c)).run P W3 = .ok v' w' ∧
        ((Ending.returned v' = .returned (.bool true) ∧ J (pre ++ [x]) w' ∧ Kept T V.heap.size C W w') ∨ (Ending.returned v' = .returned (.bool false) ∧ Jx (pre ++ [x]) w' ∧ Kept T V.heap.size C W w')) := fun c W3 hk hix => by
      obtain ⟨he, hlt3, h3, h4⟩ := hend (some c) W3 hk.keeps
      refine ⟨_, _, he, .inr ⟨rfl, (hJx _ _).2 ⟨c, ?_, World.putObj_heap_same hlt3, (World.putObj_heap_other (by omega)).trans h4⟩, ?_⟩⟩
      · exact hIx c _ _ _ hix (Outside.putObj W3 _ (by omega) h3 rfl)
      · refine ⟨hk.os.trans ho2.1, hk.tape.trans ho2.2.1, hk.output.trans ho2.2.2, by rw [World.putObj_size]; have := hk.size; omega, fun k h5 h6 h7 => ?_⟩
        have hne : k ≠ w.heap.size + 1 := by
          rcases h5 with h5 | h5
          · omega
          · have := hC k h5; omega
        rw [World.putObj_heap_other hne]
        exact (hk.block k (h5.imp (fun _ => by omega) id) (by omega) (fun cur hc => h7 cur ((hs2 k hne h6).symm.trans hc))).trans (hs2 k hne h6)
    rintro e a3 W3 hp
    cases e with
    | normal =>
      obtain ⟨hs3, hi3⟩ := hp
      obtain ⟨he, hlt3, h3, h4⟩ := hend none W3 hs3.keeps
      refine ⟨_, _, he, .inl ⟨rfl, (hJ _ _).2 ⟨?_, World.putObj_heap_same hlt3, (World.putObj_heap_other (by omega)).trans h4⟩, ?_⟩⟩
      · exact hI _ W3 _ hi3 (Outside.putObj W3 _ (by omega) h3 rfl)
      · refine ⟨hs3.os.trans ho2.1, hs3.tape.trans ho2.2.1, hs3.output.trans ho2.2.2, by rw [World.putObj_size]; have := hs3.size; omega, fun k h5 h6 h7 => ?_⟩
        have hne : k ≠ w.heap.size + 1 := by
          rcases h5 with h5 | h5
          · omega
          · have := hC k h5; omega
        rw [World.putObj_heap_other hne]
        exact (hs3.block k (h5.imp (fun _ => by omega) id) (by omega) (fun cur hc => h7 cur ((hs2 k hne h6).symm.trans hc))).trans (hs2 k hne h6)
    | ret => exact leave .ret W3 hp.1 hp.2
    | exit id => exact leave (.exit id) W3 hp.1 hp.2
    | goto t => exact leave (.goto t) W3 hp.1 hp.2
    | panic ch => exact hp.elim
    | outgrown => exact hp.elim
  · exact (hJ [] V).2 ⟨hI [] w V h0 (outside_below (Nat.le_refl _) hbw), hL, hD⟩
  · -- behind the iterator
    rintro e W2 ⟨⟨v, rfl⟩, (⟨xs, hS, h⟩ | ⟨pre, hSp, h⟩)⟩
    · obtain ⟨hi, hl, hd⟩ := (hJ xs W2).1 h
      have he := run_endLoop (P := P) hl (by rw [hst]; simp)
      rw [hpe] at he
      exact ⟨none, _, he, hdone _ xs _ (Nat.le_refl _) hS (hI _ W2 _ hi (Outside.putObj W2 _ (by omega) hl rfl)) ((World.putObj_heap_other (by omega)).trans hd)⟩
    · obtain ⟨c, hi, hl, hd⟩ := (hJx pre W2).1 h
      have he := run_endLoop (P := P) hl (by rw [hst]; simp)
      rw [hpe] at he
      exact ⟨some c, _, he, hstop _ c pre _ (Nat.le_refl _) hSp (hIx c pre W2 _ hi (Outside.putObj W2 _ (by omega) hl rfl)) ((World.putObj_heap_other (by omega)).trans hd)⟩
end
/-- v reads as a choice of a row, with its values. -/
def RdC (n : Nat) (xs : List Int) (x : Nat × List Int) (v : Value) (W : World) : Prop := x ∈ allCh xs ∧ ∃ g cap, v = .agg #[.int .i64 (n:Int), .slice (some ⟨g, 0, none⟩) x.2.length cap, .int .i64 ((x.1 : Nat) : Int)] ∧ Shows W g x.2.length x.2
/-- How the search ends. -/
def ChPost (B : Nat) (C : Nat → Prop) (J : List (Nat × List Int) → World → Prop) (Jx : List (Nat × List Int) → World → Prop) (pre0 ys : List (Nat × List Int)) (W : World) (e : Ending) (W' : World) : Prop :=
  Kept 45 B C W W' ∧ ((e = .returned (.bool true) ∧ J (pre0 ++ ys) W') ∨ (e = .returned (.bool false) ∧ ∃ q, q <+: ys ∧ Jx (pre0 ++ q) W'))
def ChOk (n l B : Nat) (C : Nat → Prop) (By Bc N : Nat) (xs : List Int) (o : Nat) (J : List (Nat × List Int) → World → Prop) (Jx : List (Nat × List Int) → World → Prop) : Prop :=
  ∀ (k g cap len : Nat) (T : List Int) (pre0 : List (Nat × List Int)) (W : World), o ≤ xs.length → len = o + T.length → len ≤ cap → len ≤ 12 → 2 ^ o * k + 2 ^ o ≤ 4096 → Shows W g len (xs.take o ++ T) → (B ≤ g ∨ C g) → B ≤ W.heap.size →
    Boxed W By 76 (.func (.yield l) #[] #[]) → Boxed W Bc 77 (.func (.func 47) #[] #[.pointer (some ⟨By, 0, none⟩), .pointer (some ⟨Bc, 0, none⟩)]) → J pre0 W → pre0.length + 2 ^ o ≤ N → (∀ y, y ∈ chO xs o (2 ^ o * k) T → y ∈ allCh xs) →
    Calls Try.prog 47 #[.agg #[.int .i64 (n:Int), .slice (some ⟨g, 0, none⟩) len cap, .int .i64 ((2 ^ o * k + (2 ^ o - 1) : Nat) : Int)], .int .i64 ((o : Nat) : Int), .pointer (some ⟨By, 0, none⟩), .pointer (some ⟨Bc, 0, none⟩)] W (ChPost B C J Jx pre0 (chO xs o (2 ^ o * k) T) W)
set_option maxRecDepth 100000 in
set_option maxHeartbeats 4000000 in
theorem choose_zero (n l B : Nat) (C : Nat → Prop) (By Bc N : Nat) (xs : List Int) (J : List (Nat × List Int) → World → Prop) (Jx : List (Nat × List Int) → World → Prop)
    (hJ : ∀ pre X Y, J pre X → Outside B B X Y → J pre Y)
    (hY : ∀ pre x v W1, J pre W1 → B ≤ W1.heap.size → RdC n xs x v W1 → pre.length < N → YieldAt Fence.wide 8 Try.prog l #[v] W1 fun e W' =>
      (e = .returned (.bool true) ∧ J (pre ++ [x]) W' ∧ Kept 45 B C W1 W') ∨ (e = .returned (.bool false) ∧ Jx (pre ++ [x]) W' ∧ Kept 45 B C W1 W')) :
    ChOk n l B C By Bc N xs 0 J Jx := by
  intro k g cap len T pre0 W ho hlen hcap h12 hk hS hg hBW bY bC hJ0 hN hmem
  have hx : 2 ^ 0 * k + (2 ^ 0 - 1) = k := by omega
  have hx1 : 2 ^ 0 * k = k := by omega
  rw [hx]
  rw [hx1] at hmem ⊢
  have hT : xs.take 0 ++ T = T := rfl
  rw [hT] at hS
  obtain rfl : len = T.length := by omega
  have hB1 : Below W.heap.size W (W.alloc (.cells #[.int .i64 (n:Int), .slice (some ⟨g, 0, none⟩) T.length cap, .int .i64 ((k : Nat) : Int)] 74)) := (Below.refl _ W).alloc (Nat.le_refl _) _
  have hT1 := Trip.new W 74 (.int .i64 (n:Int)) (.slice (some ⟨g, 0, none⟩) T.length cap) (.int .i64 ((k : Nat) : Int))
  have hZ1 : (W.alloc (.cells #[.int .i64 (n:Int), .slice (some ⟨g, 0, none⟩) T.length cap, .int .i64 ((k : Nat) : Int)] 74)).heap.size = W.heap.size + 1 := by simp
  obtain ⟨W1, hW1⟩ : ∃ W1, W.alloc (.cells #[.int .i64 (n:Int), .slice (some ⟨g, 0, none⟩) T.length cap, .int .i64 ((k : Nat) : Int)] 74) = W1 := ⟨_, rfl⟩
  rw [hW1] at hB1 hT1 hZ1
  have c0 := hT1.cell0
  have c1 := hT1.cell1
  have c2 := hT1.cell2
  have cy := (boxed_below bY bY.lt hB1).cell
  obtain ⟨fn, tmps, assign, body, hy, hRn⟩ := hY pre0 (k, T) (.agg #[.int .i64 (n:Int), .slice (some ⟨g, 0, none⟩) T.length cap, .int .i64 ((k : Nat) : Int)]) W1 (hJ _ _ _ hJ0 (outside_below hBW hB1)) (by omega) ⟨hmem (k, T) (by simp [chO]), g, cap, rfl, hS.belowAll hB1⟩ (by have : pre0.length + 1 ≤ N := hN; omega)
  have HS1 := Lib.hid (Kept.below (T := 45) (B := B) (C := C) hB1)
  clear hY hJ0 hN hmem hS bY bC hT1 hB1 hJ hx hx1 hT hk hg ho hlen h12 hcap
  refine (callsIn_wide (n := 9)).1 ?_
  refine callsIn_of_wp Try.func47 rfl trivial ?_ rfl
  simp only [Try.ntmps47, List.size_toArray, List.length_cons, List.length_nil, Nat.reduceAdd, Nat.reduceSub, Array.replicate_succ, Array.replicate_zero, List.push_toArray, List.append_toArray, List.nil_append, List.cons_append]
  gi_wp2
  refine hRn.mono ?_
  rintro e W3 (⟨rfl, hJ3, hS3⟩ | ⟨rfl, hJ3, hS3⟩)
  · have HJ3 := Lib.hid hJ3
    have HS3 := Lib.hid (HS1.out.trans hS3)
    clear hJ3 hS3
    gi_wp2
    refine bodyPost_ret (v := .bool true) ?_ rfl ?_
    · simp [results, Try.results47, go_sem]
    · exact ⟨HS3.out, .inl ⟨rfl, HJ3.out⟩⟩
  · have HJ3 := Lib.hid hJ3
    have HS3 := Lib.hid (HS1.out.trans hS3)
    clear hJ3 hS3
    gi_wp2
    refine bodyPost_ret (v := .bool false) ?_ rfl ?_
    · simp [results, Try.results47, go_sem]
    · exact ⟨HS3.out, .inr ⟨rfl, [(k, T)], List.prefix_refl _, HJ3.out⟩⟩
theorem ch_step (xs : List Int) (o hi : Nat) (T : List Int) : chO xs (o + 1) hi T = chO xs o hi T ++ chO xs o (hi + 2 ^ o) (xs.getD o 0 :: T) := rfl
theorem take_at (xs : List Int) (o : Nat) (T : List Int) (h : o < xs.length) : xs.take (o + 1) ++ T = xs.take o ++ xs.getD o 0 :: T := by
  rw [List.take_add_one, List.getElem?_eq_getElem h, List.append_assoc, List.getD_eq_getElem?_getD, List.getElem?_eq_getElem h]
  rfl
theorem ChPost.low {B : Nat} {C : Nat → Prop} {J : List (Nat × List Int) → World → Prop} {Jx : List (Nat × List Int) → World → Prop} {pre0 a b : List (Nat × List Int)} {W W1 W2 : World} (h1 : Kept 45 B C W W1) (h2 : Kept 45 B C W1 W2) (h3 : ∃ q, q <+: a ∧ Jx (pre0 ++ q) W2) : ChPost B C J Jx pre0 (a ++ b) W (.returned (.bool false)) W2 := by
  obtain ⟨q, hq, hj⟩ := h3
  exact ⟨h1.trans h2, .inr ⟨rfl, q, hq.trans (List.prefix_append _ _), hj⟩⟩
theorem ChPost.high {B : Nat} {C : Nat → Prop} {J : List (Nat × List Int) → World → Prop} {Jx : List (Nat × List Int) → World → Prop} {pre0 a b : List (Nat × List Int)} {W W1 W2 : World} {e : Ending} (h1 : Kept 45 B C W W1) (h2 : ChPost B C J Jx (pre0 ++ a) b W1 e W2) : ChPost B C J Jx pre0 (a ++ b) W e W2 := by
  obtain ⟨hs, h | ⟨he, q, hq, hj⟩⟩ := h2
  · exact ⟨h1.trans hs, .inl ⟨h.1, by rw [← List.append_assoc]; exact h.2⟩⟩
  · refine ⟨h1.trans hs, .inr ⟨he, a ++ q, ?_, by rw [← List.append_assoc]; exact hj⟩⟩
    exact (List.prefix_append_right_inj a).2 hq
set_option maxRecDepth 100000 in
set_option maxHeartbeats 8000000 in
theorem choose_succ (n l B : Nat) (C : Nat → Prop) (By Bc N o : Nat) (xs : List Int) (J : List (Nat × List Int) → World → Prop) (Jx : List (Nat × List Int) → World → Prop)
    (hJ : ∀ pre X Y, J pre X → Outside B B X Y → J pre Y) (hBy : B ≤ By) (hBc : B ≤ Bc) (hx12 : xs.length ≤ 12)
    (hIH : ChOk n l B C By Bc N xs o J Jx) : ChOk n l B C By Bc N xs (o + 1) J Jx := by
  intro k g cap len T pre0 W ho hlen hcap h12 hk hS hg hBW bY bC hJ0 hN hmem
  have hmx : Try.prog.follows .mixedOrders = true := by kernel_rfl
  have hp := Nat.two_pow_pos o
  have hp1 : 2 ^ (o + 1) = 2 * 2 ^ o := by rw [Nat.pow_succ, Nat.mul_comm]
  rw [take_at xs o T (by omega)] at hS
  have hlow : 2 ^ (o + 1) * k = 2 ^ o * (2 * k) := by rw [hp1, Nat.mul_comm 2, Nat.mul_assoc]
  have hhigh : 2 ^ (o + 1) * k + 2 ^ o = 2 ^ o * (2 * k + 1) := by rw [hlow, Nat.mul_add, Nat.mul_one]
  have htk : (xs.take o).length = o := by rw [List.length_take]; omega
  rw [ch_step] at hmem ⊢
  have hlh : (chO xs o (2 ^ (o + 1) * k) T).length = 2 ^ o := chO_len xs o _ T
  -- the search for the choices without the last position
  have HW := Lib.hid (fun (V : World) (hb : Below W.heap.size W V) => without_any n g o T.length cap (2 ^ (o + 1) * k + (2 ^ (o + 1) - 1)) (xs.take o) T (xs.getD o 0) V (by rw [show o + 1 + T.length = len by omega]; exact hS.belowAll hb) htk (by omega) (by omega) (by omega))
  have HL : Hid (∀ (g' c' : Nat) (V : World), Below W.heap.size W V → Shows V g' (o + T.length) (xs.take o ++ T) → o + T.length ≤ c' → (g' = g ∨ W.heap.size ≤ g') →
      Calls Try.prog 47 #[.agg #[.int .i64 (n:Int), .slice (some ⟨g', 0, none⟩) (o + T.length) c', .int .i64 ((lessN (2 ^ (o + 1) * k + (2 ^ (o + 1) - 1)) (2 ^ o) : Nat) : Int)], .int .i64 ((o : Nat) : Int), .pointer (some ⟨By, 0, none⟩), .pointer (some ⟨Bc, 0, none⟩)] V (ChPost B C J Jx pre0 (chO xs o (2 ^ (o + 1) * k) T) V)) := Lib.hid (fun g' c' V hb hV hc hgg => by
    have h := hIH (2 * k) g' c' (o + T.length) T pre0 V (by omega) rfl hc (by omega) (by rw [← hlow]; omega) hV (hgg.elim (fun e => e ▸ hg) (fun e => .inl (Nat.le_trans hBW e))) (Nat.le_trans hBW hb.size) (boxed_below bY bY.lt hb) (boxed_below bC bC.lt hb) (hJ _ _ _ hJ0 (outside_below hBW hb)) (by omega) (by rw [← hlow]; exact fun y hy => hmem y (List.mem_append_left _ hy))
    rw [← hlow] at h
    rw [less_top]
    exact h)
  have HH : Hid (∀ (V : World), Kept 45 B C W V → Shows V g len (xs.take o ++ xs.getD o 0 :: T) → J (pre0 ++ chO xs o (2 ^ (o + 1) * k) T) V → B ≤ V.heap.size → Boxed V By 76 (.func (.yield l) #[] #[]) → Boxed V Bc 77 (.func (.func 47) #[] #[.pointer (some ⟨By, 0, none⟩), .pointer (some ⟨Bc, 0, none⟩)]) →
      Calls Try.prog 47 #[.agg #[.int .i64 (n:Int), .slice (some ⟨g, 0, none⟩) len cap, .int .i64 ((2 ^ (o + 1) * k + (2 ^ (o + 1) - 1) : Nat) : Int)], .int .i64 ((o : Nat) : Int), .pointer (some ⟨By, 0, none⟩), .pointer (some ⟨Bc, 0, none⟩)] V (ChPost B C J Jx (pre0 ++ chO xs o (2 ^ (o + 1) * k) T) (chO xs o (2 ^ (o + 1) * k + 2 ^ o) (xs.getD o 0 :: T)) V)) := Lib.hid (fun V hb hV hj hz hy hc => by
    have h := hIH (2 * k + 1) g cap len (xs.getD o 0 :: T) (pre0 ++ chO xs o (2 ^ (o + 1) * k) T) V (by omega) (by rw [List.length_cons]; omega) hcap h12 (by rw [← hhigh]; omega) hV hg hz hy hc hj (by rw [List.length_append, hlh]; omega) (by rw [← hhigh]; exact fun y hy => hmem y (List.mem_append_right _ hy))
    rw [← hhigh] at h
    rw [show 2 ^ (o + 1) * k + (2 ^ (o + 1) - 1) = 2 ^ (o + 1) * k + 2 ^ o + (2 ^ o - 1) by omega]
    exact h)
  have HG : Hid ((B ≤ g ∨ C g) ∧ g < W.heap.size) := Lib.hid ⟨hg, hS.lt⟩
  have HS := Lib.hid hS
  have HlT : Hid (o + 1 + T.length = len) := Lib.hid (by omega)
  generalize chO xs o (2 ^ (o + 1) * k) T = ys1 at *
  generalize chO xs o (2 ^ (o + 1) * k + 2 ^ o) (xs.getD o 0 :: T) = ys2 at *
  generalize 2 ^ (o + 1) * k + (2 ^ (o + 1) - 1) = X at *
  generalize lessN X (2 ^ o) = Y at *
  have ho12 : o < 12 := by omega
  clear hIH hJ hmem hlow hhigh hp1 hp htk hk hS hN hlh hJ0 hg hlen
  have e1 : (((o + 1 : Nat) : Int) == 0) = false := by
    rw [beq_eq_false_iff_ne]; omega
  have hwo : IntKind.i64.wrap (((o + 1 : Nat) : Int) - 1) = ((o : Nat) : Int) := by rw [IntWalk.i64_in _ ⟨by omega, by omega⟩]; omega
  have hwo2 : wrap64 (((o + 1 : Nat) : Int) - 1) = ((o : Nat) : Int) := by rw [IntWalk.wrap64_in _ (by omega)]; omega
  have hB1 : Below W.heap.size W (W.alloc (.cells #[.int .i64 (n:Int), .slice (some ⟨g, 0, none⟩) len cap, .int .i64 ((X : Nat) : Int)] 74)) := (Below.refl _ W).alloc (Nat.le_refl _) _
  have hT1 := Trip.new W 74 (.int .i64 (n:Int)) (.slice (some ⟨g, 0, none⟩) len cap) (.int .i64 ((X : Nat) : Int))
  have hC1 := boxed_below bC bC.lt hB1
  have hY1 := boxed_below bY bY.lt hB1
  have hZ1 : (W.alloc (.cells #[.int .i64 (n:Int), .slice (some ⟨g, 0, none⟩) len cap, .int .i64 ((X : Nat) : Int)] 74)).heap.size = W.heap.size + 1 := by simp
  obtain ⟨q, hq⟩ : ∃ q : Nat, ((o + 1 : Nat) : Int) = (q : Int) := ⟨o + 1, rfl⟩
  rw [hq] at e1 hwo hwo2
  rw [hq]
  clear hq
  go_enter Try.func47, Try.ntmps47
  go_wp2
  obtain ⟨W1, hW1⟩ : ∃ W1, W.alloc (.cells #[.int .i64 (n:Int), .slice (some ⟨g, 0, none⟩) len cap, .int .i64 ((X : Nat) : Int)] 74) = W1 := ⟨_, rfl⟩
  try simp only [hW1]
  rw [hW1] at hB1 hT1 hC1 hY1 hZ1
  clear hW1
  have hA0 : Boxed W1.drew Bc 77 (.func (.func 47) #[] #[.pointer (some ⟨By, 0, none⟩), .pointer (some ⟨Bc, 0, none⟩)]) ∧ Trip W1.drew W.heap.size 74 (.int .i64 (n:Int)) (.slice (some ⟨g, 0, none⟩) len cap) (.int .i64 ((X : Nat) : Int)) := ⟨hC1, hT1⟩
  have hY2 : Boxed W1.drew By 76 (.func (.yield l) #[] #[]) := hY1
  have hB2 : Below W.heap.size W W1.drew := hB1.drew
  have hZ2 : W1.drew.heap.size = W.heap.size + 1 := hZ1
  refine wp_region_held_drew (S := fun W9 => Boxed W9 Bc 77 (.func (.func 47) #[] #[.pointer (some ⟨By, 0, none⟩), .pointer (some ⟨Bc, 0, none⟩)]) ∧ Trip W9 W.heap.size 74 (.int .i64 (n:Int)) (.slice (some ⟨g, 0, none⟩) len cap) (.int .i64 ((X : Nat) : Int))) hmx hA0 (fun _ => ?_)
  clear hB1 hT1 hC1 hY1 hZ1 bY bC
  generalize W1.drew = W4 at *
  refine take1 0 (v := ?_) rfl (by kernel_rfl) (by kernel_rfl) (by kernel_rfl) (fun _ _ _ h => h) (by rfl) ?_ hA0 ?_
  rotate_left
  · intro W9 hA
    obtain ⟨hq, hp⟩ := hA
    have c0 := hp.cell0
    have c1 := hp.cell1
    have c2 := hp.cell2
    have c3 := hq.cell
    clear hq hp
    go_simp
    try with_reducible rfl
  try simp only [Act.put, List.setIfInBounds_toArray, List.set_cons_zero, List.set_cons_succ]
  refine take1 1 (v := ?_) rfl (by kernel_rfl) (by kernel_rfl) (by kernel_rfl) (fun _ _ _ h => h) (by rfl) ?_ hA0 ?_
  rotate_left
  · intro W9 hA
    obtain ⟨hq, hp⟩ := hA
    have c0 := hp.cell0
    have c1 := hp.cell1
    have c2 := hp.cell2
    have c3 := hq.cell
    clear hq hp
    go_simp
    try with_reducible rfl
  try simp only [Act.put, List.setIfInBounds_toArray, List.set_cons_zero, List.set_cons_succ]
  refine take1 2 (v := ?_) rfl (by kernel_rfl) (by kernel_rfl) (by kernel_rfl) (fun _ _ _ h => h) (by rfl) ?_ hA0 ?_
  rotate_left
  · intro W9 hA
    obtain ⟨hq, hp⟩ := hA
    have c0 := hp.cell0
    have c1 := hp.cell1
    have c2 := hp.cell2
    have c3 := hq.cell
    clear hq hp
    go_simp
    try with_reducible rfl
  try simp only [Act.put, List.setIfInBounds_toArray, List.set_cons_zero, List.set_cons_succ]
  refine take1 4 (v := ?_) rfl (by kernel_rfl) (by kernel_rfl) (by kernel_rfl) (fun _ _ _ h => h) (by rfl) ?_ hA0 ?_
  rotate_left
  · intro W9 hA
    obtain ⟨hq, hp⟩ := hA
    have c0 := hp.cell0
    have c1 := hp.cell1
    have c2 := hp.cell2
    have c3 := hq.cell
    clear hq hp
    go_simp
    try with_reducible rfl
  try simp only [Act.put, List.setIfInBounds_toArray, List.set_cons_zero, List.set_cons_succ]
  refine step1 3 (by kernel_rfl) rfl (fun K hK => ?_)
  go_simp
  have hWo := HW.out W4 hB2
  rw [HlT.out] at hWo
  refine hWo.mono ?_
  rintro e W5 ⟨g', c', rfl, hb5, hS5, hc5, hg5⟩
  have hA5 : Boxed W5 Bc 77 (.func (.func 47) #[] #[.pointer (some ⟨By, 0, none⟩), .pointer (some ⟨Bc, 0, none⟩)]) ∧ Trip W5 W.heap.size 74 (.int .i64 (n:Int)) (.slice (some ⟨g, 0, none⟩) len cap) (.int .i64 ((X : Nat) : Int)) := ⟨boxed_below hA0.1 hA0.1.lt hb5, hA0.2.belowAll hb5⟩
  have hY5 := boxed_below hY2 hY2.lt hb5
  have hB5 := hB2.trans (hb5.mono hB2.size)
  have hCl := Lib.hid (HL.out g' c' W5 hB5 hS5 hc5 (hg5.imp id (fun e => Nat.le_trans hB2.size e)))
  have HB5 := Lib.hid (Kept.below (T := 45) (B := B) (C := C) hB5)
  go_wp2_with fail
  refine hK.out _ _ hA5 ?_
  clear hK K hS5 hc5 hg5 hb5 hB2 hY2 hA0 hB5
  try simp only [Act.put, List.setIfInBounds_toArray, List.set_cons_zero, List.set_cons_succ]
  refine step1 5 (by kernel_rfl) rfl (fun K hK => ?_)
  go_simp
  refine hCl.out.mono ?_
  rintro e W6 ⟨hS6, (⟨rfl, hJ6⟩ | ⟨rfl, hJ6⟩)⟩
  · have hA6 : Boxed W6 Bc 77 (.func (.func 47) #[] #[.pointer (some ⟨By, 0, none⟩), .pointer (some ⟨Bc, 0, none⟩)]) ∧ Trip W6 W.heap.size 74 (.int .i64 (n:Int)) (.slice (some ⟨g, 0, none⟩) len cap) (.int .i64 ((X : Nat) : Int)) := ⟨hS6.box hA5.1 (.inl hBc) (by decide), hS6.trip hA5.2 (.inl hBW) (by decide)⟩
    have hY6 : Boxed W6 By 76 (.func (.yield l) #[] #[]) := hS6.box hY5 (.inl hBy) (by decide)
    have HS6 := Lib.hid (HB5.out.trans hS6)
    have hg6 := HG.out
    have HX6 := Lib.hid (HH.out W6 HS6.out (HS6.out.shows HS.out hg6.1 (by decide)) hJ6 (Nat.le_trans hBW HS6.out.size) hY6 hA6.1)
    clear hS6 hJ6 hY6 hY5 hA5 hg6
    go_wp2_with fail
    refine hK.out _ _ hA6 ?_
    clear hK K
    try simp only [Act.put, List.setIfInBounds_toArray, List.set_cons_zero, List.set_cons_succ]
    refine take1 6 (v := ?_) rfl (by kernel_rfl) (by kernel_rfl) (by kernel_rfl) (fun _ _ _ h => h) (by rfl) ?_ hA6 ?_
    rotate_left
    · intro W9 hA
      obtain ⟨hq, hp⟩ := hA
      have c0 := hp.cell0
      have c1 := hp.cell1
      have c2 := hp.cell2
      have c3 := hq.cell
      clear hq hp
      go_simp
      try with_reducible rfl
    try simp only [Act.put, List.setIfInBounds_toArray, List.set_cons_zero, List.set_cons_succ]
    refine take1 7 (v := ?_) rfl (by kernel_rfl) (by kernel_rfl) (by kernel_rfl) (fun _ _ _ h => h) (by rfl) ?_ hA6 ?_
    rotate_left
    · intro W9 hA
      obtain ⟨hq, hp⟩ := hA
      have c0 := hp.cell0
      have c1 := hp.cell1
      have c2 := hp.cell2
      have c3 := hq.cell
      clear hq hp
      go_simp
      try with_reducible rfl
    try simp only [Act.put, List.setIfInBounds_toArray, List.set_cons_zero, List.set_cons_succ]
    refine take1 8 (v := ?_) rfl (by kernel_rfl) (by kernel_rfl) (by kernel_rfl) (fun _ _ _ h => h) (by rfl) ?_ hA6 ?_
    rotate_left
    · intro W9 hA
      obtain ⟨hq, hp⟩ := hA
      have c0 := hp.cell0
      have c1 := hp.cell1
      have c2 := hp.cell2
      have c3 := hq.cell
      clear hq hp
      go_simp
      try with_reducible rfl
    try simp only [Act.put, List.setIfInBounds_toArray, List.set_cons_zero, List.set_cons_succ]
    refine take1 9 (v := ?_) rfl (by kernel_rfl) (by kernel_rfl) (by kernel_rfl) (fun _ _ _ h => h) (by rfl) ?_ hA6 ?_
    rotate_left
    · intro W9 hA
      obtain ⟨hq, hp⟩ := hA
      have c0 := hp.cell0
      have c1 := hp.cell1
      have c2 := hp.cell2
      have c3 := hq.cell
      clear hq hp
      go_simp
      try with_reducible rfl
    try simp only [Act.put, List.setIfInBounds_toArray, List.set_cons_zero, List.set_cons_succ]
    refine step1 10 (by kernel_rfl) rfl (fun K hK => ?_)
    go_simp
    refine HX6.out.mono ?_
    rintro e W7 h7
    have h7' := h7
    obtain ⟨hS7, h7b⟩ := h7'
    have hA7 : Boxed W7 Bc 77 (.func (.func 47) #[] #[.pointer (some ⟨By, 0, none⟩), .pointer (some ⟨Bc, 0, none⟩)]) ∧ Trip W7 W.heap.size 74 (.int .i64 (n:Int)) (.slice (some ⟨g, 0, none⟩) len cap) (.int .i64 ((X : Nat) : Int)) := ⟨hS7.box hA6.1 (.inl hBc) (by decide), hS7.trip hA6.2 (.inl hBW) (by decide)⟩
    have H7 := Lib.hid (ChPost.high HS6.out h7)
    clear h7 hS7 hA6
    rcases h7b with ⟨rfl, _⟩ | ⟨rfl, _⟩
    all_goals
      go_wp2_with fail
      refine hK.out _ _ hA7 ?_
      clear hK K
      try simp only [Act.put, List.setIfInBounds_toArray, List.set_cons_zero, List.set_cons_succ]
      refine take1 11 (v := ?_) rfl (by kernel_rfl) (by kernel_rfl) (by kernel_rfl) (fun _ _ _ h => h) (by rfl) ?_ hA7 ?_
      rotate_left
      · intro W9 hA
        obtain ⟨hq, hp⟩ := hA
        have c0 := hp.cell0
        have c1 := hp.cell1
        have c2 := hp.cell2
        have c3 := hq.cell
        clear hq hp
        go_simp
        try with_reducible rfl
      try simp only [Act.put, List.setIfInBounds_toArray, List.set_cons_zero, List.set_cons_succ]
      refine take1 12 (v := ?_) rfl (by kernel_rfl) (by kernel_rfl) (by kernel_rfl) (fun _ _ _ h => h) (by rfl) ?_ hA7 ?_
      rotate_left
      · intro W9 hA
        obtain ⟨hq, hp⟩ := hA
        have c0 := hp.cell0
        have c1 := hp.cell1
        have c2 := hp.cell2
        have c3 := hq.cell
        clear hq hp
        go_simp
        try with_reducible rfl
      try simp only [Act.put, List.setIfInBounds_toArray, List.set_cons_zero, List.set_cons_succ]
      refine stop1 (by kernel_rfl) ?_
      go_wp2
      go_ret
      exact H7.out
  · have hA6 : Boxed W6 Bc 77 (.func (.func 47) #[] #[.pointer (some ⟨By, 0, none⟩), .pointer (some ⟨Bc, 0, none⟩)]) ∧ Trip W6 W.heap.size 74 (.int .i64 (n:Int)) (.slice (some ⟨g, 0, none⟩) len cap) (.int .i64 ((X : Nat) : Int)) := ⟨hS6.box hA5.1 (.inl hBc) (by decide), hS6.trip hA5.2 (.inl hBW) (by decide)⟩
    have H7 := Lib.hid (ChPost.low (B := B) (C := C) (J := J) (b := ys2) HB5.out hS6 hJ6)
    clear hS6 hJ6 hY5 hA5
    go_wp2_with fail
    refine hK.out _ _ hA6 ?_
    clear hK K
    try simp only [Act.put, List.setIfInBounds_toArray, List.set_cons_zero, List.set_cons_succ]
    refine take1 6 (v := ?_) rfl (by kernel_rfl) (by kernel_rfl) (by kernel_rfl) (fun _ _ _ h => h) (by rfl) ?_ hA6 ?_
    rotate_left
    · intro W9 hA
      obtain ⟨hq, hp⟩ := hA
      have c0 := hp.cell0
      have c1 := hp.cell1
      have c2 := hp.cell2
      have c3 := hq.cell
      clear hq hp
      go_simp
      try with_reducible rfl
    try simp only [Act.put, List.setIfInBounds_toArray, List.set_cons_zero, List.set_cons_succ]
    refine take0 7 rfl (by kernel_rfl) (by kernel_rfl) (by kernel_rfl) (fun _ _ _ h => h) (by rfl) hA6 ?_
    try simp only [Act.put, List.setIfInBounds_toArray, List.set_cons_zero, List.set_cons_succ]
    refine take0 8 rfl (by kernel_rfl) (by kernel_rfl) (by kernel_rfl) (fun _ _ _ h => h) (by rfl) hA6 ?_
    try simp only [Act.put, List.setIfInBounds_toArray, List.set_cons_zero, List.set_cons_succ]
    refine take0 9 rfl (by kernel_rfl) (by kernel_rfl) (by kernel_rfl) (fun _ _ _ h => h) (by rfl) hA6 ?_
    try simp only [Act.put, List.setIfInBounds_toArray, List.set_cons_zero, List.set_cons_succ]
    refine take0 10 rfl (by kernel_rfl) (by kernel_rfl) (by kernel_rfl) (fun _ _ _ h => h) (by rfl) hA6 ?_
    try simp only [Act.put, List.setIfInBounds_toArray, List.set_cons_zero, List.set_cons_succ]
    refine take1 11 (v := ?_) rfl (by kernel_rfl) (by kernel_rfl) (by kernel_rfl) (fun _ _ _ h => h) (by rfl) ?_ hA6 ?_
    rotate_left
    · intro W9 hA
      obtain ⟨hq, hp⟩ := hA
      have c0 := hp.cell0
      have c1 := hp.cell1
      have c2 := hp.cell2
      have c3 := hq.cell
      clear hq hp
      go_simp
      try with_reducible rfl
    try simp only [Act.put, List.setIfInBounds_toArray, List.set_cons_zero, List.set_cons_succ]
    refine take1 12 (v := ?_) rfl (by kernel_rfl) (by kernel_rfl) (by kernel_rfl) (fun _ _ _ h => h) (by rfl) ?_ hA6 ?_
    rotate_left
    · intro W9 hA
      obtain ⟨hq, hp⟩ := hA
      have c0 := hp.cell0
      have c1 := hp.cell1
      have c2 := hp.cell2
      have c3 := hq.cell
      clear hq hp
      go_simp
      try with_reducible rfl
    try simp only [Act.put, List.setIfInBounds_toArray, List.set_cons_zero, List.set_cons_succ]
    refine stop1 (by kernel_rfl) ?_
    go_wp2
    go_ret
    exact H7.out
end Go.Proofs.Ytkdgbnjpjkhopaa
