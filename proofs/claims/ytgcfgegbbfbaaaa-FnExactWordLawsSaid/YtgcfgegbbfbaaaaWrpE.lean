/- Words, the program's side: lists of words in memory, and how they are gathered. -/
import Derived.Test.YtgcfgegbbfbaaaaWrpD
import Derived.Maps.AppendAt
import Derived.Deep.RegionHeld
namespace Go.Proofs.Ytgcfgegbbfbaaaa
open Go.RowKit Go.Shelf
set_option linter.unusedVariables false
attribute [local go_sem] Oper.semAt_some
/-- The cells of a list of words. -/
def wC (cs : List Int) : List Value := [.int .i64 (cO cs 0), .int .i64 (cO cs 1), .int .i64 (cO cs 2)]
def wordCells (F : List (List Int)) : List Value := F.flatMap wC
/-- v reads as a list of words, in memory from block b on. -/
def IsWords (W : World) (b : Nat) (v : Value) (F : List (List Int)) : Prop := W.ownsRow b 50 3 v F.length (wordCells F)
theorem wordCells_len (F : List (List Int)) : (wordCells F).length = F.length * 3 := by
  induction F with
  | nil => rfl
  | cons x F ih =>
    show (wC x ++ wordCells F).length = _
    rw [List.length_append, ih, List.length_cons]
    simp [wC]; omega
theorem wordCells_at (F : List (List Int)) (i : Nat) (hi : i < F.length) (j : Nat) (hj : j < 3) : (wordCells F)[i * 3 + j]? = some (.int .i64 (cO (F.getD i []) j)) := by
  induction F generalizing i with
  | nil => exact absurd hi (Nat.not_lt_zero _)
  | cons x F ih =>
    have e : wordCells (x :: F) = wC x ++ wordCells F := rfl
    rw [e]
    cases i with
    | zero =>
      rcases (show j = 0 ∨ j = 1 ∨ j = 2 by omega) with rfl | rfl | rfl <;> rfl
    | succ i =>
      have h := ih i (by simpa using hi)
      have e1 : (i + 1) * 3 + j = i * 3 + j + 3 := by omega
      rw [e1, List.getElem?_append_right (by simp [wC]), show i * 3 + j + 3 - (wC x).length = i * 3 + j by simp [wC], h]
      rfl
theorem addr0 (g j : Nat) : (⟨g, 0, none⟩ : Addr).add j = ⟨g, j, none⟩ := by unfold Addr.add; split <;> simp_all
theorem IsWords.cells {W : World} {b g cap len : Nat} {F : List (List Int)} (h : IsWords W b (.slice (some ⟨g, 0, none⟩) len cap) F) {i : Nat} (hi : i < F.length) (j : Nat) (hj : j < 3) : W.cell? ⟨g, i * 3 + j, none⟩ = some (.int .i64 (cO (F.getD i []) j)) := by
  have h2 := World.ownsRow.cells h (g := g) rfl (i * 3 + j) _ (wordCells_at F i hi j hj)
  rw [addr0] at h2
  exact h2
theorem IsWords.same {W W' : World} {b : Nat} {v : Value} {F : List (List Int)} (h : IsWords W b v F) (e : ∀ g, v.ownBlock = some g → W'.heap[g]? = W.heap[g]?) : IsWords W' b v F := by
  refine ⟨h.1, ?_⟩
  rcases h.2 with hn | ⟨g, cap, cur, rfl, h1, hgg, rest⟩
  · exact .inl hn
  · exact .inr ⟨g, cap, cur, rfl, h1, (e g rfl).trans hgg, rest⟩
theorem IsWords.belowAll {W W' : World} {b : Nat} {v : Value} {F : List (List Int)} (h : IsWords W b v F) (hb : Below W.heap.size W W') : IsWords W' b v F :=
  h.same fun g hg => hb.block g (World.ownsRow.lt h g hg).2
theorem IsWords.shape {W : World} {b : Nat} {v : Value} {F : List (List Int)} (h : IsWords W b v F) : (v = .slice none 0 0 ∧ F = []) ∨ ∃ g cap, v = .slice (some ⟨g, 0, none⟩) F.length cap ∧ b ≤ g ∧ g < W.heap.size := by
  have hl := World.ownsRow.lt h
  rcases h.2 with ⟨a, c⟩ | ⟨g, cap, cur, rfl, h1, _⟩
  · exact .inl ⟨a, List.eq_nil_of_length_eq_zero c⟩
  · exact .inr ⟨g, cap, rfl, h1, (hl g rfl).2⟩
theorem IsWords.slice {W : World} {b : Nat} {v : Value} {F : List (List Int)} (h : IsWords W b v F) : ∃ A l c, v = .slice A l c := by
  rcases h.2 with ⟨rfl, c⟩ | ⟨g, cap, cur, rfl, _⟩
  · exact ⟨_, _, _, rfl⟩
  · exact ⟨_, _, _, rfl⟩
theorem IsWords.type {W : World} {b g : Nat} {v : Value} {F : List (List Int)} (h : IsWords W b v F) (hg : v.ownBlock = some g) : ∃ cur, W.heap[g]? = some (.cells cur 50 (0, 0)) := by
  rcases h.2 with ⟨rfl, c⟩ | ⟨g', cap, cur, rfl, h1, hgg, _⟩
  · simp [Value.ownBlock] at hg
  · obtain rfl : g' = g := by simpa [Value.ownBlock] using hg
    exact ⟨cur, hgg⟩
theorem Try.infoWord : (Try.prog.info? 50).map (fun i => (i.zero, i.size, i.bytes)) = some (some (.agg #[.int .i64 0, .int .i64 0, .int .i64 0]), 3, 24) := by kernel_rfl
theorem snoc_words {W : World} {b : Nat} {v : Value} {F : List (List Int)} {cs : List Int} (h : W.ownsRow b 50 3 v (F.length + 1) (wordCells F ++ wC cs)) : IsWords W b v (F ++ [cs]) := by
  unfold IsWords wordCells at *
  rw [List.length_append, List.flatMap_append]
  rw [show List.flatMap wC [cs] = wC cs by simp]
  exact h
theorem wp_append_word {o : Oper} {act : Act} {K : Act → World → Prop} {Q : Exit → Act → World → Prop} (s x : Operand) (ho : o.op = .call { callee := .builtin .append, args := #[s, x], argTypes := #[62, 62] })
    (a : Value) (F : List (List Int)) (cs : List Int) (W : World) (N : Nat) (hs : act.eval s = a) (hx : act.eval x = .slice (some ⟨W.heap.size, 0, none⟩) 1 1) (hO : IsWords W N a F) (hl : F.length ≤ 100000) (hN : N ≤ W.heap.size)
    (h : ∀ (v' : Value) (w1 : World), IsWords w1 N v' (F ++ [cs]) → (W.alloc (.cells #[.int .i64 (cO cs 0), .int .i64 (cO cs 1), .int .i64 (cO cs 2)] 50)).grownBy w1 a.ownBlock → (∀ g, v'.ownBlock = some g → a.ownBlock = some g ∨ W.heap.size ≤ g) → K (act.put o.dst v') w1) : o.wp Try.prog act (W.alloc (.cells #[.int .i64 (cO cs 0), .int .i64 (cO cs 1), .int .i64 (cO cs 2)] 50)) K Q := by
  obtain ⟨i0, hi, hz0, hz1, hz2⟩ := info_parts Try.infoWord
  have hO2 : (W.alloc (.cells #[.int .i64 (cO cs 0), .int .i64 (cO cs 1), .int .i64 (cO cs 2)] 50)).ownsRow N 50 3 a F.length (wordCells F) := World.ownsRow.alloc hO _
  have hc1 : ∀ j u, (wC cs)[j]? = some u → (W.alloc (.cells #[.int .i64 (cO cs 0), .int .i64 (cO cs 1), .int .i64 (cO cs 2)] 50)).cell? ((⟨W.heap.size, 0, none⟩ : Addr).add j) = some u := by
    intro j u hj
    have hd := Ter.new W 50 (.int .i64 (cO cs 0)) (.int .i64 (cO cs 1)) (.int .i64 (cO cs 2))
    rw [addr0]
    match j with
    | 0 => simp [wC] at hj; subst hj; exact hd.cell0
    | 1 => simp [wC] at hj; subst hj; exact hd.cell1
    | 2 => simp [wC] at hj; subst hj; exact hd.cell2
    | j + 3 => simp [wC] at hj
  have hc2 : ∀ u ∈ wC cs, u.oneCell' = true := by intro u hu; simp [wC] at hu; rcases hu with rfl | rfl | rfl <;> rfl
  have hc3 : F.length + 1 ≤ maxLen := by unfold maxLen; omega
  have hc4 : N ≤ (W.alloc (.cells #[.int .i64 (cO cs 0), .int .i64 (cO cs 1), .int .i64 (cO cs 2)] 50)).heap.size := by simp; omega
  unfold Oper.wp execOp
  obtain ⟨v', w', hr, h2, h3, h4, h5⟩ := run_append_own_at (P := Try.prog) (w := W.alloc (.cells #[.int .i64 (cO cs 0), .int .i64 (cO cs 1), .int .i64 (cO cs 2)] 50)) N 62 o.type 50 i0 (.agg #[.int .i64 0, .int .i64 0, .int .i64 0]) 3 24 Try.underlying62 hi hz0 hz1 hz2 rfl (by decide) a F.length _ hO2 ⟨W.heap.size, 0, none⟩ 1 1 (wC cs) rfl hc1 hc2 hc3 (by omega) hc4
  simp only [ho, resolve, invoke, builtin, Sem.run_bind, Sem.run_pure, Result.andThen_ok, List.map_toArray, List.map_cons, List.map_nil, hs, hx, hr]
  refine h v' w' (snoc_words h2) h3 fun g hg => ?_
  rcases h5 with e | e
  · exact .inl (by rw [← e]; exact hg)
  · rw [hg] at e
    injection e with e
    right
    rw [e, World.size_alloc]
    omega
theorem wpList_append_word {ops : Array Oper} {rest : List Oper} {o : Oper} {act : Act} {Q : Exit → Act → World → Prop} (hgd : Region.wanted o (yielded ops act.tmps) = true) (s x : Operand) (ho : o.op = .call { callee := .builtin .append, args := #[s, x], argTypes := #[62, 62] })
    (a : Value) (F : List (List Int)) (cs : List Int) (W : World) (N : Nat) (hs : act.eval s = a) (hx : act.eval x = .slice (some ⟨W.heap.size, 0, none⟩) 1 1) (hO : IsWords W N a F) (hl : F.length ≤ 100000) (hN : N ≤ W.heap.size)
    (h : ∀ (v' : Value) (w1 : World), IsWords w1 N v' (F ++ [cs]) → (W.alloc (.cells #[.int .i64 (cO cs 0), .int .i64 (cO cs 1), .int .i64 (cO cs 2)] 50)).grownBy w1 a.ownBlock → (∀ g, v'.ownBlock = some g → a.ownBlock = some g ∨ W.heap.size ≤ g) → wpList Try.prog ops Q rest (act.put o.dst v') w1) : wpList Try.prog ops Q (o :: rest) act (W.alloc (.cells #[.int .i64 (cO cs 0), .int .i64 (cO cs 1), .int .i64 (cO cs 2)] 50)) :=
  BigFrame.wpList_want hgd fun K hK => wp_append_word s x ho a F cs W N hs hx hO hl hN fun v' w1 h1 h2 h3 => hK _ _ (h v' w1 h1 h2 h3)
/-- All is as it was, but for the box bx and one block more. -/
structure KeptB (bx : Nat) (og : Option Nat) (W W' : World) : Prop where
  os : W'.os = W.os
  tape : W'.tape = W.tape
  output : W'.output = W.output
  size : W.heap.size ≤ W'.heap.size
  block : ∀ k : Nat, k < W.heap.size → k ≠ bx → some k ≠ og → W'.heap[k]? = W.heap[k]?
/-- All cells are as they were, but for words and lists of words. -/
structure KeptW (W W' : World) : Prop where
  size : W.heap.size ≤ W'.heap.size
  block : ∀ (k : Nat) (o : Obj), W.heap[k]? = some o → (∀ c : Array Value, o ≠ .cells c 50 (0, 0)) → (∀ c : Array Value, o ≠ .cells c 62 (0, 0)) → W'.heap[k]? = some o
theorem KeptW.of_below {W W' : World} (h : Below W.heap.size W W') : KeptW W W' := ⟨h.size, fun k o hk _ _ => (h.block k (Array.getElem?_eq_some_iff.1 hk).1).trans hk⟩
theorem KeptW.trans {X Y Z : World} (h : KeptW X Y) (k : KeptW Y Z) : KeptW X Z := ⟨Nat.le_trans h.size k.size, fun i o h1 h2 h3 => k.block i o (h.block i o h1 h2 h3) h2 h3⟩
theorem KeptW.box {W W' : World} (h : KeptW W W') {b : Nat} {t : TypeId} {v : Value} (hb : Boxed W b t v) (h1 : t ≠ 50) (h2 : t ≠ 62) : Boxed W' b t v :=
  h.block b _ hb (fun c e => h1 (by cases e; rfl)) (fun c e => h2 (by cases e; rfl))
theorem KeptW.duo {W W' : World} (h : KeptW W W') {b : Nat} {t : TypeId} {u v : Value} (hb : Duo W b t u v) (h1 : t ≠ 50) (h2 : t ≠ 62) : Duo W' b t u v :=
  h.block b _ hb (fun c e => h1 (by cases e; rfl)) (fun c e => h2 (by cases e; rfl))
theorem KeptW.lets {W W' : World} (h : KeptW W W') {v : Value} {k : Nat} {ls : List Nat} (hl : Lets W v k ls) : Lets W' v k ls :=
  hl.grown fun b u v x hT => (h.block b _ hT (fun c e => by cases e) (fun c e => by cases e)).trans hT.symm
/-- What has been gathered: the box bx holds a list of words. -/
def Gath (W : World) (bx : Nat) (v : Value) (F : List (List Int)) : Prop := Boxed W bx 62 v ∧ IsWords W 0 v F
theorem Gath.below {W W' : World} {bx : Nat} {v : Value} {F : List (List Int)} (h : Gath W bx v F) (hb : Below W.heap.size W W') : Gath W' bx v F := ⟨boxed_below h.1 h.1.lt hb, h.2.belowAll hb⟩
theorem Gath.ne {W : World} {bx b : Nat} {t : TypeId} {v : Value} {c : Array Value} {F : List (List Int)} (h : Gath W bx v F) (hb : W.heap[b]? = some (.cells c t (0, 0))) (h1 : t ≠ 50) (h2 : t ≠ 62) : b ≠ bx ∧ some b ≠ v.ownBlock := by
  refine ⟨fun e => ?_, fun e => ?_⟩
  · subst e
    have h3 : W.heap[b]? = _ := h.1
    rw [hb] at h3
    cases h3
    exact h2 rfl
  · obtain ⟨cur, h3⟩ := h.2.type e.symm
    rw [hb] at h3
    cases h3
    exact h1 rfl
theorem KeptB.refl (bx : Nat) (og : Option Nat) (W : World) : KeptB bx og W W := ⟨rfl, rfl, rfl, Nat.le_refl _, fun _ _ _ _ => rfl⟩
theorem KeptB.of_below {bx : Nat} {og : Option Nat} {W W' : World} (h : Below W.heap.size W W') : KeptB bx og W W' := ⟨h.os, h.tape, h.output, h.size, fun k hk _ _ => h.block k hk⟩
theorem KeptB.keptW {W W' : World} {bx : Nat} {v : Value} {F : List (List Int)} (h : KeptB bx v.ownBlock W W') (hG : Gath W bx v F) : KeptW W W' :=
  ⟨h.size, fun k o hk h1 h2 => (h.block k (Array.getElem?_eq_some_iff.1 hk).1 (fun e => by
      subst e
      have h3 : W.heap[k]? = _ := hG.1
      rw [hk] at h3
      cases h3
      exact h2 _ rfl) (fun e => by
      obtain ⟨cur, h3⟩ := hG.2.type e.symm
      rw [hk] at h3
      cases h3
      exact h1 _ rfl)).trans hk⟩
/-- Gathering goes on from a list v to a list v'. -/
def Gone (bx : Nat) (W : World) (v : Value) (W' : World) (v' : Value) : Prop := KeptB bx v.ownBlock W W' ∧ ∀ g, v'.ownBlock = some g → v.ownBlock = some g ∨ W.heap.size ≤ g
theorem Gone.trans {bx : Nat} {X Y Z : World} {v v' v2 : Value} (h : Gone bx X v Y v') (k : Gone bx Y v' Z v2) : Gone bx X v Z v2 :=
  ⟨⟨k.1.os.trans h.1.os, k.1.tape.trans h.1.tape, k.1.output.trans h.1.output, Nat.le_trans h.1.size k.1.size, fun i h1 h2 h3 => (k.1.block i (Nat.lt_of_lt_of_le h1 h.1.size) h2 (fun e => by
      rcases h.2 i e.symm with e2 | e2
      · exact h3 e2.symm
      · omega)).trans (h.1.block i h1 h2 h3)⟩, fun g hg => by
    rcases k.2 g hg with e | e
    · exact h.2 g e
    · exact .inr (Nat.le_trans h.1.size e)⟩
theorem Gone.below {bx : Nat} {W W' : World} {v : Value} (h : Below W.heap.size W W') : Gone bx W v W' v := ⟨KeptB.of_below h, fun g hg => .inl hg⟩
theorem give_step (W W1 w9 : World) (bx : Nat) (v v' : Value) (F F' : List (List Int)) (o : Obj) (hG : Gath W1 bx v F) (hB : Below W.heap.size W W1) (hO : IsWords w9 0 v' F') (hg : (W1.alloc o).grownBy w9 v.ownBlock) (hw : ∀ g, v'.ownBlock = some g → v.ownBlock = some g ∨ W1.heap.size ≤ g) :
    Boxed w9 bx 62 v ∧ Gath (w9.setCell ⟨bx, 0, none⟩ v') bx v' F' ∧ Gone bx W v (w9.setCell ⟨bx, 0, none⟩ v') v' ∧ KeptW W1 (w9.setCell ⟨bx, 0, none⟩ v') := by
  have hne : some bx ≠ v.ownBlock := fun e => by
    obtain ⟨cur, h⟩ := hG.2.type e.symm
    have h2 : W1.heap[bx]? = _ := hG.1
    rw [h] at h2
    cases h2
  have h9 : Boxed w9 bx 62 v := (hG.1.alloc o).kept hg hne
  have hsz : W1.heap.size + 1 ≤ w9.heap.size := by have := hg.size; simpa using this
  have hblk : ∀ k, k < W1.heap.size → k ≠ bx → some k ≠ v.ownBlock → (w9.setCell ⟨bx, 0, none⟩ v').heap[k]? = W1.heap[k]? := fun k h1 h2 h3 => by
    rw [Below.heap_setCell w9 ⟨bx, 0, none⟩ v' k h2, hg.block k (by simp; omega) h3, Below.heap_alloc _ _ _ h1]
  refine ⟨h9, ⟨h9.set v', hO.same fun g e => Below.heap_setCell w9 ⟨bx, 0, none⟩ v' g (fun e2 => ?_)⟩, ⟨⟨?_, ?_, ?_, ?_, fun k h1 h2 h3 => ?_⟩, fun g e => ?_⟩, ⟨?_, fun k o2 h1 h2 h3 => ?_⟩⟩
  · have e3 : g = bx := e2
    subst e3
    obtain ⟨cur, h⟩ := hO.type e
    have h2 : w9.heap[g]? = _ := h9
    rw [h] at h2
    cases h2
  · exact hg.os.trans hB.os
  · exact hg.tape.trans hB.tape
  · exact hg.output.trans hB.output
  · have := hB.size
    show W.heap.size ≤ (w9.setCell ⟨bx, 0, none⟩ v').heap.size
    simp [World.setCell]; omega
  · rw [hblk k (Nat.lt_of_lt_of_le h1 hB.size) h2 h3, hB.block k h1]
  · rcases hw g e with h | h
    · exact .inl h
    · exact .inr (Nat.le_trans hB.size h)
  · show W1.heap.size ≤ (w9.setCell ⟨bx, 0, none⟩ v').heap.size
    simp [World.setCell]; omega
  · have hk := (Array.getElem?_eq_some_iff.1 h1).1
    rw [hblk k hk (fun e => by
      subst e
      have h4 : W1.heap[k]? = _ := hG.1
      rw [h1] at h4
      cases h4
      exact h3 _ rfl) (fun e => by
      obtain ⟨cur, h4⟩ := hG.2.type e.symm
      rw [h1] at h4
      cases h4
      exact h2 _ rfl)]
    exact h1
/-- What the test of words is, as a function value: told for words that are short, in any world in which I holds. -/
def HoldOk (I : World → Prop) (p : List Int → Bool) (ok : List Int → Prop) (hf : Nat) (hlb : Array Value) : Prop :=
  (∀ X Y, I X → KeptW X Y → I Y) ∧ ∀ cs W, ok cs → I W → Calls Try.prog hf (#[.agg (wV cs)] ++ hlb) W fun e w' => e = .returned (.bool (p cs)) ∧ Below W.heap.size W w'
def GivePost (bx : Nat) (I : World → Prop) (W : World) (v : Value) (F : List (List Int)) (e : Ending) (W' : World) : Prop :=
  e = .returned (.tuple #[]) ∧ ∃ v', Gath W' bx v' F ∧ Gone bx W v W' v' ∧ I W'
set_option maxRecDepth 100000 in
set_option maxHeartbeats 4000000 in
theorem give_any (I : World → Prop) (p : List Int → Bool) (ok : List Int → Prop) (hf : Nat) (hlb : Array Value) (eg : ∀ args w, (callFunc hf args).run Try.prog w = .ok (.enter hf args) w) (hH : HoldOk I p ok hf hlb)
    (hb bx : Nat) (cs : List Int) (v : Value) (F : List (List Int)) (W : World) (hok : ok cs) (hI : I W) (hl : F.length ≤ 100000) (hB : Boxed W hb 81 (.func (.func hf) #[] hlb)) (hG : Gath W bx v F) :
    Calls Try.prog 74 #[.agg (wV cs), .pointer (some ⟨hb, 0, none⟩), .pointer (some ⟨bx, 0, none⟩)] W (GivePost bx I W v (if p cs = true then F ++ [cs] else F)) := by
  have hB0 := (Below.refl W.heap.size W).alloc (Nat.le_refl _) (.cells #[.int .i64 (cO cs 0), .int .i64 (cO cs 1), .int .i64 (cO cs 2)] 50)
  have hT0 := Ter.new W 50 (.int .i64 (cO cs 0)) (.int .i64 (cO cs 1)) (.int .i64 (cO cs 2))
  have hI0 := hH.1 _ _ hI (KeptW.of_below hB0)
  have hbx0 := boxed_below hB hB.lt hB0
  have hG0 := hG.below hB0
  obtain ⟨W0, hW0⟩ : ∃ W0, W.alloc (.cells #[.int .i64 (cO cs 0), .int .i64 (cO cs 1), .int .i64 (cO cs 2)] 50) = W0 := ⟨_, rfl⟩
  rw [hW0] at hB0 hT0 hI0 hbx0 hG0
  have HC := Lib.hid (hH.2 cs W0 hok hI0)
  have HI0 := Lib.hid hI0
  have HG0 := Lib.hid hG0
  have HB0 := Lib.hid hB0
  have HH := Lib.hid hH
  have HT0 := Lib.hid hT0
  have HL := Lib.hid hl
  have c0 := hbx0.cell
  have t0 := hT0.cell0
  have t1 := hT0.cell1
  have t2 := hT0.cell2
  obtain ⟨q, hq⟩ : ∃ q, p cs = q := ⟨_, rfl⟩
  rw [hq] at HC ⊢
  clear hH hok hI hl hB hG hB0 hT0 hI0 hbx0 hG0 hq
  unfold wV at *
  go_enter Try.func74, Try.ntmps74
  cases q
  · go_wp2_with fail
    refine HC.out.mono ?_
    rintro e W1 ⟨rfl, hb1⟩
    have hB1 := HB0.out.trans (hb1.mono HB0.out.size)
    go_wp2
    go_end0
    exact ⟨rfl, v, HG0.out.below hb1, Gone.below hB1, HH.out.1 _ _ HI0.out (KeptW.of_below hb1)⟩
  · go_wp2_with fail
    refine HC.out.mono ?_
    rintro e W1 ⟨rfl, hb1⟩
    have HB1 := Lib.hid (HB0.out.trans (hb1.mono HB0.out.size))
    have HG1 := Lib.hid (HG0.out.below hb1)
    have HI1 := Lib.hid (HH.out.1 _ _ HI0.out (KeptW.of_below hb1))
    have hT1 := HT0.out.below HT0.out.lt hb1
    have cv := HG1.out.1.cell
    have fv := HG1.out.1.frozen
    have u0 := hT1.cell0
    have u1 := hT1.cell1
    have u2 := hT1.cell2
    clear hb1 hT1
    have HTn := Lib.hid (fun (v' : Value) (w9 : World) (hO9 : IsWords w9 0 v' (F ++ [cs])) (hg9 : (W1.alloc (.cells #[.int .i64 (cO cs 0), .int .i64 (cO cs 1), .int .i64 (cO cs 2)] 50)).grownBy w9 v.ownBlock) (hw9 : ∀ g, v'.ownBlock = some g → v.ownBlock = some g ∨ W1.heap.size ≤ g) => give_step W W1 w9 bx v v' F (F ++ [cs]) _ HG1.out HB1.out hO9 hg9 hw9)
    go_wp2_with (at_builtin; refine wpList_append_word (by rfl) _ _ rfl v F cs W1 0 rfl rfl HG1.out.2 HL.out (Nat.zero_le _) (fun v' w9 hO9 hg9 hw9 => ?_); obtain ⟨A9, l9, c9, rfl⟩ := hO9.slice; have HS9 := Lib.hid (HTn.out _ w9 hO9 hg9 hw9); have cv9 := HS9.out.1.cell; have fv9 := HS9.out.1.frozen; clear hO9 hg9 hw9)
    go_end0
    exact ⟨rfl, _, HS9.out.2.1, HS9.out.2.2.1, HH.out.1 _ _ HI1.out HS9.out.2.2.2⟩
end Go.Proofs.Ytgcfgegbbfbaaaa
