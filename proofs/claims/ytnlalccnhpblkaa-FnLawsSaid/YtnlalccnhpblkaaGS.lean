/- Texts of mine, laid together: WrpE WrpF. -/
import Derived.Test.YtnlalccnhpblkaaWrpD
import Derived.Maps.AppendAt
import Derived.Deep.RegionHeld
/- Words, the program's side: lists of words in memory, and how they are gathered. -/
namespace Go.Proofs.Ytnlalccnhpblkaa
open Go.RowKit Go.Shelf
set_option linter.unusedVariables false
attribute [local go_sem] Oper.semAt_some
/-- The cells of a list of words. -/
def wC (cs : List Int) : List Value := [.int .i64 (cO cs 0), .int .i64 (cO cs 1), .int .i64 (cO cs 2)]
def wordCells (F : List (List Int)) : List Value := F.flatMap wC
/-- v reads as a list of words, in memory from block b on. -/
def IsWords (W : World) (b : Nat) (v : Value) (F : List (List Int)) : Prop := W.ownsRow b 52 3 v F.length (wordCells F)
theorem wordCells_len (F : List (List Int)) : (wordCells F).length = F.length * 3 := by
  induction F with
  | nil => rfl
  | cons x F ih =>
    show (wC x ++ wordCells F).length = _
    rw [List.length_append, ih, List.length_cons]
    simp [wC]; omega
theorem wordCells_at (F : List (List Int)) (i : Nat) (hi : i < F.length) (j : Nat) (hj : j < 3) : (wordCells F)[i * 3 + j]? = some (.int .i64 (cO (F.getD i []) j)) := by
  induction F generalizing i with
  | nil => exact absurd hi (Nat.not_lt_zero _)
  | cons x F ih =>
    have e : wordCells (x :: F) = wC x ++ wordCells F := rfl
    rw [e]
    cases i with
    | zero =>
      rcases (show j = 0 ∨ j = 1 ∨ j = 2 by omega) with rfl | rfl | rfl <;> rfl
    | succ i =>
      have h := ih i (by simpa using hi)
      have e1 : (i + 1) * 3 + j = i * 3 + j + 3 := by omega
      rw [e1, List.getElem?_append_right (by simp [wC]), show i * 3 + j + 3 - (wC x).length = i * 3 + j by simp [wC], h]
      rfl
theorem addr0 (g j : Nat) : (⟨g, 0, none⟩ : Addr).add j = ⟨g, j, none⟩ := by unfold Addr.add; split <;> simp_all
theorem IsWords.cells {W : World} {b g cap len : Nat} {F : List (List Int)} (h : IsWords W b (.slice (some ⟨g, 0, none⟩) len cap) F) {i : Nat} (hi : i < F.length) (j : Nat) (hj : j < 3) : W.cell? ⟨g, i * 3 + j, none⟩ = some (.int .i64 (cO (F.getD i []) j)) := by
  have h2 := World.ownsRow.cells h (g := g) rfl (i * 3 + j) _ (wordCells_at F i hi j hj)
  rw [addr0] at h2
  exact h2
theorem IsWords.same {W W' : World} {b : Nat} {v : Value} {F : List (List Int)} (h : IsWords W b v F) (e : ∀ g, v.ownBlock = some g → W'.heap[g]? = W.heap[g]?) : IsWords W' b v F := by
  refine ⟨h.1, ?_⟩
  rcases h.2 with hn | ⟨g, cap, cur, rfl, h1, hgg, rest⟩
  · exact .inl hn
  · exact .inr ⟨g, cap, cur, rfl, h1, (e g rfl).trans hgg, rest⟩
theorem IsWords.belowAll {W W' : World} {b : Nat} {v : Value} {F : List (List Int)} (h : IsWords W b v F) (hb : Below W.heap.size W W') : IsWords W' b v F :=
  h.same fun g hg => hb.block g (World.ownsRow.lt h g hg).2
theorem IsWords.shape {W : World} {b : Nat} {v : Value} {F : List (List Int)} (h : IsWords W b v F) : (v = .slice none 0 0 ∧ F = []) ∨ ∃ g cap, v = .slice (some ⟨g, 0, none⟩) F.length cap ∧ b ≤ g ∧ g < W.heap.size := by
  have hl := World.ownsRow.lt h
  rcases h.2 with ⟨a, c⟩ | ⟨g, cap, cur, rfl, h1, _⟩
  · exact .inl ⟨a, List.eq_nil_of_length_eq_zero c⟩
  · exact .inr ⟨g, cap, rfl, h1, (hl g rfl).2⟩
theorem IsWords.slice {W : World} {b : Nat} {v : Value} {F : List (List Int)} (h : IsWords W b v F) : ∃ A l c, v = .slice A l c := by
  rcases h.2 with ⟨rfl, c⟩ | ⟨g, cap, cur, rfl, _⟩
  · exact ⟨_, _, _, rfl⟩
  · exact ⟨_, _, _, rfl⟩
theorem IsWords.type {W : World} {b g : Nat} {v : Value} {F : List (List Int)} (h : IsWords W b v F) (hg : v.ownBlock = some g) : ∃ cur, W.heap[g]? = some (.cells cur 52 (0, 0)) := by
  rcases h.2 with ⟨rfl, c⟩ | ⟨g', cap, cur, rfl, h1, hgg, _⟩
  · simp [Value.ownBlock] at hg
  · obtain rfl : g' = g := by simpa [Value.ownBlock] using hg
    exact ⟨cur, hgg⟩
theorem Try.infoWord : (Try.prog.info? 52).map (fun i => (i.zero, i.size, i.bytes)) = some (some (.agg #[.int .i64 0, .int .i64 0, .int .i64 0]), 3, 24) := by kernel_rfl
theorem snoc_words {W : World} {b : Nat} {v : Value} {F : List (List Int)} {cs : List Int} (h : W.ownsRow b 52 3 v (F.length + 1) (wordCells F ++ wC cs)) : IsWords W b v (F ++ [cs]) := by
  unfold IsWords wordCells at *
  rw [List.length_append, List.flatMap_append]
  rw [show List.flatMap wC [cs] = wC cs by simp]
  exact h
theorem wp_append_word {o : Oper} {act : Act} {K : Act → World → Prop} {Q : Exit → Act → World → Prop} (s x : Operand) (ho : o.op = .call { callee := .builtin .append, args := #[s, x], argTypes := #[69, 69] })
    (a : Value) (F : List (List Int)) (cs : List Int) (W : World) (N : Nat) (hs : act.eval s = a) (hx : act.eval x = .slice (some ⟨W.heap.size, 0, none⟩) 1 1) (hO : IsWords W N a F) (hl : F.length ≤ 100000) (hN : N ≤ W.heap.size)
    (h : ∀ (v' : Value) (w1 : World), IsWords w1 N v' (F ++ [cs]) → (W.alloc (.cells #[.int .i64 (cO cs 0), .int .i64 (cO cs 1), .int .i64 (cO cs 2)] 52)).grownBy w1 a.ownBlock → (∀ g, v'.ownBlock = some g → a.ownBlock = some g ∨ W.heap.size ≤ g) → K (act.put o.dst v') w1) : o.wp Try.prog act (W.alloc (.cells #[.int .i64 (cO cs 0), .int .i64 (cO cs 1), .int .i64 (cO cs 2)] 52)) K Q := by
  obtain ⟨i0, hi, hz0, hz1, hz2⟩ := info_parts Try.infoWord
  have hO2 : (W.alloc (.cells #[.int .i64 (cO cs 0), .int .i64 (cO cs 1), .int .i64 (cO cs 2)] 52)).ownsRow N 52 3 a F.length (wordCells F) := World.ownsRow.alloc hO _
  have hc1 : ∀ j u, (wC cs)[j]? = some u → (W.alloc (.cells #[.int .i64 (cO cs 0), .int .i64 (cO cs 1), .int .i64 (cO cs 2)] 52)).cell? ((⟨W.heap.size, 0, none⟩ : Addr).add j) = some u := by
    intro j u hj
    have hd := Ter.new W 52 (.int .i64 (cO cs 0)) (.int .i64 (cO cs 1)) (.int .i64 (cO cs 2))
    rw [addr0]
    match j with
    | 0 => simp [wC] at hj; subst hj; exact hd.cell0
    | 1 => simp [wC] at hj; subst hj; exact hd.cell1
    | 2 => simp [wC] at hj; subst hj; exact hd.cell2
    | j + 3 => simp [wC] at hj
  have hc2 : ∀ u ∈ wC cs, u.oneCell' = true := by intro u hu; simp [wC] at hu; rcases hu with rfl | rfl | rfl <;> rfl
  have hc3 : F.length + 1 ≤ maxLen := by unfold maxLen; omega
  have hc4 : N ≤ (W.alloc (.cells #[.int .i64 (cO cs 0), .int .i64 (cO cs 1), .int .i64 (cO cs 2)] 52)).heap.size := by simp; omega
  unfold Oper.wp execOp
  obtain ⟨v', w', hr, h2, h3, h4, h5⟩ := run_append_own_at (P := Try.prog) (w := W.alloc (.cells #[.int .i64 (cO cs 0), .int .i64 (cO cs 1), .int .i64 (cO cs 2)] 52)) N 69 o.type 52 i0 (.agg #[.int .i64 0, .int .i64 0, .int .i64 0]) 3 24 Try.underlying69 hi hz0 hz1 hz2 rfl (by decide) a F.length _ hO2 ⟨W.heap.size, 0, none⟩ 1 1 (wC cs) rfl hc1 hc2 hc3 (by omega) hc4
  simp only [ho, resolve, invoke, builtin, Sem.run_bind, Sem.run_pure, Result.andThen_ok, List.map_toArray, List.map_cons, List.map_nil, hs, hx, hr]
  refine h v' w' (snoc_words h2) h3 fun g hg => ?_
  rcases h5 with e | e
  · exact .inl (by rw [← e]; exact hg)
  · rw [hg] at e
    injection e with e
    right
    rw [e, World.size_alloc]
    omega
theorem wpList_append_word {ops : Array Oper} {rest : List Oper} {o : Oper} {act : Act} {Q : Exit → Act → World → Prop} (hgd : Region.wanted o (yielded ops act.tmps) = true) (s x : Operand) (ho : o.op = .call { callee := .builtin .append, args := #[s, x], argTypes := #[69, 69] })
    (a : Value) (F : List (List Int)) (cs : List Int) (W : World) (N : Nat) (hs : act.eval s = a) (hx : act.eval x = .slice (some ⟨W.heap.size, 0, none⟩) 1 1) (hO : IsWords W N a F) (hl : F.length ≤ 100000) (hN : N ≤ W.heap.size)
    (h : ∀ (v' : Value) (w1 : World), IsWords w1 N v' (F ++ [cs]) → (W.alloc (.cells #[.int .i64 (cO cs 0), .int .i64 (cO cs 1), .int .i64 (cO cs 2)] 52)).grownBy w1 a.ownBlock → (∀ g, v'.ownBlock = some g → a.ownBlock = some g ∨ W.heap.size ≤ g) → wpList Try.prog ops Q rest (act.put o.dst v') w1) : wpList Try.prog ops Q (o :: rest) act (W.alloc (.cells #[.int .i64 (cO cs 0), .int .i64 (cO cs 1), .int .i64 (cO cs 2)] 52)) :=
  BigFrame.wpList_want hgd fun K hK => wp_append_word s x ho a F cs W N hs hx hO hl hN fun v' w1 h1 h2 h3 => hK _ _ (h v' w1 h1 h2 h3)
/-- All is as it was, but for the box bx and one block more. -/
structure KeptB (bx : Nat) (og : Option Nat) (W W' : World) : Prop where
  os : W'.os = W.os
  tape : W'.tape = W.tape
  output : W'.output = W.output
  size : W.heap.size ≤ W'.heap.size
  block : ∀ k : Nat, k < W.heap.size → k ≠ bx → some k ≠ og → W'.heap[k]? = W.heap[k]?
/-- All cells are as they were, but for words and lists of words. -/
structure KeptW (W W' : World) : Prop where
  size : W.heap.size ≤ W'.heap.size
  block : ∀ (k : Nat) (o : Obj), W.heap[k]? = some o → (∀ c : Array Value, o ≠ .cells c 52 (0, 0)) → (∀ c : Array Value, o ≠ .cells c 69 (0, 0)) → W'.heap[k]? = some o
theorem KeptW.of_below {W W' : World} (h : Below W.heap.size W W') : KeptW W W' := ⟨h.size, fun k o hk _ _ => (h.block k (Array.getElem?_eq_some_iff.1 hk).1).trans hk⟩
theorem KeptW.trans {X Y Z : World} (h : KeptW X Y) (k : KeptW Y Z) : KeptW X Z := ⟨Nat.le_trans h.size k.size, fun i o h1 h2 h3 => k.block i o (h.block i o h1 h2 h3) h2 h3⟩
theorem KeptW.box {W W' : World} (h : KeptW W W') {b : Nat} {t : TypeId} {v : Value} (hb : Boxed W b t v) (h1 : t ≠ 52) (h2 : t ≠ 69) : Boxed W' b t v :=
  h.block b _ hb (fun c e => h1 (by cases e; rfl)) (fun c e => h2 (by cases e; rfl))
theorem KeptW.duo {W W' : World} (h : KeptW W W') {b : Nat} {t : TypeId} {u v : Value} (hb : Duo W b t u v) (h1 : t ≠ 52) (h2 : t ≠ 69) : Duo W' b t u v :=
  h.block b _ hb (fun c e => h1 (by cases e; rfl)) (fun c e => h2 (by cases e; rfl))
theorem KeptW.lets {W W' : World} (h : KeptW W W') {v : Value} {k : Nat} {ls : List Nat} (hl : Lets W v k ls) : Lets W' v k ls :=
  hl.grown fun b u v x hT => (h.block b _ hT (fun c e => by cases e) (fun c e => by cases e)).trans hT.symm
/-- What has been gathered: the box bx holds a list of words. -/
def Gath (W : World) (bx : Nat) (v : Value) (F : List (List Int)) : Prop := Boxed W bx 69 v ∧ IsWords W 0 v F
theorem Gath.below {W W' : World} {bx : Nat} {v : Value} {F : List (List Int)} (h : Gath W bx v F) (hb : Below W.heap.size W W') : Gath W' bx v F := ⟨boxed_below h.1 h.1.lt hb, h.2.belowAll hb⟩
theorem Gath.ne {W : World} {bx b : Nat} {t : TypeId} {v : Value} {c : Array Value} {F : List (List Int)} (h : Gath W bx v F) (hb : W.heap[b]? = some (.cells c t (0, 0))) (h1 : t ≠ 52) (h2 : t ≠ 69) : b ≠ bx ∧ some b ≠ v.ownBlock := by
  refine ⟨fun e => ?_, fun e => ?_⟩
  · subst e
    have h3 : W.heap[b]? = _ := h.1
    rw [hb] at h3
    cases h3
    exact h2 rfl
  · obtain ⟨cur, h3⟩ := h.2.type e.symm
    rw [hb] at h3
    cases h3
    exact h1 rfl
theorem KeptB.refl (bx : Nat) (og : Option Nat) (W : World) : KeptB bx og W W := ⟨rfl, rfl, rfl, Nat.le_refl _, fun _ _ _ _ => rfl⟩
theorem KeptB.of_below {bx : Nat} {og : Option Nat} {W W' : World} (h : Below W.heap.size W W') : KeptB bx og W W' := ⟨h.os, h.tape, h.output, h.size, fun k hk _ _ => h.block k hk⟩
theorem KeptB.keptW {W W' : World} {bx : Nat} {v : Value} {F : List (List Int)} (h : KeptB bx v.ownBlock W W') (hG : Gath W bx v F) : KeptW W W' :=
  ⟨h.size, fun k o hk h1 h2 => (h.block k (Array.getElem?_eq_some_iff.1 hk).1 (fun e => by
      subst e
      have h3 : W.heap[k]? = _ := hG.1
      rw [hk] at h3
      cases h3
      exact h2 _ rfl) (fun e => by
      obtain ⟨cur, h3⟩ := hG.2.type e.symm
      rw [hk] at h3
      cases h3
      exact h1 _ rfl)).trans hk⟩
/-- Gathering goes on from a list v to a list v'. -/
def Gone (bx : Nat) (W : World) (v : Value) (W' : World) (v' : Value) : Prop := KeptB bx v.ownBlock W W' ∧ ∀ g, v'.ownBlock = some g → v.ownBlock = some g ∨ W.heap.size ≤ g
theorem Gone.trans {bx : Nat} {X Y Z : World} {v v' v2 : Value} (h : Gone bx X v Y v') (k : Gone bx Y v' Z v2) : Gone bx X v Z v2 :=
  ⟨⟨k.1.os.trans h.1.os, k.1.tape.trans h.1.tape, k.1.output.trans h.1.output, Nat.le_trans h.1.size k.1.size, fun i h1 h2 h3 => (k.1.block i (Nat.lt_of_lt_of_le h1 h.1.size) h2 (fun e => by
      rcases h.2 i e.symm with e2 | e2
      · exact h3 e2.symm
      · omega)).trans (h.1.block i h1 h2 h3)⟩, fun g hg => by
    rcases k.2 g hg with e | e
    · exact h.2 g e
    · exact .inr (Nat.le_trans h.1.size e)⟩
theorem Gone.below {bx : Nat} {W W' : World} {v : Value} (h : Below W.heap.size W W') : Gone bx W v W' v := ⟨KeptB.of_below h, fun g hg => .inl hg⟩
theorem give_step (W W1 w9 : World) (bx : Nat) (v v' : Value) (F F' : List (List Int)) (o : Obj) (hG : Gath W1 bx v F) (hB : Below W.heap.size W W1) (hO : IsWords w9 0 v' F') (hg : (W1.alloc o).grownBy w9 v.ownBlock) (hw : ∀ g, v'.ownBlock = some g → v.ownBlock = some g ∨ W1.heap.size ≤ g) :
    Boxed w9 bx 69 v ∧ Gath (w9.setCell ⟨bx, 0, none⟩ v') bx v' F' ∧ Gone bx W v (w9.setCell ⟨bx, 0, none⟩ v') v' ∧ KeptW W1 (w9.setCell ⟨bx, 0, none⟩ v') := by
  have hne : some bx ≠ v.ownBlock := fun e => by
    obtain ⟨cur, h⟩ := hG.2.type e.symm
    have h2 : W1.heap[bx]? = _ := hG.1
    rw [h] at h2
    cases h2
  have h9 : Boxed w9 bx 69 v := (hG.1.alloc o).kept hg hne
  have hsz : W1.heap.size + 1 ≤ w9.heap.size := by have := hg.size; simpa using this
  have hblk : ∀ k, k < W1.heap.size → k ≠ bx → some k ≠ v.ownBlock → (w9.setCell ⟨bx, 0, none⟩ v').heap[k]? = W1.heap[k]? := fun k h1 h2 h3 => by
    rw [Below.heap_setCell w9 ⟨bx, 0, none⟩ v' k h2, hg.block k (by simp; omega) h3, Below.heap_alloc _ _ _ h1]
  refine ⟨h9, ⟨h9.set v', hO.same fun g e => Below.heap_setCell w9 ⟨bx, 0, none⟩ v' g (fun e2 => ?_)⟩, ⟨⟨?_, ?_, ?_, ?_, fun k h1 h2 h3 => ?_⟩, fun g e => ?_⟩, ⟨?_, fun k o2 h1 h2 h3 => ?_⟩⟩
  · have e3 : g = bx := e2
    subst e3
    obtain ⟨cur, h⟩ := hO.type e
    have h2 : w9.heap[g]? = _ := h9
    rw [h] at h2
    cases h2
  · exact hg.os.trans hB.os
  · exact hg.tape.trans hB.tape
  · exact hg.output.trans hB.output
  · have := hB.size
    show W.heap.size ≤ (w9.setCell ⟨bx, 0, none⟩ v').heap.size
    simp [World.setCell]; omega
  · rw [hblk k (Nat.lt_of_lt_of_le h1 hB.size) h2 h3, hB.block k h1]
  · rcases hw g e with h | h
    · exact .inl h
    · exact .inr (Nat.le_trans hB.size h)
  · show W1.heap.size ≤ (w9.setCell ⟨bx, 0, none⟩ v').heap.size
    simp [World.setCell]; omega
  · have hk := (Array.getElem?_eq_some_iff.1 h1).1
    rw [hblk k hk (fun e => by
      subst e
      have h4 : W1.heap[k]? = _ := hG.1
      rw [h1] at h4
      cases h4
      exact h3 _ rfl) (fun e => by
      obtain ⟨cur, h4⟩ := hG.2.type e.symm
      rw [h1] at h4
      cases h4
      exact h2 _ rfl)]
    exact h1
/-- What the test of words is, as a function value: told for words that are short, in any world in which I holds. -/
def HoldOk (I : World → Prop) (p : List Int → Bool) (ok : List Int → Prop) (hf : Nat) (hlb : Array Value) : Prop :=
  (∀ X Y, I X → KeptW X Y → I Y) ∧ ∀ cs W, ok cs → I W → Calls Try.prog hf (#[.agg (wV cs)] ++ hlb) W fun e w' => e = .returned (.bool (p cs)) ∧ Below W.heap.size W w'
def GivePost (bx : Nat) (I : World → Prop) (W : World) (v : Value) (F : List (List Int)) (e : Ending) (W' : World) : Prop :=
  e = .returned (.tuple #[]) ∧ ∃ v', Gath W' bx v' F ∧ Gone bx W v W' v' ∧ I W'
set_option maxRecDepth 100000 in
set_option maxHeartbeats 4000000 in
theorem give_any (I : World → Prop) (p : List Int → Bool) (ok : List Int → Prop) (hf : Nat) (hlb : Array Value) (eg : ∀ args w, (callFunc hf args).run Try.prog w = .ok (.enter hf args) w) (hH : HoldOk I p ok hf hlb)
    (hb bx : Nat) (cs : List Int) (v : Value) (F : List (List Int)) (W : World) (hok : ok cs) (hI : I W) (hl : F.length ≤ 100000) (hB : Boxed W hb 99 (.func (.func hf) #[] hlb)) (hG : Gath W bx v F) :
    Calls Try.prog 83 #[.agg (wV cs), .pointer (some ⟨hb, 0, none⟩), .pointer (some ⟨bx, 0, none⟩)] W (GivePost bx I W v (if p cs = true then F ++ [cs] else F)) := by
  have hB0 := (Below.refl W.heap.size W).alloc (Nat.le_refl _) (.cells #[.int .i64 (cO cs 0), .int .i64 (cO cs 1), .int .i64 (cO cs 2)] 52)
  have hT0 := Ter.new W 52 (.int .i64 (cO cs 0)) (.int .i64 (cO cs 1)) (.int .i64 (cO cs 2))
  have hI0 := hH.1 _ _ hI (KeptW.of_below hB0)
  have hbx0 := boxed_below hB hB.lt hB0
  have hG0 := hG.below hB0
  obtain ⟨W0, hW0⟩ : ∃ W0, W.alloc (.cells #[.int .i64 (cO cs 0), .int .i64 (cO cs 1), .int .i64 (cO cs 2)] 52) = W0 := ⟨_, rfl⟩
  rw [hW0] at hB0 hT0 hI0 hbx0 hG0
  have HC := Lib.hid (hH.2 cs W0 hok hI0)
  have HI0 := Lib.hid hI0
  have HG0 := Lib.hid hG0
  have HB0 := Lib.hid hB0
  have HH := Lib.hid hH
  have HT0 := Lib.hid hT0
  have HL := Lib.hid hl
  have c0 := hbx0.cell
  have t0 := hT0.cell0
  have t1 := hT0.cell1
  have t2 := hT0.cell2
  obtain ⟨q, hq⟩ : ∃ q, p cs = q := ⟨_, rfl⟩
  rw [hq] at HC ⊢
  clear hH hok hI hl hB hG hB0 hT0 hI0 hbx0 hG0 hq
  unfold wV at *
  go_enter Try.func83, Try.ntmps83
  cases q
  · go_wp2_with fail
    refine HC.out.mono ?_
    rintro e W1 ⟨rfl, hb1⟩
    have hB1 := HB0.out.trans (hb1.mono HB0.out.size)
    go_wp2
    go_end0
    exact ⟨rfl, v, HG0.out.below hb1, Gone.below hB1, HH.out.1 _ _ HI0.out (KeptW.of_below hb1)⟩
  · go_wp2_with fail
    refine HC.out.mono ?_
    rintro e W1 ⟨rfl, hb1⟩
    have HB1 := Lib.hid (HB0.out.trans (hb1.mono HB0.out.size))
    have HG1 := Lib.hid (HG0.out.below hb1)
    have HI1 := Lib.hid (HH.out.1 _ _ HI0.out (KeptW.of_below hb1))
    have hT1 := HT0.out.below HT0.out.lt hb1
    have cv := HG1.out.1.cell
    have fv := HG1.out.1.frozen
    have u0 := hT1.cell0
    have u1 := hT1.cell1
    have u2 := hT1.cell2
    clear hb1 hT1
    have HTn := Lib.hid (fun (v' : Value) (w9 : World) (hO9 : IsWords w9 0 v' (F ++ [cs])) (hg9 : (W1.alloc (.cells #[.int .i64 (cO cs 0), .int .i64 (cO cs 1), .int .i64 (cO cs 2)] 52)).grownBy w9 v.ownBlock) (hw9 : ∀ g, v'.ownBlock = some g → v.ownBlock = some g ∨ W1.heap.size ≤ g) => give_step W W1 w9 bx v v' F (F ++ [cs]) _ HG1.out HB1.out hO9 hg9 hw9)
    go_wp2_with (at_builtin; refine wpList_append_word (by rfl) _ _ rfl v F cs W1 0 rfl rfl HG1.out.2 HL.out (Nat.zero_le _) (fun v' w9 hO9 hg9 hw9 => ?_); obtain ⟨A9, l9, c9, rfl⟩ := hO9.slice; have HS9 := Lib.hid (HTn.out _ w9 hO9 hg9 hw9); have cv9 := HS9.out.1.cell; have fv9 := HS9.out.1.frozen; clear hO9 hg9 hw9)
    go_end0
    exact ⟨rfl, _, HS9.out.2.1, HS9.out.2.2.1, HH.out.1 _ _ HI1.out HS9.out.2.2.2⟩
end Go.Proofs.Ytnlalccnhpblkaa

/- Words, the program's side: all words of at most so many letters, handed to a function value. Written by gen125.py. -/
namespace Go.Proofs.Ytnlalccnhpblkaa
open Go.RowKit Go.Shelf
set_option linter.unusedVariables false
attribute [local go_sem] Oper.semAt_some
theorem ea_small (m L : Nat) (hL : L ≤ 6) : (eaC m L).length ≤ 13 ^ m := by
  induction m generalizing L with
  | zero => exact Nat.le_refl _
  | succ m ih =>
    have key : ∀ l : List Int, (l.flatMap fun x => (eaC m (L - x.natAbs)).map (x :: ·)).length ≤ l.length * 13 ^ m := by
      intro l
      induction l with
      | nil => simp
      | cons x l ihl =>
        rw [List.flatMap_cons, List.length_append, List.length_map, List.length_cons, Nat.succ_mul]
        have := ih (L - x.natAbs) (by omega)
        omega
    have h := key (upL L)
    have hl : (upL L).length = 2 * L + 1 := by simp [upL]
    rw [hl] at h
    show ((upL L).flatMap fun x => (eaC m (L - x.natAbs)).map (x :: ·)).length ≤ 13 ^ (m + 1)
    refine Nat.le_trans h ?_
    rw [Nat.pow_succ, Nat.mul_comm]
    exact Nat.mul_le_mul_left _ (by omega)
/-- What one amount of a letter gives. -/
def eaG (p : List Int → Bool) (m L : Nat) (pre : List Int) (x : Int) : List (List Int) := ((eaC m (L - x.natAbs)).map ((pre ++ [x]) ++ ·)).filter p
/-- What the first i amounts give. -/
def eaI (p : List Int → Bool) (m L : Nat) (pre : List Int) (i : Nat) : List (List Int) := (List.range i).flatMap fun (j : Nat) => eaG p m L pre ((j : Int) - (L : Int))
theorem eaI_up (p : List Int → Bool) (m L : Nat) (pre : List Int) (i : Nat) : eaI p m L pre (i + 1) = eaI p m L pre i ++ eaG p m L pre ((i : Int) - (L : Int)) := by
  unfold eaI
  rw [List.range_succ, List.flatMap_append]
  simp
theorem eaI_all (p : List Int → Bool) (m L : Nat) (pre : List Int) : eaI p m L pre (2 * L + 1) = ((eaC (m + 1) L).map (pre ++ ·)).filter p := by
  unfold eaI
  show _ = (((upL L).flatMap fun x => (eaC m (L - x.natAbs)).map (x :: ·)).map (pre ++ ·)).filter p
  unfold upL
  generalize List.range (2 * L + 1) = l
  induction l with
  | nil => rfl
  | cons j l ih =>
    rw [List.flatMap_cons, List.map_cons, List.flatMap_cons, List.map_append, List.filter_append, ih]
    congr 1
    unfold eaG
    rw [List.map_map]
    congr 1
    refine List.map_congr_left fun t _ => ?_
    show pre ++ [_] ++ t = pre ++ (_ :: t)
    rw [List.append_assoc]
    rfl
theorem eaG_len (p : List Int → Bool) (m L : Nat) (hL : L ≤ 6) (pre : List Int) (x : Int) : (eaG p m L pre x).length ≤ 13 ^ m := by
  refine Nat.le_trans (List.length_filter_le _ _) ?_
  rw [List.length_map]
  exact ea_small m _ (by omega)
theorem eaI_len (p : List Int → Bool) (m L : Nat) (hL : L ≤ 6) (pre : List Int) (i : Nat) : (eaI p m L pre i).length ≤ i * 13 ^ m := by
  induction i with
  | zero => simp [eaI]
  | succ i ih =>
    rw [eaI_up, List.length_append, Nat.succ_mul]
    have := eaG_len p m L hL pre ((i : Int) - (L : Int))
    omega
theorem cO_snoc (pre : List Int) (z : Int) (i : Nat) : cO (pre ++ [z]) i = if i = pre.length then z else cO pre i := by
  unfold cO
  rw [List.getD_eq_getElem?_getD, List.getD_eq_getElem?_getD]
  by_cases h : i = pre.length
  · subst h; rw [if_pos rfl]; simp
  · rw [if_neg h]
    by_cases h2 : i < pre.length
    · rw [List.getElem?_append_left h2]
    · rw [List.getElem?_eq_none (by simp; omega), List.getElem?_eq_none (by omega)]
theorem abs_snoc (pre : List Int) (z : Int) : absL (pre ++ [z]) = absL pre + z.natAbs := by
  induction pre with
  | nil => show z.natAbs + 0 = 0 + z.natAbs; omega
  | cons c pre ih => show c.natAbs + absL (pre ++ [z]) = c.natAbs + absL pre + z.natAbs; rw [ih]; omega
theorem KeptW.setWord {W : World} {B i : Nat} {u v x : Value} (h : Ter W B 52 u v x) (y : Value) : KeptW W (W.setCell ⟨B, i, none⟩ y) :=
  ⟨by simp [World.setCell], fun k o hk h1 _ => (Below.heap_setCell W ⟨B, i, none⟩ y k (fun e => by
    have e' : k = B := e
    subst e'
    have h2 : W.heap[k]? = _ := h
    rw [hk] at h2
    cases h2
    exact h1 _ rfl)).trans hk⟩
theorem Gath.setWord {W : World} {bx B i : Nat} {v : Value} {F : List (List Int)} {a b c : Value} (h : Gath W bx v F) (hT : Ter W B 52 a b c) (hne : some B ≠ v.ownBlock) (y : Value) : Gath (W.setCell ⟨B, i, none⟩ y) bx v F := by
  have hx : B ≠ bx := fun e => by
    subst e
    have h1 : W.heap[B]? = _ := h.1
    have h2 : W.heap[B]? = _ := hT
    rw [h1] at h2
    cases h2
  exact ⟨Boxed.off h.1 (p := ⟨B, i, none⟩) (fun e => hx e.symm) y, h.2.same fun g hg => Below.heap_setCell W ⟨B, i, none⟩ y g (fun e => by
    have e' : g = B := e
    subst e'
    exact hne hg.symm)⟩
def EachOk (I : World → Prop) (p : List Int → Bool) (hf : Nat) (hlb : Array Value) (hb bx m : Nat) (ls : List Nat) : Prop :=
  ∀ (most : Nat) (pv : Value) (pre : List Int) (v : Value) (F : List (List Int)) (W : World), pre.length + ls.length = m → absL pre + most ≤ 6 → Lets W pv pre.length ls → I W → Boxed W hb 99 (.func (.func hf) #[] hlb) → Gath W bx v F → F.length + 13 ^ ls.length ≤ 100000 →
    Calls Try.prog 82 #[pv, .agg (wV pre), .int .i64 (most : Int), .func (.func 83) #[] #[.pointer (some ⟨hb, 0, none⟩), .pointer (some ⟨bx, 0, none⟩)]] W (GivePost bx I W v (F ++ ((eaC ls.length most).map (pre ++ ·)).filter p))
set_option maxRecDepth 100000 in
set_option maxHeartbeats 4000000 in
theorem each_nil (I : World → Prop) (p : List Int → Bool) (hf : Nat) (hlb : Array Value) (hb bx m : Nat) (eg : ∀ args w, (callFunc hf args).run Try.prog w = .ok (.enter hf args) w)
    (hH : HoldOk I p (fun cs => cs.length = m ∧ absL cs ≤ 6) hf hlb) : EachOk I p hf hlb hb bx m [] := by
  intro most pv pre v F W hm ha hL hI hB hG hF
  have hpv : pv = .pointer none := hL
  subst hpv
  have hB0 := (Below.refl W.heap.size W).alloc (Nat.le_refl _) (.cells #[.int .i64 (cO pre 0), .int .i64 (cO pre 1), .int .i64 (cO pre 2)] 52)
  have hT0 := Ter.new W 52 (.int .i64 (cO pre 0)) (.int .i64 (cO pre 1)) (.int .i64 (cO pre 2))
  have hI0 := hH.1 _ _ hI (KeptW.of_below hB0)
  have hbx0 := boxed_below hB hB.lt hB0
  have hG0 := hG.below hB0
  obtain ⟨W0, hW0⟩ : ∃ W0, W.alloc (.cells #[.int .i64 (cO pre 0), .int .i64 (cO pre 1), .int .i64 (cO pre 2)] 52) = W0 := ⟨_, rfl⟩
  rw [hW0] at hB0 hT0 hI0 hbx0 hG0
  have HC := Lib.hid (give_any I p _ hf hlb eg hH hb bx pre v F W0 ⟨by simpa using hm, by omega⟩ hI0 (by have h9 : F.length + 1 ≤ 100000 := hF; omega) hbx0 hG0)
  have HB0 := Lib.hid hB0
  have HV : Hid (F ++ ((eaC ([] : List Nat).length most).map (pre ++ ·)).filter p = if p pre = true then F ++ [pre] else F) := Lib.hid (by
    show F ++ ([pre ++ []]).filter p = _
    rw [List.append_nil]
    cases hp : p pre <;> simp [hp])
  rw [HV.out]
  generalize (if p pre = true then F ++ [pre] else F) = F' at *
  have t0 := hT0.cell0
  have t1 := hT0.cell1
  have t2 := hT0.cell2
  clear hm ha hL hI hB hG hF hB0 hI0 hbx0 hG0 hH eg hT0
  unfold wV at *
  go_enter Try.func82, Try.ntmps82
  go_wp2_with fail
  refine HC.out.mono ?_
  rintro e W1 ⟨rfl, v', h1, h2, h3⟩
  go_wp2
  go_end0
  exact ⟨rfl, v', h1, (Gone.below HB0.out).trans h2, h3⟩
set_option maxRecDepth 100000 in
set_option maxHeartbeats 8000000 in
theorem each_cons (I : World → Prop) (p : List Int → Bool) (hf : Nat) (hlb : Array Value) (hb bx m l : Nat) (ls : List Nat) (hm3 : m ≤ 3)
    (hH : HoldOk I p (fun cs => cs.length = m ∧ absL cs ≤ 6) hf hlb) (hIH : EachOk I p hf hlb hb bx m ls) : EachOk I p hf hlb hb bx m (l :: ls) := by
  intro most pv pre v F W hm ha hL hI hB hG hF
  have hmx : Try.prog.follows .mixedOrders = true := by kernel_rfl
  obtain ⟨b, nx, rfl, hTb, hLr⟩ := hL
  have hB0 := (Below.refl W.heap.size W).alloc (Nat.le_refl _) (.cells #[.int .i64 (cO pre 0), .int .i64 (cO pre 1), .int .i64 (cO pre 2)] 52)
  have hT0 := Ter.new W 52 (.int .i64 (cO pre 0)) (.int .i64 (cO pre 1)) (.int .i64 (cO pre 2))
  have hK0 := KeptW.of_below hB0
  have hG0 := hG.below hB0
  have hown : ∀ g, v.ownBlock = some g → g < W.heap.size := fun g hg => (World.ownsRow.lt hG.2 g hg).2
  obtain ⟨W0, hW0⟩ : ∃ W0, W.alloc (.cells #[.int .i64 (cO pre 0), .int .i64 (cO pre 1), .int .i64 (cO pre 2)] 52) = W0 := ⟨_, rfl⟩
  rw [hW0] at hB0 hT0 hK0 hG0
  have hz0 : cO (pre ++ [0]) 0 = cO pre 0 ∧ cO (pre ++ [0]) 1 = cO pre 1 ∧ cO (pre ++ [0]) 2 = cO pre 2 := by
    refine ⟨?_, ?_, ?_⟩ <;> rw [cO_snoc] <;> split
    all_goals first | rfl | (rename_i h; unfold cO; rw [List.getD_eq_getElem?_getD, List.getElem?_eq_none (by omega)]; rfl)
  have HTs : Hid (Ter W0 W.heap.size 52 (.int .i64 (cO (pre ++ [0]) 0)) (.int .i64 (cO (pre ++ [0]) 1)) (.int .i64 (cO (pre ++ [0]) 2))) := Lib.hid (by rw [hz0.1, hz0.2.1, hz0.2.2]; exact hT0)
  have HF : Hid (∀ i, i ≤ 2 * most → (F ++ eaI p ls.length most pre i).length + 13 ^ ls.length ≤ 100000) := Lib.hid (fun i hi => by
    have h1 := eaI_len p ls.length most (by omega) pre i
    have h2 : (i + 1) * 13 ^ ls.length ≤ 13 * 13 ^ ls.length := Nat.mul_le_mul_right _ (by omega)
    have h3 : 13 ^ (l :: ls).length = 13 * 13 ^ ls.length := by rw [List.length_cons, Nat.pow_succ, Nat.mul_comm]
    rw [List.length_append]
    rw [Nat.succ_mul] at h2
    omega)
  have HAll := Lib.hid (eaI_all p ls.length most pre)
  have HUp := Lib.hid (eaI_up p ls.length most pre)
  have HSn := Lib.hid (cO_snoc pre)
  have HAb := Lib.hid (abs_snoc pre)
  have HL := Lib.hid (⟨hm, ha, hm3⟩ : pre.length + (l :: ls).length = m ∧ absL pre + most ≤ 6 ∧ m ≤ 3)
  have HIH := Lib.hid hIH
  have HH := Lib.hid hH
  have HI := Lib.hid hI
  have HB := Lib.hid hB
  have HTb := Lib.hid hTb
  have HLr := Lib.hid hLr
  have HOwn := Lib.hid hown
  have HG0 := Lib.hid hG0
  have HK0 := Lib.hid hK0
  have HB0 := Lib.hid hB0
  have HE : Hid (F ++ ((eaC (l :: ls).length most).map (pre ++ ·)).filter p = F ++ eaI p ls.length most pre (2 * most + 1)) := Lib.hid (by rw [HAll.out]; rfl)
  have HG00 : Hid (Gath W0 bx v (F ++ eaI p ls.length most pre 0)) := Lib.hid (by rw [show eaI p ls.length most pre 0 = [] from rfl, List.append_nil]; exact hG0)
  rw [HE.out]
  have hne0 : wrap64 (-(most : Int)) = -(most : Int) := IntWalk.wrap64_in _ (by omega)
  have HM6 := Lib.hid (show most ≤ 6 by omega)
  clear hm ha hI hB hG hF hB0 hG0 hH hIH hT0 hK0 hTb hLr hown hz0 hm3
  unfold wV
  go_enter Try.func82, Try.ntmps82
  go_wp2_with fail
  clear hW0
  try rw [hne0]
  clear hne0
  go_loopg [8] (2 * most + 1) (fun gh u wr => ∃ i : Nat, i + gh = 2 * most + 1 ∧ u = .int .i64 ((i : Int) - (most : Int)) ∧ Hid (KeptW W0 wr) ∧ Hid (∃ v', Gath wr bx v' (F ++ eaI p ls.length most pre i) ∧ Gone bx W v wr v' ∧ some W.heap.size ≠ v'.ownBlock) ∧ Hid (∃ z, Ter wr W.heap.size 52 (.int .i64 (cO (pre ++ [z]) 0)) (.int .i64 (cO (pre ++ [z]) 1)) (.int .i64 (cO (pre ++ [z]) 2))))
  case atStart =>
    refine ⟨0, by omega, by congr 1; omega, Lib.hid ⟨Nat.le_refl _, fun _ _ h _ _ => h⟩, Lib.hid ⟨v, HG00.out, Gone.below HB0.out, fun e => ?_⟩, Lib.hid ⟨0, HTs.out⟩⟩
    exact Nat.lt_irrefl _ (HOwn.out _ e.symm)
  case round =>
    obtain ⟨i, hi, rfl, HK, HGv, HT⟩ := hrel
    cases gk with
    | zero =>
      have hi' : i = 2 * most + 1 := by omega
      subst hi'
      have hcd : ¬ (((2 * most + 1 : Nat) : Int) - (most : Int) ≤ (most : Int)) := by omega
      have hcd2 : decide (((2 * most + 1 : Nat) : Int) - (most : Int) ≤ (most : Int)) = false := decide_eq_false hcd
      obtain ⟨A, hA⟩ : ∃ A, ((2 * most + 1 : Nat) : Int) - (most : Int) = A := ⟨_, rfl⟩
      rw [hA] at hcd hcd2 ⊢
      clear hA hi
      go_wp2
      go_end0
      obtain ⟨v', h1, h2, h3⟩ := HGv.out
      exact ⟨rfl, v', h1, h2, HH.out.1 _ _ HI.out (HK0.out.trans HK.out)⟩
    | succ g =>
      have hil : i ≤ 2 * most := by omega
      have hm6 := HM6.out
      obtain ⟨z, hz⟩ := HT.out
      obtain ⟨v', hGw, hGo, hne⟩ := HGv.out
      obtain ⟨A, hA⟩ : ∃ A, (i : Int) - (most : Int) = A := ⟨_, rfl⟩
      have hAm : A.natAbs ≤ most := by omega
      have hup := HUp.out i
      have hlen := HF.out i hil
      rw [hA] at hup ⊢
      have hKl := HK0.out.trans HK.out
      have hT1 : Ter wr b 84 (.int .i64 (l:Int)) (.int .i64 (pre.length:Int)) nx := HTb.out.same ((hKl.block b _ HTb.out (fun c e => by cases e) (fun c e => by cases e)).trans (show W.heap[b]? = _ from HTb.out).symm)
      have hbne : b ≠ W.heap.size := by have := HTb.out.lt; omega
      have hk3 : pre.length = 0 ∨ pre.length = 1 ∨ pre.length = 2 := by have := HL.out; simp at this; omega
      have c1 := hT1.cell1
      have hs := hz.set pre.length (.int .i64 A) (by omega)
      have hsn : Ter (wr.setCell ⟨W.heap.size, pre.length, none⟩ (.int .i64 A)) W.heap.size 52 (.int .i64 (cO (pre ++ [A]) 0)) (.int .i64 (cO (pre ++ [A]) 1)) (.int .i64 (cO (pre ++ [A]) 2)) := by
        have e : ∀ i, (if pre.length = i then Value.int .i64 A else .int .i64 (cO (pre ++ [z]) i)) = .int .i64 (cO (pre ++ [A]) i) := fun i => by
          rw [HSn.out A i, HSn.out z i]
          by_cases h : pre.length = i
          · rw [if_pos h, if_pos h.symm]
          · rw [if_neg h, if_neg (fun e => h e.symm), if_neg (fun e => h e.symm)]
        rw [← e 0, ← e 1, ← e 2]
        exact hs
      have hT2 := hT1.off (p := ⟨W.heap.size, pre.length, none⟩) hbne (.int .i64 A)
      have hG2 := hGw.setWord (i := pre.length) hz hne (.int .i64 A)
      have hK2 := HK.out.trans (KeptW.setWord (i := pre.length) hz (.int .i64 A))
      have hGo2 : Gone bx W v (wr.setCell ⟨W.heap.size, pre.length, none⟩ (.int .i64 A)) v' := ⟨⟨hGo.1.os, hGo.1.tape, hGo.1.output, by simpa [World.setCell] using hGo.1.size, fun k h1 h2 h3 => (Below.heap_setCell wr ⟨W.heap.size, pre.length, none⟩ (.int .i64 A) k (by show k ≠ W.heap.size; omega)).trans (hGo.1.block k h1 h2 h3)⟩, hGo.2⟩
      have ck := hz.at pre.length (by omega)
      have fk := hz.frozen pre.length
      obtain ⟨W2, hW2⟩ : ∃ W2, wr.setCell ⟨W.heap.size, pre.length, none⟩ (.int .i64 A) = W2 := ⟨_, rfl⟩
      rw [hW2] at hsn hT2 hG2 hK2 hGo2
      have hd0 := hsn.cell0
      have hd1 := hsn.cell1
      have hd2 := hsn.cell2
      have hn2 := hT2.cell2
      have hKw := HK0.out.trans hK2
      have HRec := Lib.hid (HIH.out (most - A.natAbs) nx (pre ++ [A]) v' (F ++ eaI p ls.length most pre i) W2.drew (by have := HL.out.1; rw [List.length_append, List.length_singleton]; simp at this; omega) (by rw [HAb.out]; have := HL.out.2.1; omega)
        (by rw [List.length_append, List.length_singleton]; exact (hKw.lets HLr.out).drew) (HH.out.1 _ _ HI.out ⟨hKw.size, hKw.block⟩) (hKw.box HB.out (by decide) (by decide)) hG2 hlen)
      unfold wV at HRec
      have HT2 := Lib.hid hT2
      have HG2 := Lib.hid hG2
      have HK2 := Lib.hid hK2
      have HGo2 := Lib.hid hGo2
      have HSn2 := Lib.hid hsn
      have HUp2 := Lib.hid hup
      have HNe := Lib.hid hne
      have HNx : Hid (W.heap.size ≠ bx) := Lib.hid (fun e => by
        have h1 := hGw.1
        rw [← e] at h1
        have h2 : wr.heap[W.heap.size]? = _ := h1
        have h3 : wr.heap[W.heap.size]? = _ := hz
        rw [h2] at h3
        cases h3)
      have HLt := Lib.hid hsn.lt
      have cA : A ≤ (most : Int) := by omega
      have cA2 : decide (A ≤ (most : Int)) = true := decide_eq_true cA
      have wn : wrap64 (-A) = -A := IntWalk.wrap64_in _ (by omega)
      have hmx1 : max A (-A) = ((A.natAbs : Nat) : Int) := by omega
      have ws : wrap64 ((most : Int) - ((A.natAbs : Nat) : Int)) = ((most - A.natAbs : Nat) : Int) := by rw [IntWalk.wrap64_in _ (by omega)]; omega
      have wn2 : IntKind.i64.wrap (-A) = -A := by rw [IntWalk.i64_left]; exact wn
      have ws2 : IntKind.i64.wrap ((most : Int) - ((A.natAbs : Nat) : Int)) = ((most - A.natAbs : Nat) : Int) := by rw [IntWalk.i64_left]; exact ws
      have wA : wrap64 (A + 1) = A + 1 := IntWalk.wrap64_in _ (by omega)
      have HA := Lib.hid (⟨hA, hil, hi⟩ : (i : Int) - (most : Int) = A ∧ i ≤ 2 * most ∧ i + (g + 1) = 2 * most + 1)
      have p0 : (0 : Int) ≤ (pre.length : Int) := by omega
      have p3 : (pre.length : Int) < 3 := by omega
      clear hA hil hi hAm hup hlen hs hT1 hT2 hG2 hGo hGo2 hGw hK2 hKl hKw hsn hz hne hbne
      obtain ⟨r, hr⟩ : ∃ r, most - A.natAbs = r := ⟨_, rfl⟩
      rw [hr] at HRec ws ws2
      have HR : Hid (eaG p ls.length most pre A = ((eaC ls.length r).map ((pre ++ [A]) ++ ·)).filter p) := Lib.hid (by rw [← hr]; rfl)
      clear hr
      generalize A.natAbs = na at *
      obtain ⟨kk, hkk⟩ : ∃ kk, pre.length = kk := ⟨_, rfl⟩
      rw [hkk] at hk3 c1 ck fk p0 p3 hW2 HT2
      rcases hk3 with rfl | rfl | rfl
      · skip
        go_wp2_with fail
        have hA0 : Ter W2.drew b 84 (.int .i64 (l:Int)) (.int .i64 (0:Int)) nx ∧ Ter W2.drew W.heap.size 52 (.int .i64 (cO (pre ++ [A]) 0)) (.int .i64 (cO (pre ++ [A]) 1)) (.int .i64 (cO (pre ++ [A]) 2)) := ⟨HT2.out, HSn2.out⟩
        refine wp_region_held_drew (S := fun X => Ter X b 84 (.int .i64 (l:Int)) (.int .i64 (0:Int)) nx ∧ Ter X W.heap.size 52 (.int .i64 (cO (pre ++ [A]) 0)) (.int .i64 (cO (pre ++ [A]) 1)) (.int .i64 (cO (pre ++ [A]) 2))) hmx hA0 (fun _ => ?_)
        refine take1 0 (v := ?_) rfl (by kernel_rfl) (by kernel_rfl) (by kernel_rfl) (fun _ _ _ h => h) (by rfl) ?_ hA0 ?_
        rotate_left
        · rintro W9 ⟨hx9, hy9⟩
          have q2 := hx9.cell2
          have q0 := hy9.cell0
          have q1 := hy9.cell1
          have q3 := hy9.cell2
          clear hx9 hy9
          go_simp
          try with_reducible rfl
        try simp only [Act.put, List.setIfInBounds_toArray, List.set_cons_zero, List.set_cons_succ]
        refine take1 1 (v := ?_) rfl (by kernel_rfl) (by kernel_rfl) (by kernel_rfl) (fun _ _ _ h => h) (by rfl) ?_ hA0 ?_
        rotate_left
        · rintro W9 ⟨hx9, hy9⟩
          have q2 := hx9.cell2
          have q0 := hy9.cell0
          have q1 := hy9.cell1
          have q3 := hy9.cell2
          clear hx9 hy9
          go_simp
          try with_reducible rfl
        try simp only [Act.put, List.setIfInBounds_toArray, List.set_cons_zero, List.set_cons_succ]
        refine take1 2 (v := ?_) rfl (by kernel_rfl) (by kernel_rfl) (by kernel_rfl) (fun _ _ _ h => h) (by rfl) ?_ hA0 ?_
        rotate_left
        · rintro W9 ⟨hx9, hy9⟩
          have q2 := hx9.cell2
          have q0 := hy9.cell0
          have q1 := hy9.cell1
          have q3 := hy9.cell2
          clear hx9 hy9
          go_simp
          try with_reducible rfl
        try simp only [Act.put, List.setIfInBounds_toArray, List.set_cons_zero, List.set_cons_succ]
        refine take1 3 (v := ?_) rfl (by kernel_rfl) (by kernel_rfl) (by kernel_rfl) (fun _ _ _ h => h) (by rfl) ?_ hA0 ?_
        rotate_left
        · rintro W9 ⟨hx9, hy9⟩
          have q2 := hx9.cell2
          have q0 := hy9.cell0
          have q1 := hy9.cell1
          have q3 := hy9.cell2
          clear hx9 hy9
          go_simp
          try with_reducible rfl
        try simp only [Act.put, List.setIfInBounds_toArray, List.set_cons_zero, List.set_cons_succ]
        refine take1 4 (v := ?_) rfl (by kernel_rfl) (by kernel_rfl) (by kernel_rfl) (fun _ _ _ h => h) (by rfl) ?_ hA0 ?_
        rotate_left
        · rintro W9 ⟨hx9, hy9⟩
          have q2 := hx9.cell2
          have q0 := hy9.cell0
          have q1 := hy9.cell1
          have q3 := hy9.cell2
          clear hx9 hy9
          go_simp
          try with_reducible rfl
        try simp only [Act.put, List.setIfInBounds_toArray, List.set_cons_zero, List.set_cons_succ]
        refine take1 5 (v := ?_) rfl (by kernel_rfl) (by kernel_rfl) (by kernel_rfl) (fun _ _ _ h => h) (by rfl) ?_ hA0 ?_
        rotate_left
        · rintro W9 ⟨hx9, hy9⟩
          have q2 := hx9.cell2
          have q0 := hy9.cell0
          have q1 := hy9.cell1
          have q3 := hy9.cell2
          clear hx9 hy9
          go_simp
          try with_reducible rfl
        try simp only [Act.put, List.setIfInBounds_toArray, List.set_cons_zero, List.set_cons_succ]
        refine take1 6 (v := ?_) rfl (by kernel_rfl) (by kernel_rfl) (by kernel_rfl) (fun _ _ _ h => h) (by rfl) ?_ hA0 ?_
        rotate_left
        · rintro W9 ⟨hx9, hy9⟩
          have q2 := hx9.cell2
          have q0 := hy9.cell0
          have q1 := hy9.cell1
          have q3 := hy9.cell2
          clear hx9 hy9
          go_simp
          try with_reducible rfl
        try simp only [Act.put, List.setIfInBounds_toArray, List.set_cons_zero, List.set_cons_succ]
        refine take1 7 (v := ?_) rfl (by kernel_rfl) (by kernel_rfl) (by kernel_rfl) (fun _ _ _ h => h) (by rfl) ?_ hA0 ?_
        rotate_left
        · rintro W9 ⟨hx9, hy9⟩
          have q2 := hx9.cell2
          have q0 := hy9.cell0
          have q1 := hy9.cell1
          have q3 := hy9.cell2
          clear hx9 hy9
          go_simp
          try with_reducible rfl
        try simp only [Act.put, List.setIfInBounds_toArray, List.set_cons_zero, List.set_cons_succ]
        refine take1 8 (v := ?_) rfl (by kernel_rfl) (by kernel_rfl) (by kernel_rfl) (fun _ _ _ h => h) (by rfl) ?_ hA0 ?_
        rotate_left
        · rintro W9 ⟨hx9, hy9⟩
          have q2 := hx9.cell2
          have q0 := hy9.cell0
          have q1 := hy9.cell1
          have q3 := hy9.cell2
          clear hx9 hy9
          go_simp
          try with_reducible rfl
        try simp only [Act.put, List.setIfInBounds_toArray, List.set_cons_zero, List.set_cons_succ]
        refine take1 9 (v := ?_) rfl (by kernel_rfl) (by kernel_rfl) (by kernel_rfl) (fun _ _ _ h => h) (by rfl) ?_ hA0 ?_
        rotate_left
        · rintro W9 ⟨hx9, hy9⟩
          have q2 := hx9.cell2
          have q0 := hy9.cell0
          have q1 := hy9.cell1
          have q3 := hy9.cell2
          clear hx9 hy9
          go_simp
          try with_reducible rfl
        try simp only [Act.put, List.setIfInBounds_toArray, List.set_cons_zero, List.set_cons_succ]
        refine take1 10 (v := ?_) rfl (by kernel_rfl) (by kernel_rfl) (by kernel_rfl) (fun _ _ _ h => h) (by rfl) ?_ hA0 ?_
        rotate_left
        · rintro W9 ⟨hx9, hy9⟩
          have q2 := hx9.cell2
          have q0 := hy9.cell0
          have q1 := hy9.cell1
          have q3 := hy9.cell2
          clear hx9 hy9
          go_simp
          try with_reducible rfl
        try simp only [Act.put, List.setIfInBounds_toArray, List.set_cons_zero, List.set_cons_succ]
        refine take1 11 (v := ?_) rfl (by kernel_rfl) (by kernel_rfl) (by kernel_rfl) (fun _ _ _ h => h) (by rfl) ?_ hA0 ?_
        rotate_left
        · rintro W9 ⟨hx9, hy9⟩
          have q2 := hx9.cell2
          have q0 := hy9.cell0
          have q1 := hy9.cell1
          have q3 := hy9.cell2
          clear hx9 hy9
          go_simp
          try with_reducible rfl
        try simp only [Act.put, List.setIfInBounds_toArray, List.set_cons_zero, List.set_cons_succ]
        refine step1 12 (by kernel_rfl) rfl (fun K hK => ?_)
        go_simp
        refine HRec.out.mono ?_
        rintro e W3 ⟨rfl, v3, hg3, ho3, hi3⟩
        go_wp2_with fail
        obtain ⟨v4, hg4, ho4, hi4⟩ : ∃ v4, Gath W3 bx v4 (F ++ eaI p ls.length most pre (i + 1)) ∧ Gone bx W2 v' W3 v4 ∧ I W3 := by
          refine ⟨v3, ?_, ?_, hi3⟩
          · rw [HUp.out, ← List.append_assoc, HA.out.1, HR.out]; exact hg3
          · exact (show Gone bx W2 v' W2.drew v' from ⟨⟨rfl, rfl, rfl, Nat.le_refl _, fun _ _ _ _ => rfl⟩, fun g hg => .inl hg⟩).trans ho3
        have hk4 := HK2.out.trans (ho4.1.keptW HG2.out)
        have ht4 := HSn2.out.same (ho4.1.block W.heap.size HLt.out (fun e => HNx.out e) HNe.out)
        have hne4 : some W.heap.size ≠ v4.ownBlock := fun e => by
          rcases ho4.2 _ e.symm with h | h
          · exact HNe.out h.symm
          · have := HLt.out; omega
        have hl4 := HT2.out.same ((ho4.1.keptW HG2.out).block b _ HT2.out (fun c e => by cases e) (fun c e => by cases e) |>.trans (show W2.heap[b]? = _ from HT2.out).symm)
        refine hK.out _ _ ⟨hl4, ht4⟩ ?_
        clear hK K
        try simp only [Act.put, List.setIfInBounds_toArray, List.set_cons_zero, List.set_cons_succ]
        refine stop1 (by kernel_rfl) ?_
        have HFin := Lib.hid (⟨hk4, ⟨v4, hg4, HGo2.out.trans ho4, hne4⟩, ⟨A, ht4⟩⟩ : KeptW W0 W3 ∧ (∃ v', Gath W3 bx v' (F ++ eaI p ls.length most pre (i + 1)) ∧ Gone bx W v W3 v' ∧ some W.heap.size ≠ v'.ownBlock) ∧ (∃ z, Ter W3 W.heap.size 52 (.int .i64 (cO (pre ++ [z]) 0)) (.int .i64 (cO (pre ++ [z]) 1)) (.int .i64 (cO (pre ++ [z]) 2))))
        clear hg3 ho3 hi3 hg4 ho4 hi4 hk4 ht4 hne4 hl4 hA0
        go_wp2
        go_roundg g
        case rel => exact ⟨i + 1, by have := HA.out; omega, by have := HA.out; rw [wA]; congr 1; omega, Lib.hid HFin.out.1, Lib.hid HFin.out.2.1, Lib.hid HFin.out.2.2⟩
        case measure => omega
      · skip
        go_wp2_with fail
        have hA0 : Ter W2.drew b 84 (.int .i64 (l:Int)) (.int .i64 (1:Int)) nx ∧ Ter W2.drew W.heap.size 52 (.int .i64 (cO (pre ++ [A]) 0)) (.int .i64 (cO (pre ++ [A]) 1)) (.int .i64 (cO (pre ++ [A]) 2)) := ⟨HT2.out, HSn2.out⟩
        refine wp_region_held_drew (S := fun X => Ter X b 84 (.int .i64 (l:Int)) (.int .i64 (1:Int)) nx ∧ Ter X W.heap.size 52 (.int .i64 (cO (pre ++ [A]) 0)) (.int .i64 (cO (pre ++ [A]) 1)) (.int .i64 (cO (pre ++ [A]) 2))) hmx hA0 (fun _ => ?_)
        refine take1 0 (v := ?_) rfl (by kernel_rfl) (by kernel_rfl) (by kernel_rfl) (fun _ _ _ h => h) (by rfl) ?_ hA0 ?_
        rotate_left
        · rintro W9 ⟨hx9, hy9⟩
          have q2 := hx9.cell2
          have q0 := hy9.cell0
          have q1 := hy9.cell1
          have q3 := hy9.cell2
          clear hx9 hy9
          go_simp
          try with_reducible rfl
        try simp only [Act.put, List.setIfInBounds_toArray, List.set_cons_zero, List.set_cons_succ]
        refine take1 1 (v := ?_) rfl (by kernel_rfl) (by kernel_rfl) (by kernel_rfl) (fun _ _ _ h => h) (by rfl) ?_ hA0 ?_
        rotate_left
        · rintro W9 ⟨hx9, hy9⟩
          have q2 := hx9.cell2
          have q0 := hy9.cell0
          have q1 := hy9.cell1
          have q3 := hy9.cell2
          clear hx9 hy9
          go_simp
          try with_reducible rfl
        try simp only [Act.put, List.setIfInBounds_toArray, List.set_cons_zero, List.set_cons_succ]
        refine take1 2 (v := ?_) rfl (by kernel_rfl) (by kernel_rfl) (by kernel_rfl) (fun _ _ _ h => h) (by rfl) ?_ hA0 ?_
        rotate_left
        · rintro W9 ⟨hx9, hy9⟩
          have q2 := hx9.cell2
          have q0 := hy9.cell0
          have q1 := hy9.cell1
          have q3 := hy9.cell2
          clear hx9 hy9
          go_simp
          try with_reducible rfl
        try simp only [Act.put, List.setIfInBounds_toArray, List.set_cons_zero, List.set_cons_succ]
        refine take1 3 (v := ?_) rfl (by kernel_rfl) (by kernel_rfl) (by kernel_rfl) (fun _ _ _ h => h) (by rfl) ?_ hA0 ?_
        rotate_left
        · rintro W9 ⟨hx9, hy9⟩
          have q2 := hx9.cell2
          have q0 := hy9.cell0
          have q1 := hy9.cell1
          have q3 := hy9.cell2
          clear hx9 hy9
          go_simp
          try with_reducible rfl
        try simp only [Act.put, List.setIfInBounds_toArray, List.set_cons_zero, List.set_cons_succ]
        refine take1 4 (v := ?_) rfl (by kernel_rfl) (by kernel_rfl) (by kernel_rfl) (fun _ _ _ h => h) (by rfl) ?_ hA0 ?_
        rotate_left
        · rintro W9 ⟨hx9, hy9⟩
          have q2 := hx9.cell2
          have q0 := hy9.cell0
          have q1 := hy9.cell1
          have q3 := hy9.cell2
          clear hx9 hy9
          go_simp
          try with_reducible rfl
        try simp only [Act.put, List.setIfInBounds_toArray, List.set_cons_zero, List.set_cons_succ]
        refine take1 5 (v := ?_) rfl (by kernel_rfl) (by kernel_rfl) (by kernel_rfl) (fun _ _ _ h => h) (by rfl) ?_ hA0 ?_
        rotate_left
        · rintro W9 ⟨hx9, hy9⟩
          have q2 := hx9.cell2
          have q0 := hy9.cell0
          have q1 := hy9.cell1
          have q3 := hy9.cell2
          clear hx9 hy9
          go_simp
          try with_reducible rfl
        try simp only [Act.put, List.setIfInBounds_toArray, List.set_cons_zero, List.set_cons_succ]
        refine take1 6 (v := ?_) rfl (by kernel_rfl) (by kernel_rfl) (by kernel_rfl) (fun _ _ _ h => h) (by rfl) ?_ hA0 ?_
        rotate_left
        · rintro W9 ⟨hx9, hy9⟩
          have q2 := hx9.cell2
          have q0 := hy9.cell0
          have q1 := hy9.cell1
          have q3 := hy9.cell2
          clear hx9 hy9
          go_simp
          try with_reducible rfl
        try simp only [Act.put, List.setIfInBounds_toArray, List.set_cons_zero, List.set_cons_succ]
        refine take1 7 (v := ?_) rfl (by kernel_rfl) (by kernel_rfl) (by kernel_rfl) (fun _ _ _ h => h) (by rfl) ?_ hA0 ?_
        rotate_left
        · rintro W9 ⟨hx9, hy9⟩
          have q2 := hx9.cell2
          have q0 := hy9.cell0
          have q1 := hy9.cell1
          have q3 := hy9.cell2
          clear hx9 hy9
          go_simp
          try with_reducible rfl
        try simp only [Act.put, List.setIfInBounds_toArray, List.set_cons_zero, List.set_cons_succ]
        refine take1 8 (v := ?_) rfl (by kernel_rfl) (by kernel_rfl) (by kernel_rfl) (fun _ _ _ h => h) (by rfl) ?_ hA0 ?_
        rotate_left
        · rintro W9 ⟨hx9, hy9⟩
          have q2 := hx9.cell2
          have q0 := hy9.cell0
          have q1 := hy9.cell1
          have q3 := hy9.cell2
          clear hx9 hy9
          go_simp
          try with_reducible rfl
        try simp only [Act.put, List.setIfInBounds_toArray, List.set_cons_zero, List.set_cons_succ]
        refine take1 9 (v := ?_) rfl (by kernel_rfl) (by kernel_rfl) (by kernel_rfl) (fun _ _ _ h => h) (by rfl) ?_ hA0 ?_
        rotate_left
        · rintro W9 ⟨hx9, hy9⟩
          have q2 := hx9.cell2
          have q0 := hy9.cell0
          have q1 := hy9.cell1
          have q3 := hy9.cell2
          clear hx9 hy9
          go_simp
          try with_reducible rfl
        try simp only [Act.put, List.setIfInBounds_toArray, List.set_cons_zero, List.set_cons_succ]
        refine take1 10 (v := ?_) rfl (by kernel_rfl) (by kernel_rfl) (by kernel_rfl) (fun _ _ _ h => h) (by rfl) ?_ hA0 ?_
        rotate_left
        · rintro W9 ⟨hx9, hy9⟩
          have q2 := hx9.cell2
          have q0 := hy9.cell0
          have q1 := hy9.cell1
          have q3 := hy9.cell2
          clear hx9 hy9
          go_simp
          try with_reducible rfl
        try simp only [Act.put, List.setIfInBounds_toArray, List.set_cons_zero, List.set_cons_succ]
        refine take1 11 (v := ?_) rfl (by kernel_rfl) (by kernel_rfl) (by kernel_rfl) (fun _ _ _ h => h) (by rfl) ?_ hA0 ?_
        rotate_left
        · rintro W9 ⟨hx9, hy9⟩
          have q2 := hx9.cell2
          have q0 := hy9.cell0
          have q1 := hy9.cell1
          have q3 := hy9.cell2
          clear hx9 hy9
          go_simp
          try with_reducible rfl
        try simp only [Act.put, List.setIfInBounds_toArray, List.set_cons_zero, List.set_cons_succ]
        refine step1 12 (by kernel_rfl) rfl (fun K hK => ?_)
        go_simp
        refine HRec.out.mono ?_
        rintro e W3 ⟨rfl, v3, hg3, ho3, hi3⟩
        go_wp2_with fail
        obtain ⟨v4, hg4, ho4, hi4⟩ : ∃ v4, Gath W3 bx v4 (F ++ eaI p ls.length most pre (i + 1)) ∧ Gone bx W2 v' W3 v4 ∧ I W3 := by
          refine ⟨v3, ?_, ?_, hi3⟩
          · rw [HUp.out, ← List.append_assoc, HA.out.1, HR.out]; exact hg3
          · exact (show Gone bx W2 v' W2.drew v' from ⟨⟨rfl, rfl, rfl, Nat.le_refl _, fun _ _ _ _ => rfl⟩, fun g hg => .inl hg⟩).trans ho3
        have hk4 := HK2.out.trans (ho4.1.keptW HG2.out)
        have ht4 := HSn2.out.same (ho4.1.block W.heap.size HLt.out (fun e => HNx.out e) HNe.out)
        have hne4 : some W.heap.size ≠ v4.ownBlock := fun e => by
          rcases ho4.2 _ e.symm with h | h
          · exact HNe.out h.symm
          · have := HLt.out; omega
        have hl4 := HT2.out.same ((ho4.1.keptW HG2.out).block b _ HT2.out (fun c e => by cases e) (fun c e => by cases e) |>.trans (show W2.heap[b]? = _ from HT2.out).symm)
        refine hK.out _ _ ⟨hl4, ht4⟩ ?_
        clear hK K
        try simp only [Act.put, List.setIfInBounds_toArray, List.set_cons_zero, List.set_cons_succ]
        refine stop1 (by kernel_rfl) ?_
        have HFin := Lib.hid (⟨hk4, ⟨v4, hg4, HGo2.out.trans ho4, hne4⟩, ⟨A, ht4⟩⟩ : KeptW W0 W3 ∧ (∃ v', Gath W3 bx v' (F ++ eaI p ls.length most pre (i + 1)) ∧ Gone bx W v W3 v' ∧ some W.heap.size ≠ v'.ownBlock) ∧ (∃ z, Ter W3 W.heap.size 52 (.int .i64 (cO (pre ++ [z]) 0)) (.int .i64 (cO (pre ++ [z]) 1)) (.int .i64 (cO (pre ++ [z]) 2))))
        clear hg3 ho3 hi3 hg4 ho4 hi4 hk4 ht4 hne4 hl4 hA0
        go_wp2
        go_roundg g
        case rel => exact ⟨i + 1, by have := HA.out; omega, by have := HA.out; rw [wA]; congr 1; omega, Lib.hid HFin.out.1, Lib.hid HFin.out.2.1, Lib.hid HFin.out.2.2⟩
        case measure => omega
      · skip
        go_wp2_with fail
        have hA0 : Ter W2.drew b 84 (.int .i64 (l:Int)) (.int .i64 (2:Int)) nx ∧ Ter W2.drew W.heap.size 52 (.int .i64 (cO (pre ++ [A]) 0)) (.int .i64 (cO (pre ++ [A]) 1)) (.int .i64 (cO (pre ++ [A]) 2)) := ⟨HT2.out, HSn2.out⟩
        refine wp_region_held_drew (S := fun X => Ter X b 84 (.int .i64 (l:Int)) (.int .i64 (2:Int)) nx ∧ Ter X W.heap.size 52 (.int .i64 (cO (pre ++ [A]) 0)) (.int .i64 (cO (pre ++ [A]) 1)) (.int .i64 (cO (pre ++ [A]) 2))) hmx hA0 (fun _ => ?_)
        refine take1 0 (v := ?_) rfl (by kernel_rfl) (by kernel_rfl) (by kernel_rfl) (fun _ _ _ h => h) (by rfl) ?_ hA0 ?_
        rotate_left
        · rintro W9 ⟨hx9, hy9⟩
          have q2 := hx9.cell2
          have q0 := hy9.cell0
          have q1 := hy9.cell1
          have q3 := hy9.cell2
          clear hx9 hy9
          go_simp
          try with_reducible rfl
        try simp only [Act.put, List.setIfInBounds_toArray, List.set_cons_zero, List.set_cons_succ]
        refine take1 1 (v := ?_) rfl (by kernel_rfl) (by kernel_rfl) (by kernel_rfl) (fun _ _ _ h => h) (by rfl) ?_ hA0 ?_
        rotate_left
        · rintro W9 ⟨hx9, hy9⟩
          have q2 := hx9.cell2
          have q0 := hy9.cell0
          have q1 := hy9.cell1
          have q3 := hy9.cell2
          clear hx9 hy9
          go_simp
          try with_reducible rfl
        try simp only [Act.put, List.setIfInBounds_toArray, List.set_cons_zero, List.set_cons_succ]
        refine take1 2 (v := ?_) rfl (by kernel_rfl) (by kernel_rfl) (by kernel_rfl) (fun _ _ _ h => h) (by rfl) ?_ hA0 ?_
        rotate_left
        · rintro W9 ⟨hx9, hy9⟩
          have q2 := hx9.cell2
          have q0 := hy9.cell0
          have q1 := hy9.cell1
          have q3 := hy9.cell2
          clear hx9 hy9
          go_simp
          try with_reducible rfl
        try simp only [Act.put, List.setIfInBounds_toArray, List.set_cons_zero, List.set_cons_succ]
        refine take1 3 (v := ?_) rfl (by kernel_rfl) (by kernel_rfl) (by kernel_rfl) (fun _ _ _ h => h) (by rfl) ?_ hA0 ?_
        rotate_left
        · rintro W9 ⟨hx9, hy9⟩
          have q2 := hx9.cell2
          have q0 := hy9.cell0
          have q1 := hy9.cell1
          have q3 := hy9.cell2
          clear hx9 hy9
          go_simp
          try with_reducible rfl
        try simp only [Act.put, List.setIfInBounds_toArray, List.set_cons_zero, List.set_cons_succ]
        refine take1 4 (v := ?_) rfl (by kernel_rfl) (by kernel_rfl) (by kernel_rfl) (fun _ _ _ h => h) (by rfl) ?_ hA0 ?_
        rotate_left
        · rintro W9 ⟨hx9, hy9⟩
          have q2 := hx9.cell2
          have q0 := hy9.cell0
          have q1 := hy9.cell1
          have q3 := hy9.cell2
          clear hx9 hy9
          go_simp
          try with_reducible rfl
        try simp only [Act.put, List.setIfInBounds_toArray, List.set_cons_zero, List.set_cons_succ]
        refine take1 5 (v := ?_) rfl (by kernel_rfl) (by kernel_rfl) (by kernel_rfl) (fun _ _ _ h => h) (by rfl) ?_ hA0 ?_
        rotate_left
        · rintro W9 ⟨hx9, hy9⟩
          have q2 := hx9.cell2
          have q0 := hy9.cell0
          have q1 := hy9.cell1
          have q3 := hy9.cell2
          clear hx9 hy9
          go_simp
          try with_reducible rfl
        try simp only [Act.put, List.setIfInBounds_toArray, List.set_cons_zero, List.set_cons_succ]
        refine take1 6 (v := ?_) rfl (by kernel_rfl) (by kernel_rfl) (by kernel_rfl) (fun _ _ _ h => h) (by rfl) ?_ hA0 ?_
        rotate_left
        · rintro W9 ⟨hx9, hy9⟩
          have q2 := hx9.cell2
          have q0 := hy9.cell0
          have q1 := hy9.cell1
          have q3 := hy9.cell2
          clear hx9 hy9
          go_simp
          try with_reducible rfl
        try simp only [Act.put, List.setIfInBounds_toArray, List.set_cons_zero, List.set_cons_succ]
        refine take1 7 (v := ?_) rfl (by kernel_rfl) (by kernel_rfl) (by kernel_rfl) (fun _ _ _ h => h) (by rfl) ?_ hA0 ?_
        rotate_left
        · rintro W9 ⟨hx9, hy9⟩
          have q2 := hx9.cell2
          have q0 := hy9.cell0
          have q1 := hy9.cell1
          have q3 := hy9.cell2
          clear hx9 hy9
          go_simp
          try with_reducible rfl
        try simp only [Act.put, List.setIfInBounds_toArray, List.set_cons_zero, List.set_cons_succ]
        refine take1 8 (v := ?_) rfl (by kernel_rfl) (by kernel_rfl) (by kernel_rfl) (fun _ _ _ h => h) (by rfl) ?_ hA0 ?_
        rotate_left
        · rintro W9 ⟨hx9, hy9⟩
          have q2 := hx9.cell2
          have q0 := hy9.cell0
          have q1 := hy9.cell1
          have q3 := hy9.cell2
          clear hx9 hy9
          go_simp
          try with_reducible rfl
        try simp only [Act.put, List.setIfInBounds_toArray, List.set_cons_zero, List.set_cons_succ]
        refine take1 9 (v := ?_) rfl (by kernel_rfl) (by kernel_rfl) (by kernel_rfl) (fun _ _ _ h => h) (by rfl) ?_ hA0 ?_
        rotate_left
        · rintro W9 ⟨hx9, hy9⟩
          have q2 := hx9.cell2
          have q0 := hy9.cell0
          have q1 := hy9.cell1
          have q3 := hy9.cell2
          clear hx9 hy9
          go_simp
          try with_reducible rfl
        try simp only [Act.put, List.setIfInBounds_toArray, List.set_cons_zero, List.set_cons_succ]
        refine take1 10 (v := ?_) rfl (by kernel_rfl) (by kernel_rfl) (by kernel_rfl) (fun _ _ _ h => h) (by rfl) ?_ hA0 ?_
        rotate_left
        · rintro W9 ⟨hx9, hy9⟩
          have q2 := hx9.cell2
          have q0 := hy9.cell0
          have q1 := hy9.cell1
          have q3 := hy9.cell2
          clear hx9 hy9
          go_simp
          try with_reducible rfl
        try simp only [Act.put, List.setIfInBounds_toArray, List.set_cons_zero, List.set_cons_succ]
        refine take1 11 (v := ?_) rfl (by kernel_rfl) (by kernel_rfl) (by kernel_rfl) (fun _ _ _ h => h) (by rfl) ?_ hA0 ?_
        rotate_left
        · rintro W9 ⟨hx9, hy9⟩
          have q2 := hx9.cell2
          have q0 := hy9.cell0
          have q1 := hy9.cell1
          have q3 := hy9.cell2
          clear hx9 hy9
          go_simp
          try with_reducible rfl
        try simp only [Act.put, List.setIfInBounds_toArray, List.set_cons_zero, List.set_cons_succ]
        refine step1 12 (by kernel_rfl) rfl (fun K hK => ?_)
        go_simp
        refine HRec.out.mono ?_
        rintro e W3 ⟨rfl, v3, hg3, ho3, hi3⟩
        go_wp2_with fail
        obtain ⟨v4, hg4, ho4, hi4⟩ : ∃ v4, Gath W3 bx v4 (F ++ eaI p ls.length most pre (i + 1)) ∧ Gone bx W2 v' W3 v4 ∧ I W3 := by
          refine ⟨v3, ?_, ?_, hi3⟩
          · rw [HUp.out, ← List.append_assoc, HA.out.1, HR.out]; exact hg3
          · exact (show Gone bx W2 v' W2.drew v' from ⟨⟨rfl, rfl, rfl, Nat.le_refl _, fun _ _ _ _ => rfl⟩, fun g hg => .inl hg⟩).trans ho3
        have hk4 := HK2.out.trans (ho4.1.keptW HG2.out)
        have ht4 := HSn2.out.same (ho4.1.block W.heap.size HLt.out (fun e => HNx.out e) HNe.out)
        have hne4 : some W.heap.size ≠ v4.ownBlock := fun e => by
          rcases ho4.2 _ e.symm with h | h
          · exact HNe.out h.symm
          · have := HLt.out; omega
        have hl4 := HT2.out.same ((ho4.1.keptW HG2.out).block b _ HT2.out (fun c e => by cases e) (fun c e => by cases e) |>.trans (show W2.heap[b]? = _ from HT2.out).symm)
        refine hK.out _ _ ⟨hl4, ht4⟩ ?_
        clear hK K
        try simp only [Act.put, List.setIfInBounds_toArray, List.set_cons_zero, List.set_cons_succ]
        refine stop1 (by kernel_rfl) ?_
        have HFin := Lib.hid (⟨hk4, ⟨v4, hg4, HGo2.out.trans ho4, hne4⟩, ⟨A, ht4⟩⟩ : KeptW W0 W3 ∧ (∃ v', Gath W3 bx v' (F ++ eaI p ls.length most pre (i + 1)) ∧ Gone bx W v W3 v' ∧ some W.heap.size ≠ v'.ownBlock) ∧ (∃ z, Ter W3 W.heap.size 52 (.int .i64 (cO (pre ++ [z]) 0)) (.int .i64 (cO (pre ++ [z]) 1)) (.int .i64 (cO (pre ++ [z]) 2))))
        clear hg3 ho3 hi3 hg4 ho4 hi4 hk4 ht4 hne4 hl4 hA0
        go_wp2
        go_roundg g
        case rel => exact ⟨i + 1, by have := HA.out; omega, by have := HA.out; rw [wA]; congr 1; omega, Lib.hid HFin.out.1, Lib.hid HFin.out.2.1, Lib.hid HFin.out.2.2⟩
        case measure => omega

end Go.Proofs.Ytnlalccnhpblkaa
