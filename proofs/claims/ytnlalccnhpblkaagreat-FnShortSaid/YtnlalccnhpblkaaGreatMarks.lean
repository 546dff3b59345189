/- Marks of loops that have ended; what else a block that is written leaves. -/
import Derived.Test.YtnlalccnhpblkaaGreatGA
import Derived.Test.YtnlalccnhpblkaaGreatGC
import Derived.Carry
namespace Go.Proofs.YtnlalccnhpblkaaGreat
open Go.RowKit Go.Shelf
set_option linter.unusedVariables false
/-- Block D holds deferred calls of a loop, and there is none. -/
def Mark (W : World) (D : Nat) : Prop := W.heap[D]? = some (.deferred (some []))
/-- The marks of loops that have ended, none of which lies below N. -/
inductive Marks (N : Nat) (W : World) : List Deferred → Prop where
  | nil : Marks N W []
  | cons (D : Nat) (ds : List Deferred) (hD : Mark W D) (hN : N ≤ D) (hn : ∀ d ∈ ds, d.target ≠ .collected D) (h : Marks N W ds) : Marks N W ({ target := .collected D, args := #[] } :: ds)
theorem Marks.same {N : Nat} {W W' : World} {ds : List Deferred} (h : Marks N W ds) (e : ∀ D, Mark W D → Mark W' D) : Marks N W' ds := by
  induction h with
  | nil => exact .nil
  | cons D ds hD hN hn _ ih => exact .cons D ds (e D hD) hN hn ih
theorem Marks.fresh {N : Nat} {W : World} {ds : List Deferred} (h : Marks N W ds) {D : Nat} (hD : W.heap.size ≤ D) : ∀ d ∈ ds, d.target ≠ .collected D := by
  induction h with
  | nil => intro d hd; cases hd
  | cons D' ds hD' hN hn _ ih =>
    intro d hd
    rcases List.mem_cons.1 hd with rfl | hd
    · intro e
      injection e with e
      have : D' < W.heap.size := (Array.getElem?_eq_some_iff.1 hD').1
      omega
    · exact ih d hd
theorem marks_alloc {N : Nat} {W : World} {ds : List Deferred} (h : Marks N W ds) (o : Obj) : Marks N (W.alloc o) ds := h.same fun D hD => (Below.heap_alloc W o D (Array.getElem?_eq_some_iff.1 hD).1).trans hD
theorem marks_below {N : Nat} {W W' : World} {ds : List Deferred} (h : Marks N W ds) (hb : Below W.heap.size W W') : Marks N W' ds := h.same fun D hD => (hb.block D (Array.getElem?_eq_some_iff.1 hD).1).trans hD
theorem marks_ne {N : Nat} {W W' : World} {ds : List Deferred} (h : Marks N W ds) (B : Nat) (hc : ∃ o, W.heap[B]? = some o ∧ ∀ x, o ≠ .deferred x) (hs : ∀ k, k < W.heap.size → k ≠ B → W'.heap[k]? = W.heap[k]?) : Marks N W' ds :=
  h.same fun D hD => (hs D (Array.getElem?_eq_some_iff.1 hD).1 (fun e => by
    obtain ⟨o, ho, hx⟩ := hc
    have hD' : W.heap[D]? = some (.deferred (some [])) := hD
    rw [← e, hD'] at ho
    cases ho
    exact hx _ rfl)).trans hD
/-- What lay in W, marks among it, lies as it lay. -/
theorem marks_own {β : Type} {N : Nat} {W0 : World} {ds : List Deferred} (h0 : Marks N W0 ds) {B : Nat} (hB : W0.heap.size ≤ B) : OwnFrom B (fun (_ : β) W => Marks N W ds ∧ (∀ D, Mark W0 D → Mark W D)) :=
  fun s W W' row ⟨h, hm⟩ hg hr => by
    have key : ∀ D, Mark W0 D → Mark W' D := fun D hD => (hg.block D (Array.getElem?_eq_some_iff.1 (hm D hD)).1 (fun e => by
      have h1 := (hr D e.symm).1
      have h2 : D < W0.heap.size := (Array.getElem?_eq_some_iff.1 hD).1
      omega)).trans (hm D hD)
    exact ⟨h0.same key, key⟩
/-- A function that leaves with marks: each is shut. -/
theorem leaves_marks {F : Fence} {n N : Nat} {P : Program} {fn : Func} {tmps : Array Value} {R : Ending → World → Prop} (G : World → Prop)
    (hG : ∀ W D, G W → Mark W D → N ≤ D → G (W.putObj D (.deferred none))) (hend : ∀ W, G W → LeavesInM F n P fn tmps R [] .returning W) :
    ∀ (ds : List Deferred) (W : World), Marks N W ds → G W → LeavesInM F n P fn tmps R ds .returning W := by
  intro ds
  induction ds with
  | nil => exact fun W _ h => hend W h
  | cons d ds ih =>
    intro W hm hg
    cases hm with
    | cons D _ hD hN hn h =>
      refine ⟨by simp, .inl ⟨D, _, rfl, run_takeDeferred hD, ih _ ?_ (hG W D hg hD hN)⟩⟩
      have key : ∀ (ds' : List Deferred), (∀ d ∈ ds', d.target ≠ .collected D) → Marks N W ds' → Marks N (W.putObj D (.deferred none)) ds' := by
        intro ds' hn' h'
        induction h' with
        | nil => exact .nil
        | cons D' ds' hD' hN' hn2 _ ih' =>
          refine .cons D' ds' ?_ hN' hn2 (ih' (fun d hd => hn' d (by simp [hd])))
          have hne : D' ≠ D := fun e => hn' { target := .collected D', args := #[] } List.mem_cons_self (by rw [e])
          have := (grownBy_putObj' W D (.deferred none)).block D' (Array.getElem?_eq_some_iff.1 hD').1 (fun e => hne (by cases e; rfl))
          exact this.trans hD'
      exact key ds hn h
theorem aside_grown {T : Nat} {W W' : World} {row : Option Nat} (hg : W.grownBy W' row) (hr : ∀ k, row = some k → k = T ∨ W.heap.size ≤ k) : Aside T W W' :=
  ⟨hg.os, hg.tape, hg.output, hg.size, fun k hk hne => hg.block k hk (fun e => by rcases hr k e.symm with h | h <;> omega)⟩
theorem Aside.after {T : Nat} {A B C : World} (h : Aside T A B) (k : Aside T B C) : Aside T A C :=
  ⟨k.os.trans h.os, k.tape.trans h.tape, k.output.trans h.output, Nat.le_trans h.size k.size, fun i hi hn => (k.block i (Nat.lt_of_lt_of_le hi h.size) hn).trans (h.block i hi hn)⟩
theorem Aside.put {T : Nat} {A B : World} (h : Aside T A B) (D : Nat) (hD : A.heap.size ≤ D) (o : Obj) : Aside T A (B.putObj D o) :=
  ⟨h.os, h.tape, h.output, by simpa [World.putObj] using h.size, fun k hk hn => ((grownBy_putObj' B D o).block k (Nat.lt_of_lt_of_le hk h.size) (fun e => by cases e; omega)).trans (h.block k hk hn)⟩
theorem Aside.alloc {T : Nat} {A B : World} (h : Aside T A B) (o : Obj) : Aside T A (B.alloc o) :=
  h.after (aside_grown (World.grownBy_alloc B o none) (fun k e => by cases e))
theorem Aside.cell {T : Nat} {A B : World} (h : Aside T A B) (a : Addr) (ha : A.heap.size ≤ a.block) (v : Value) : Aside T A (B.setCell a v) :=
  ⟨h.os, h.tape, h.output, by simpa [World.setCell] using h.size, fun k hk hn => (Below.heap_setCell B a v k (by omega)).trans (h.block k hk hn)⟩
theorem Aside.callT {T : Nat} {A B C : World} (h : Aside T A B) (hb : Below B.heap.size B C) : Aside T A C :=
  h.after ⟨hb.os, hb.tape, hb.output, hb.size, fun k hk _ => hb.block k hk⟩
theorem aside_own {β : Type} {T : Nat} {A : World} {B : Nat} (hB : A.heap.size ≤ B) : OwnFrom B (fun (_ : β) W => Aside T A W) :=
  fun s W W' row h hg hr => ⟨hg.os.trans h.os, hg.tape.trans h.tape, hg.output.trans h.output, Nat.le_trans h.size hg.size,
    fun k hk hn => (hg.block k (Nat.lt_of_lt_of_le hk h.size) (fun e => by have := (hr k e.symm).1; omega)).trans (h.block k hk hn)⟩
end Go.Proofs.YtnlalccnhpblkaaGreat
