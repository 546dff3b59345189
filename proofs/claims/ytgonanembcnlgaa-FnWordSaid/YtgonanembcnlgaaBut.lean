/- A world that has turned at some blocks, and has new ones. -/
import Derived.Test.YtgonanembcnlgaaGF
namespace Go.Proofs.Ytgonanembcnlgaa
open Go.RowKit Go.Shelf
set_option linter.unusedVariables false
/-- W' is W with new blocks, and with blocks of T written: nothing else that was there has turned. -/
structure But (T : Nat → Prop) (W W' : World) : Prop where
  os : W'.os = W.os
  tape : W'.tape = W.tape
  output : W'.output = W.output
  size : W.heap.size ≤ W'.heap.size
  block : ∀ k, k < W.heap.size → ¬ T k → W'.heap[k]? = W.heap[k]?
theorem But.refl (T : Nat → Prop) (W : World) : But T W W := ⟨rfl, rfl, rfl, Nat.le_refl _, fun _ _ _ => rfl⟩
theorem But.drew {T : Nat → Prop} {W W' : World} (h : But T W W') : But T W W'.drew := ⟨h.os, h.tape, h.output, h.size, h.block⟩
theorem But.grown {T : Nat → Prop} {W W1 W2 : World} {row : Option Nat} (h : But T W W1) (hg : W1.grownBy W2 row) (hr : ∀ k, row = some k → T k ∨ W.heap.size ≤ k) : But T W W2 :=
  ⟨hg.os.trans h.os, hg.tape.trans h.tape, hg.output.trans h.output, Nat.le_trans h.size hg.size, fun k hk hn => (hg.block k (Nat.lt_of_lt_of_le hk h.size) (fun e => by
    rcases hr k e.symm with h1 | h1
    · exact hn h1
    · omega)).trans (h.block k hk hn)⟩
theorem But.alloc {T : Nat → Prop} {W W1 : World} (h : But T W W1) (o : Obj) : But T W (W1.alloc o) := h.grown (World.grownBy_alloc W1 o none) (fun k e => by cases e)
theorem But.cell {T : Nat → Prop} {W W1 : World} (h : But T W W1) (a : Addr) (ha : T a.block ∨ W.heap.size ≤ a.block) (v : Value) : But T W (W1.setCell a v) :=
  ⟨h.os, h.tape, h.output, by simpa [World.setCell] using h.size, fun k hk hn => (Below.heap_setCell W1 a v k (fun e => by
    rcases ha with h1 | h1
    · exact hn (e ▸ h1)
    · omega)).trans (h.block k hk hn)⟩
theorem But.call {T : Nat → Prop} {W W1 W2 : World} (h : But T W W1) (hb : Below W1.heap.size W1 W2) : But T W W2 :=
  ⟨hb.os.trans h.os, hb.tape.trans h.tape, hb.output.trans h.output, Nat.le_trans h.size hb.size, fun k hk hn => (hb.block k (Nat.lt_of_lt_of_le hk h.size)).trans (h.block k hk hn)⟩
theorem But.box {T : Nat → Prop} {W W' : World} (h : But T W W') {B : Nat} {t : TypeId} {v : Value} (hB : Boxed W B t v) (hn : ¬ T B) : Boxed W' B t v := (h.block B hB.lt hn).trans hB
theorem But.duo {T : Nat → Prop} {W W' : World} (h : But T W W') {B : Nat} {t : TypeId} {u v : Value} (hB : Duo W B t u v) (hn : ¬ T B) : Duo W' B t u v := (h.block B hB.lt hn).trans hB
theorem But.tri {T : Nat → Prop} {W W' : World} (h : But T W W') {B n s M : Nat} (hB : Tri W B n s M) (hn : ¬ T B) : Tri W' B n s M := (h.block B hB.lt hn).trans hB
theorem But.tells {T : Nat → Prop} {W W' : World} (h : But T W W') {b S : Nat} {f : Nat → Nat} (hB : Tells W b S f) (hn : ¬ T b) : Tells W' b S f := hB.same (h.block b hB.lt hn)
theorem But.keeps {T : Nat → Prop} {W W' : World} (h : But T W W') (B : Nat) (hT : ∀ k, T k → k < B) : KeepsFrom B W W' :=
  ⟨h.size, fun k o hk ho _ => (h.block k (Array.getElem?_eq_some_iff.1 ho).1 (fun t => by have := hT k t; omega)).trans ho⟩
theorem But.below {T : Nat → Prop} {W W' : World} (h : But T W W') {m : Nat} (hT : ∀ k, T k → m ≤ k) (hm : m ≤ W.heap.size) : Below m W W' :=
  ⟨h.os, h.tape, h.output, h.size, fun k hk => h.block k (by omega) (fun t => by have := hT k t; omega)⟩
theorem But.kb {T : Nat → Prop} {W W' : World} (h : But T W W') {Bn m : Nat} (hn : ¬ T Bn) (hT : ∀ k, T k → m ≤ k) (hm : m ≤ W.heap.size) : KB Bn m W W' := ⟨fun t v hb => h.box hb hn, h.below hT hm⟩
end Go.Proofs.Ytgonanembcnlgaa
