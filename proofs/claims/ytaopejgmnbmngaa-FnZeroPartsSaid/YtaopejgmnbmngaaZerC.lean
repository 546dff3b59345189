/- Rows of places: the model's counts and least choices. Written by gen86.py. -/
import Derived.Test.YtaopejgmnbmngaaZerS
import Derived.Test.YtaopejgmnbmngaaZerD
import Derived.Test.YtaopejgmnbmngaaGG
namespace Go.Proofs.Ytaopejgmnbmngaa
open Go.RowKit Go.Shelf
set_option linter.unusedVariables false
theorem block_ge {W : World} {b : Nat} {v : Value} {xs : List Int} (h : IsInts W b v xs) (k : Nat) (hk : v.ownBlock = some k) : b ≤ k ∧ k < W.heap.size := World.ownsRow.lt h k hk
theorem own_apart {v a : Value} {m : Nat} (hv : ∀ k, v.ownBlock = some k → k < m) (ha : ∀ k, a.ownBlock = some k → m ≤ k) : v.ownBlock = none ∨ v.ownBlock ≠ a.ownBlock := by
  cases e : v.ownBlock with
  | none => exact .inl rfl
  | some k =>
    refine .inr fun e2 => ?_
    have h1 := hv k e
    have h2 := ha k e2.symm
    omega
/-- A copy of a list of one's own is appended to an empty one. -/
theorem wpList_copy {ops : Array Oper} {rest : List Oper} {o : Oper} {act : Act} {Q : Exit → Act → World → Prop} (hgd : o.guard = none) (s x : Operand) (ho : o.op = .call { callee := .builtin .append, args := #[s, x], argTypes := #[23, 23] })
    (xs : List Int) (W : World) (g cap b : Nat) (hs : act.eval s = .slice (some ⟨W.heap.size, 0, none⟩) 0 0) (hx : act.eval x = .slice (some ⟨g, 0, none⟩) xs.length cap) (hX : IsInts W b (.slice (some ⟨g, 0, none⟩) xs.length cap) xs) (hl : xs.length ≤ 1000)
    (h : ∀ (v' : Value) (w1 : World), IsInts w1 W.heap.size v' xs → Below W.heap.size W w1 → wpList Try.prog ops Q rest (act.put o.dst v') w1) : wpList Try.prog ops Q (o :: rest) act (W.alloc (.cells #[] 3)) := by
  have hg := (World.ownsRow.lt hX g rfl).2
  have hX' : IsInts (W.alloc (.cells #[] 3)) b (.slice (some ⟨g, 0, none⟩) xs.length cap) xs := World.ownsRow.alloc hX _
  refine wpList_plain hgd fun K hK => wp_append_any s x ho (.slice (some ⟨W.heap.size, 0, none⟩) 0 0) [] xs (W.alloc (.cells #[] 3)) W.heap.size g cap b hs hx (nil_made W W.heap.size (Nat.le_refl _)) hX' (by simp; exact hl) (by simp) fun v' w1 h1 h2 h3 h4 => hK _ _ (h v' w1 h1 (h3 _ _ (Nat.le_refl _) ((Below.refl _ _).alloc (Nat.le_refl _) _)))
end Go.Proofs.Ytaopejgmnbmngaa
