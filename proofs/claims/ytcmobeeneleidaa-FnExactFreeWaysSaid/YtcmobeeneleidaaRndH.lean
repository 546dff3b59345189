/- Rounds: the model's search. -/
import Derived.Test.YtcmobeeneleidaaRndG
namespace Go.Proofs.Ytcmobeeneleidaa
open Go.RowKit Go.Shelf
set_option linter.unusedVariables false
attribute [local go_sem] Oper.semAt_some
/-- The list that a search tells. -/
def putF (xs : List Int) : Option (List Int) → List Int
  | some l => xs ++ l
  | none => []
/-- A list is appended to a list of one's own. -/
theorem wp_append_list {o : Oper} {act : Act} {K : Act → World → Prop} {Q : Exit → Act → World → Prop} (s x : Operand) (ho : o.op = .call { callee := .builtin .append, args := #[s, x], argTypes := #[27, 27] })
    (a : Value) (ys xs : List Int) (W : World) (N g cap b : Nat) (hs : act.eval s = a) (hx : act.eval x = .slice (some ⟨g, 0, none⟩) xs.length cap) (hO : IsInts W N a ys) (hX : IsInts W b (.slice (some ⟨g, 0, none⟩) xs.length cap) xs)
    (hl : ys.length + xs.length ≤ 1000) (hN : N ≤ W.heap.size)
    (h : ∀ (v' : Value) (w1 : World), IsInts w1 N v' (ys ++ xs) → (∀ (g len c : Nat) (zs : List Int) (N' : Nat), IsInts W N' (.slice (some ⟨g, 0, none⟩) len c) zs → g < N → IsInts w1 N' (.slice (some ⟨g, 0, none⟩) len c) zs) →
      (∀ (B : Nat) (w0 : World), B ≤ N → Below B w0 W → Below B w0 w1) → K (act.put o.dst v') w1) : o.wp Try.prog act W K Q := by
  obtain ⟨i0, hi, hz0, hz1, hz2⟩ := info_parts Try.infoQ
  have hc1 := World.ownsRow.cells hX (g := g) rfl
  have hc2 : ∀ u ∈ xs.map (Value.int .i64), u.oneCell' = true := by
    intro u hu
    obtain ⟨z, _, rfl⟩ := List.mem_map.1 hu
    rfl
  have hc3 : ys.length + xs.length ≤ maxLen := by unfold maxLen; omega
  have hbs : ∀ k, a.ownBlock = some k → N ≤ k := fun k hk => (World.ownsRow.lt hO k hk).1
  refine wp_append_own W s x 27 ho N 3 i0 (.int .i64 0) 1 8 Try.underlying27 hi hz0 hz1 hz2 rfl (by decide) a ys.length _ hs hO ⟨g, 0, none⟩ xs.length cap (xs.map (Value.int .i64)) hx (by simp) hc1 hc2 hc3 (by omega) hN fun v' w1 hown' hgrow hiff => ?_
  refine h v' w1 ?_ (fun g len c zs N' hy hg => ?_) (fun B w0 hB hb => ?_)
  · unfold IsInts
    rw [List.length_append, List.map_append]
    exact hown'
  · refine World.ownsRow.kept hy hgrow ?_
    cases ha : a.ownBlock with
    | none => exact .inr (by simp [Value.ownBlock])
    | some k =>
      refine .inr fun e => ?_
      have e1 : some g = some k := e
      injection e1 with e1
      have := hbs k ha
      omega
  · exact hb.grown hgrow (Nat.le_trans hB hN) (fun k hk => Nat.le_trans hB (hbs k hk))
/-- What a search answers. -/
def GoPost (n s m a met most b : Nat) (xs : List Int) (w : World) (e : Ending) (w' : World) : Prop :=
  ∃ sv, e = .returned (.tuple #[.int .i64 ((min (cntN n s m a met) most : Nat) : Int), sv]) ∧ Below w.heap.size w w' ∧ IsInts w' b sv (putF xs (firN n s m a met))
end Go.Proofs.Ytcmobeeneleidaa
