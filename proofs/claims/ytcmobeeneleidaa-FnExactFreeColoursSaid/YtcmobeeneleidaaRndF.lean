/- Rounds: the model's words of rounds. -/
import Derived.Test.YtcmobeeneleidaaRndC
import Derived.Test.YtcmobeeneleidaaGB
import Derived.Test.YtcmobeeneleidaaFarLL
import Derived.Laws.AppendOwn
namespace Go.Proofs.Ytcmobeeneleidaa
open Go.RowKit Go.Shelf
set_option linter.unusedVariables false
attribute [local go_sem] Oper.semAt_some
theorem Try.infoQ : (Try.prog.info? 3).map (fun i => (i.zero, i.size, i.bytes)) = some (some (.int .i64 0), 1, 8) := by kernel_rfl
theorem tab_snoc' (n : Nat) (f : Nat → Int) : tabI (n + 1) f = tabI n f ++ [f n] := by simp [tabI, List.range_succ]
theorem snoc_ints {W : World} {b : Nat} {v : Value} {xs : List Int} {z : Int} (h : W.ownsRow b 3 1 v (xs.length + 1) (xs.map (Value.int .i64) ++ [.int .i64 z])) : IsInts W b v (xs ++ [z]) := by
  unfold IsInts
  rw [List.length_append, List.map_append]
  exact h
/-- A number is appended to a list of one's own. -/
theorem wp_append_ints {o : Oper} {act : Act} {K : Act → World → Prop} {Q : Exit → Act → World → Prop} (s x : Operand) (ho : o.op = .call { callee := .builtin .append, args := #[s, x], argTypes := #[27, 27] })
    (a : Value) (xs : List Int) (r : Int) (W : World) (N : Nat) (hs : act.eval s = a) (hx : act.eval x = .slice (some ⟨W.heap.size, 0, none⟩) 1 1) (hO : IsInts W N a xs) (hl : xs.length ≤ 100000) (hN : N ≤ W.heap.size)
    (h : ∀ (v' : Value) (w1 : World), IsInts w1 N v' (xs ++ [r]) → (∀ (g len c : Nat) (ys : List Int) (N' : Nat), IsInts W N' (.slice (some ⟨g, 0, none⟩) len c) ys → g < N → IsInts w1 N' (.slice (some ⟨g, 0, none⟩) len c) ys) →
      (∀ (B : Nat) (w0 : World), B ≤ N → Below B w0 W → Below B w0 w1) → K (act.put o.dst v') w1) : o.wp Try.prog act (W.alloc (.cells #[.int .i64 r] 3)) K Q := by
  obtain ⟨i0, hi, hz0, hz1, hz2⟩ := info_parts Try.infoQ
  have hO2 : (W.alloc (.cells #[.int .i64 r] 3)).ownsRow N 3 1 a xs.length (xs.map (Value.int .i64)) := World.ownsRow.alloc hO _
  have hc1 : ∀ j u, [Value.int .i64 r][j]? = some u → (W.alloc (.cells #[.int .i64 r] 3)).cell? ((⟨W.heap.size, 0, none⟩ : Addr).add j) = some u := by
    intro j u hj
    cases j with
    | zero => simp at hj; subst hj; simp [Addr.add]
    | succ j => simp at hj
  have hc2 : ∀ u ∈ [Value.int .i64 r], u.oneCell' = true := by intro u hu; simp at hu; subst hu; rfl
  have hc3 : xs.length + 1 ≤ maxLen := by unfold maxLen; omega
  have hc4 : N ≤ (W.alloc (.cells #[.int .i64 r] 3)).heap.size := by simp; omega
  have hbs : ∀ k, a.ownBlock = some k → N ≤ k := fun k hk => (World.ownsRow.lt hO k hk).1
  refine wp_append_own (W.alloc (.cells #[.int .i64 r] 3)) s x 27 ho N 3 i0 (.int .i64 0) 1 8 Try.underlying27 hi hz0 hz1 hz2 rfl (by decide) a xs.length _ hs hO2 ⟨W.heap.size, 0, none⟩ 1 1 [.int .i64 r] hx rfl hc1 hc2 hc3 (by omega) hc4 fun v' w1 hown' hgrow hiff => ?_
  refine h v' w1 (snoc_ints hown') (fun g len c ys N' hy hg => ?_) (fun B w0 hB hb => ?_)
  · refine World.ownsRow.kept (World.ownsRow.alloc hy _) hgrow ?_
    cases ha : a.ownBlock with
    | none => exact .inr (by simp [Value.ownBlock])
    | some k =>
      refine .inr fun e => ?_
      have e1 : some g = some k := e
      injection e1 with e1
      have := hbs k ha
      omega
  · exact (hb.alloc (Nat.le_trans hB hN) _).grown hgrow (by simp; omega) (fun k hk => Nat.le_trans hB (hbs k hk))
/-- The word of a round. -/
def rwordN (n : Nat) (xs : List Int) (j : Nat) : List Int := tabI j (fun i => ((rest n (xs.getD ((i + 1) % n) 0 - xs.getD i 0) : Nat) : Int))
theorem rword_snoc (n : Nat) (xs : List Int) (j : Nat) : rwordN n xs (j + 1) = rwordN n xs j ++ [((rest n (xs.getD ((j + 1) % n) 0 - xs.getD j 0) : Nat) : Int)] := tab_snoc' j _
theorem rword_len (n : Nat) (xs : List Int) (j : Nat) : (rwordN n xs j).length = j := by simp [rwordN, tabI]
/-- All places but 0. -/
def butN (n : Nat) : Nat := 2 ^ n - 2
theorem but_lt (n : Nat) (h1 : 1 ≤ n) : butN n < 2 ^ n := by
  have := Nat.two_pow_pos n
  unfold butN
  omega
end Go.Proofs.Ytcmobeeneleidaa
