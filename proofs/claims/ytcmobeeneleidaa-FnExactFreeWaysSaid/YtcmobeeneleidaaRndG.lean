/- Rounds: the model's rounds of words. -/
import Derived.Test.YtcmobeeneleidaaRndF
namespace Go.Proofs.Ytcmobeeneleidaa
open Go.RowKit Go.Shelf
set_option linter.unusedVariables false
attribute [local go_sem] Oper.semAt_some
theorem wpList_append_ints {ops : Array Oper} {rest : List Oper} {o : Oper} {act : Act} {Q : Exit → Act → World → Prop} (hgd : o.guard = none) (s x : Operand) (ho : o.op = .call { callee := .builtin .append, args := #[s, x], argTypes := #[27, 27] })
    (a : Value) (xs : List Int) (r : Int) (W : World) (N : Nat) (hs : act.eval s = a) (hx : act.eval x = .slice (some ⟨W.heap.size, 0, none⟩) 1 1) (hO : IsInts W N a xs) (hl : xs.length ≤ 100000) (hN : N ≤ W.heap.size)
    (h : ∀ (v' : Value) (w1 : World), IsInts w1 N v' (xs ++ [r]) → (∀ (g len c : Nat) (ys : List Int) (N' : Nat), IsInts W N' (.slice (some ⟨g, 0, none⟩) len c) ys → g < N → IsInts w1 N' (.slice (some ⟨g, 0, none⟩) len c) ys) →
      (∀ (B : Nat) (w0 : World), B ≤ N → Below B w0 W → Below B w0 w1) → wpList Try.prog ops Q rest (act.put o.dst v') w1) : wpList Try.prog ops Q (o :: rest) act (W.alloc (.cells #[.int .i64 r] 3)) :=
  wpList_plain hgd fun _ hK => wp_append_ints s x ho a xs r W N hs hx hO hl hN fun v' w1 h1 h2 h3 => hK _ _ (h v' w1 h1 h2 h3)
/-- Where the word leads. -/
def ratN (n : Nat) (xs : List Int) : Nat → Nat
  | 0 => 0
  | i + 1 => rest n ((ratN n xs i : Int) + xs.getD i 0)
theorem ratN_lt (n : Nat) (xs : List Int) (i : Nat) (h1 : 1 ≤ n) : ratN n xs i < n := by
  cases i with
  | zero => exact h1
  | succ i => exact rest_lt n _ h1
def byN (n : Nat) (xs : List Int) (j : Nat) : List Int := tabI j (fun i => ((ratN n xs i : Nat) : Int))
theorem by_snoc (n : Nat) (xs : List Int) (j : Nat) : byN n xs (j + 1) = byN n xs j ++ [((ratN n xs j : Nat) : Int)] := tab_snoc' j _
theorem by_len (n : Nat) (xs : List Int) (j : Nat) : (byN n xs j).length = j := by simp [byN, tabI]
/-- A word of a round. -/
structure OkBy (n : Nat) (xs : List Int) : Prop where
  len : xs.length = n
  inn : ∀ i, i < n → 1 ≤ xs.getD i 0 ∧ xs.getD i 0 ≤ (n : Int) - 1
  back : ratN n xs n = 0
  rnd : IsRnd n (butN n) (byN n xs n)
noncomputable def okByB (n : Nat) (xs : List Int) : Bool := @decide (OkBy n xs) (Classical.propDecidable _)
theorem okBy_yes {n : Nat} {xs : List Int} (h : OkBy n xs) : okByB n xs = true := by
  unfold okByB
  exact @decide_eq_true _ (Classical.propDecidable _) h
theorem okBy_no {n : Nat} {xs : List Int} (h : ¬ OkBy n xs) : okByB n xs = false := by
  unfold okByB
  exact @decide_eq_false _ (Classical.propDecidable _) h
theorem okBy_iff {n : Nat} {xs : List Int} : okByB n xs = true ↔ OkBy n xs :=
  ⟨fun h => Classical.byContradiction fun c => (by rw [okBy_no c] at h; cases h), okBy_yes⟩
/-- What spec.RoundBy answers. -/
noncomputable def byRes (n : Nat) (xs : List Int) : List Int := if okByB n xs then byN n xs n else []
theorem byRes_no {n : Nat} {xs : List Int} (h : ¬ OkBy n xs) : byRes n xs = [] := by unfold byRes; rw [okBy_no h]; rfl
theorem byRes_yes {n : Nat} {xs : List Int} (h : OkBy n xs) : byRes n xs = byN n xs n := by unfold byRes; rw [okBy_yes h]; rfl
theorem nil_made (w : World) (N : Nat) (h : N ≤ w.heap.size) : IsInts (w.alloc (.cells #[] 3)) N (.slice (some ⟨w.heap.size, 0, none⟩) 0 0) [] := World.ownsRow_made w #[] 0 h (by simp [maxLen]) rfl
end Go.Proofs.Ytcmobeeneleidaa
