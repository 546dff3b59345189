/- Texts of mine, laid together: FreB FreC FreD FreE FreF FreX. -/
import Derived.Test.YtkdgbnjpjkhopaaFreA
import Derived.Test.YtkdgbnjpjkhopaaGB
import Derived.Test.YtkdgbnjpjkhopaaGG
import Derived.Test.YtkdgbnjpjkhopaaGA
import Derived.BigQuiet
/- Free sets: the model's functions that try all sets. -/
namespace Go.Proofs.Ytkdgbnjpjkhopaa
open Go.RowKit Go.Shelf
set_option linter.unusedVariables false
end Go.Proofs.Ytkdgbnjpjkhopaa

/- Free sets: the model's watching, neat and sumless sets. -/
namespace Go.Proofs.Ytkdgbnjpjkhopaa
open Go.RowKit Go.Shelf
set_option linter.unusedVariables false
theorem or_one_nat (s : Nat) (hs : s < 2 ^ 40) : bits .or .i64 (s : Int) 1 = ((s ||| 1 : Nat) : Int) := or_nat s 1 (by omega) (by omega)
theorem or_one_lt (n s : Nat) (h1 : 1 ≤ n) (hs : s < 2 ^ n) : s ||| 1 < 2 ^ n := Nat.or_lt_two_pow hs (by have := Nat.pow_le_pow_right (n := 2) (by omega) h1; omega)
theorem all_cast (N : Nat) (h1 : 1 ≤ N) (h : N ≤ 4096) : IntKind.i64.wrap ((N : Int) - 1) = ((N - 1 : Nat) : Int) ∧ wrap64 ((N : Int) - 1) = ((N - 1 : Nat) : Int) := by
  rw [show (N : Int) - 1 = ((N - 1 : Nat) : Int) by omega]
  exact ⟨IntWalk.i64_in _ ⟨by omega, by omega⟩, IntWalk.wrap64_in _ ⟨by omega, by omega⟩⟩
theorem beq_cast_ne {a b : Nat} (h : a ≠ b) : ((a : Int) == (b : Int)) = false := by
  cases hb : ((a : Int) == (b : Int))
  · rfl
  · exact absurd (Int.ofNat.inj (eq_of_beq hb)) h
theorem wide_eq (n s x : Nat) : wideN n s x = true ↔ sumN n (s ||| 1) x = 2 ^ n - 1 := by
  unfold wideN
  exact ⟨Nat.eq_of_beq_eq_true, fun h => by rw [h]; exact Nat.beq_refl _⟩
end Go.Proofs.Ytkdgbnjpjkhopaa

/- Fair colours: the model's functions. -/
namespace Go.Proofs.Ytkdgbnjpjkhopaa
open Go.RowKit Go.Shelf
set_option linter.unusedVariables false
attribute [local go_sem] Oper.semAt_some
theorem wpList_append_any {ops : Array Oper} {rest : List Oper} {o : Oper} {act : Act} {Q : Exit → Act → World → Prop} (hgd : o.guard = none) (s x : Operand) (ho : o.op = .call { callee := .builtin .append, args := #[s, x], argTypes := #[23, 23] })
    (a : Value) (ys xs : List Int) (W : World) (N g cap b : Nat) (hs : act.eval s = a) (hx : act.eval x = .slice (some ⟨g, 0, none⟩) xs.length cap) (hO : IsInts W N a ys) (hX : IsInts W b (.slice (some ⟨g, 0, none⟩) xs.length cap) xs)
    (hl : ys.length + xs.length ≤ 1000) (hN : N ≤ W.heap.size)
    (h : ∀ (v' : Value) (w1 : World), IsInts w1 N v' (ys ++ xs) → (∀ (v : Value) (zs : List Int) (N' : Nat), IsInts W N' v zs → (v.ownBlock = none ∨ v.ownBlock ≠ a.ownBlock) → IsInts w1 N' v zs) →
      (∀ (B : Nat) (w0 : World), B ≤ N → Below B w0 W → Below B w0 w1) → W.heap.size ≤ w1.heap.size → wpList Try.prog ops Q rest (act.put o.dst v') w1) : wpList Try.prog ops Q (o :: rest) act W :=
  wpList_plain hgd fun _ hK => wp_append_any s x ho a ys xs W N g cap b hs hx hO hX hl hN fun v' w1 h1 h2 h3 h4 => hK _ _ (h v' w1 h1 h2 h3 h4)
/-- Whether the colour c is fair behind the colours xs, as far as the first j of them go; q are both steps. -/
def okTo (q : Nat) (xs : List Int) (c : Nat) : Nat → Bool
  | 0 => true
  | j + 1 => okTo q xs c j && (!q.testBit (xs.length - j) || !decide (xs.getD j 0 = (c : Int)))
/-- How many ways lead on, m colours being open. -/
def waysN (q k : Nat) : Nat → List Int → Nat
  | 0, _ => 1
  | m + 1, xs => sumTo (fun c => if okTo q xs c xs.length then waysN q k m (xs ++ [(c : Int)]) else 0) k
theorem csumTo_le (f : Nat → Nat) (b k : Nat) (h : ∀ v, v < k → f v ≤ b) : sumTo f k ≤ k * b := by
  induction k with
  | zero => simp [sumTo]
  | succ k ih =>
    have e : sumTo f (k + 1) = sumTo f k + f k := rfl
    have := ih fun v hv => h v (by omega)
    have := h k (by omega)
    rw [e, Nat.succ_mul]
    omega
theorem cways_le (q k m : Nat) (xs : List Int) : waysN q k m xs ≤ k ^ m := by
  induction m generalizing xs with
  | zero => simp [waysN]
  | succ m ih =>
    rw [Nat.pow_succ, Nat.mul_comm]
    refine csumTo_le _ (k ^ m) k fun v hv => ?_
    split
    · exact ih _
    · exact Nat.zero_le _
def waysF (n s k : Nat) : Nat := waysN (bothN n s) k n []
/-- Where FreeWays tells nothing. -/
def NoWays (n s k : Int) : Prop := NoStep n s ∨ ¬ n ≤ 8 ∨ ¬ (0 ≤ k ∧ k ≤ 4)
end Go.Proofs.Ytkdgbnjpjkhopaa

/- Fair colours: the model's least number. -/
namespace Go.Proofs.Ytkdgbnjpjkhopaa
open Go.RowKit Go.Shelf
set_option linter.unusedVariables false
attribute [local go_sem] Oper.semAt_some
theorem wpList_append_want {ops : Array Oper} {rest : List Oper} {o : Oper} {act : Act} {Q : Exit → Act → World → Prop} (hgd : Region.wanted o (yielded ops act.tmps) = true) (s x : Operand) (ho : o.op = .call { callee := .builtin .append, args := #[s, x], argTypes := #[23, 23] })
    (a : Value) (ys xs : List Int) (W : World) (N g cap b : Nat) (hs : act.eval s = a) (hx : act.eval x = .slice (some ⟨g, 0, none⟩) xs.length cap) (hO : IsInts W N a ys) (hX : IsInts W b (.slice (some ⟨g, 0, none⟩) xs.length cap) xs)
    (hl : ys.length + xs.length ≤ 1000) (hN : N ≤ W.heap.size)
    (h : ∀ (v' : Value) (w1 : World), IsInts w1 N v' (ys ++ xs) → (∀ (v : Value) (zs : List Int) (N' : Nat), IsInts W N' v zs → (v.ownBlock = none ∨ v.ownBlock ≠ a.ownBlock) → IsInts w1 N' v zs) →
      (∀ (B : Nat) (w0 : World), B ≤ N → Below B w0 W → Below B w0 w1) → W.heap.size ≤ w1.heap.size → wpList Try.prog ops Q rest (act.put o.dst v') w1) : wpList Try.prog ops Q (o :: rest) act W :=
  BigFrame.wpList_want hgd fun _ hK => wp_append_any s x ho a ys xs W N g cap b hs hx hO hX hl hN fun v' w1 h1 h2 h3 h4 => hK _ _ (h v' w1 h1 h2 h3 h4)
/-- Whether there are fair colours that begin with xs, a new colour being tried once. -/
def canN (q k : Nat) : Nat → List Int → Nat → Bool
  | 0, _, _ => true
  | m + 1, xs, used => anyN (fun c => okTo q xs c xs.length && canN q k m (xs ++ [(c : Int)]) (max used (c + 1))) (min k (used + 1))
end Go.Proofs.Ytkdgbnjpjkhopaa

/- Fair colours: the model's FreeColours. -/
namespace Go.Proofs.Ytkdgbnjpjkhopaa
open Go.RowKit Go.Shelf
set_option linter.unusedVariables false
/-- The least number from k on that p lets by, f ones being tried. -/
def leastK (p : Nat → Bool) : Nat → Nat → Nat
  | 0, k => k
  | f + 1, k => if p k then k else leastK p f (k + 1)
theorem leastK_eq (p : Nat → Bool) (f k m : Nat) (h1 : k ≤ m) (h2 : m ≤ k + f) (h3 : p m = true) (h4 : ∀ j, k ≤ j → j < m → p j = false) : leastK p f k = m := by
  induction f generalizing k with
  | zero =>
    show k = m
    omega
  | succ f ih =>
    show (if p k then k else leastK p f (k + 1)) = m
    by_cases e : k = m
    · subst e; rw [if_pos h3]
    · rw [h4 k (Nat.le_refl _) (by omega)]
      exact ih (k + 1) (by omega) (by omega) fun j hj hm => h4 j (by omega) hm
theorem ok_fresh (q : Nat) (xs : List Int) (c j : Nat) (hj : j ≤ xs.length) (h : ∀ i, i < xs.length → xs.getD i 0 < (c : Int)) : okTo q xs c j = true := by
  induction j with
  | zero => rfl
  | succ j ih =>
    show (okTo q xs c j && (!q.testBit (xs.length - j) || !decide (xs.getD j 0 = (c : Int)))) = true
    rw [ih (by omega), decide_eq_false (by have := h j (by omega); omega)]
    simp
/-- With as many colours as are open there are fair ones. -/
theorem can_fresh (q k m : Nat) (xs : List Int) (used : Nat) (hu : used + m ≤ k) (h : ∀ i, i < xs.length → xs.getD i 0 < (used : Int)) : canN q k m xs used = true := by
  induction m generalizing xs used with
  | zero => rfl
  | succ m ih =>
    show anyN (fun c => okTo q xs c xs.length && canN q k m (xs ++ [(c : Int)]) (max used (c + 1))) (min k (used + 1)) = true
    refine anyN_true _ _ used (by omega) ?_
    have hm : max used (used + 1) = used + 1 := by omega
    show (okTo q xs used xs.length && canN q k m (xs ++ [(used : Int)]) (max used (used + 1))) = true
    rw [ok_fresh q xs used xs.length (Nat.le_refl _) h, hm, Bool.true_and]
    refine ih _ _ (by omega) fun i hi => ?_
    rw [List.length_append, List.length_singleton] at hi
    by_cases e : i < xs.length
    · have := h i e
      rw [List.getD_eq_getElem?_getD, List.getElem?_append_left e, ← List.getD_eq_getElem?_getD]
      omega
    · obtain rfl : i = xs.length := by omega
      rw [List.getD_eq_getElem?_getD, List.getElem?_append_right (Nat.le_refl _), Nat.sub_self]
      show (used : Int) < ((used + 1 : Nat) : Int)
      omega
def canF (n s k : Nat) : Bool := canN (bothN n s) k n [] 0
def colF (n s : Nat) : Nat := leastK (canF n s) 8 1
theorem canF_n (n s : Nat) : canF n s n = true := can_fresh _ n n [] 0 (by omega) (fun i hi => by simp at hi)
theorem colF_eq (n s k : Nat) (h1 : 1 ≤ k) (h2 : k ≤ 9) (h3 : canF n s k = true) (h4 : ∀ j, 1 ≤ j → j < k → canF n s j = false) : colF n s = k := leastK_eq _ 8 1 k h1 (by omega) h3 h4
/-- Where FreeColours tells nothing. -/
def NoCol (n s : Int) : Prop := NoStep n s ∨ ¬ n ≤ 8
end Go.Proofs.Ytkdgbnjpjkhopaa

/- The exact laws of chapter 6 over given contracts of the program. -/
namespace Go.Proofs.Ytkdgbnjpjkhopaa
open Go.RowKit Go.Shelf
set_option linter.unusedVariables false
theorem not_noCol {n s : Int} (h : ¬ NoCol n s) : ∃ m t : Nat, n = (m : Int) ∧ s = (t : Int) ∧ 1 ≤ m ∧ m ≤ 8 ∧ t < 2 ^ m ∧ t.testBit 0 = false := by
  obtain ⟨m, t, rfl, rfl, h1, h2, h3, h4⟩ := not_noStep (fun hh => h (.inl hh))
  have h5 : (m : Int) ≤ 8 := Decidable.byContradiction fun hh => h (.inr hh)
  exact ⟨m, t, rfl, rfl, h1, by omega, h3, h4⟩
theorem not_noWays {n s k : Int} (h : ¬ NoWays n s k) : ∃ m t j : Nat, n = (m : Int) ∧ s = (t : Int) ∧ k = (j : Int) ∧ 1 ≤ m ∧ m ≤ 8 ∧ t < 2 ^ m ∧ t.testBit 0 = false ∧ j ≤ 4 := by
  obtain ⟨m, t, rfl, rfl, h1, h2, h3, h4⟩ := not_noStep (fun hh => h (.inl hh))
  have h5 : (m : Int) ≤ 8 := Decidable.byContradiction fun hh => h (.inr (.inl hh))
  have h6 : 0 ≤ k ∧ k ≤ 4 := Decidable.byContradiction fun hh => h (.inr (.inr hh))
  exact ⟨m, t, k.toNat, rfl, rfl, by omega, h1, by omega, h3, h4, by omega⟩
end Go.Proofs.Ytkdgbnjpjkhopaa
