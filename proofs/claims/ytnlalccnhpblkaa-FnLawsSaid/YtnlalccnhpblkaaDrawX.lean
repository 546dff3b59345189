/- Drawing for chapter 5: a list that is often a round. -/
import Derived.Test.YtnlalccnhpblkaaDrawT
import Derived.Test.YtnlalccnhpblkaaRndK
namespace Go.Proofs.Ytnlalccnhpblkaa
open Go.RowKit Go.Shelf
set_option linter.unusedVariables false
attribute [local go_sem] Oper.semAt_some
theorem RdAt.put {W : World} {R : Nat} {A : Option Addr} {len cap p : Nat} (h : RdAt W R A len cap p) (q : Nat) : RdAt (W.setCell ⟨R, 1, none⟩ (.int .i64 (q : Int))) R A len cap q := by
  unfold RdAt at h ⊢
  simp [World.setCell, Array.getElem?_modify, h]
theorem Reader.put {W : World} {B R p : Nat} (h : Reader W B R p) (q : Nat) : Reader (W.setCell ⟨R, 1, none⟩ (.int .i64 (q : Int))) B R q := by
  obtain ⟨⟨A, len, cap, f, h1, h2, h3⟩, hB⟩ := h
  refine ⟨⟨A, len, cap, f, h1.put q, ?_, h3⟩, hB⟩
  exact h2.aside ((Aside.refl R W).setAt 1 _) hB (by have := h1.lt; omega)
theorem Reader.under {W W' : World} {B R p h : Nat} (k : Reader W B R p) (hb : Below h W W') (hR : R < h) : Reader W' B R p := by
  obtain ⟨⟨A, len, cap, f, h1, h2, h3⟩, hB⟩ := k
  exact ⟨⟨A, len, cap, f, (hb.block R hR).trans h1, h2.below (hb.mono (by omega)), h3⟩, hB⟩
theorem aside_ints {W W' : World} {R h : Nat} {v : Value} {xs : List Int} (k : IsInts W h v xs) (ha : Aside R W W') (hR : R < h) : IsInts W' h v xs := by
  refine ⟨k.1, ?_⟩
  rcases k.2 with hn | ⟨g, cap, cur, rfl, h1, hgg, rest⟩
  · exact .inl hn
  · exact .inr ⟨g, cap, cur, rfl, h1, (ha.block g (Array.getElem?_eq_some_iff.1 hgg).1 (by omega)).trans hgg, rest⟩
/-- What a round of the drawing makes. -/
theorem draw_prod (v a n : Nat) (hv : v ≤ 8) (ha : a < 2) (hn : 1 ≤ n) : ∃ m r : Nat, r < n ∧ IntKind.i64.wrap (1 + (a : Int)) = 1 + (a : Int) ∧ wrap64 (1 + (a : Int)) = 1 + (a : Int) ∧ IntKind.i64.wrap ((v : Int) * (1 + (a : Int))) = (m : Int) ∧ wrap64 ((v : Int) * (1 + (a : Int))) = (m : Int) ∧ Int.tmod (m : Int) (n : Int) = (r : Int) := by
  have h : a = 0 ∨ a = 1 := by omega
  rcases h with rfl | rfl
  · refine ⟨v, v % n, Nat.mod_lt _ (by omega), IntWalk.i64_in _ ⟨by omega, by omega⟩, IntWalk.wrap64_in _ ⟨by omega, by omega⟩, ?_, ?_, rfl⟩
    · rw [show (v : Int) * (1 + ((0 : Nat) : Int)) = (v : Int) by simp]; exact IntWalk.i64_in _ ⟨by omega, by omega⟩
    · rw [show (v : Int) * (1 + ((0 : Nat) : Int)) = (v : Int) by simp]; exact IntWalk.wrap64_in _ ⟨by omega, by omega⟩
  · refine ⟨v * 2, (v * 2) % n, Nat.mod_lt _ (by omega), IntWalk.i64_in _ ⟨by omega, by omega⟩, IntWalk.wrap64_in _ ⟨by omega, by omega⟩, ?_, ?_, rfl⟩
    · rw [show (v : Int) * (1 + ((1 : Nat) : Int)) = ((v * 2 : Nat) : Int) by simp]; exact IntWalk.i64_in _ ⟨by omega, by omega⟩
    · rw [show (v : Int) * (1 + ((1 : Nat) : Int)) = ((v * 2 : Nat) : Int) by simp]; exact IntWalk.wrap64_in _ ⟨by omega, by omega⟩
/-- What a drawn list is: numbers of the ring. -/
def InRing (n : Nat) (xs : List Int) : Prop := xs.length ≤ 12 ∧ ∀ i, i < xs.length → 0 ≤ xs.getD i 0 ∧ xs.getD i 0 < (n : Int)
def RoundPost (W : World) (e : Ending) (w' : World) : Prop :=
  ∃ (n s : Nat) (sv : Value) (xs : List Int), e = .returned (.tuple #[.int .i64 (n : Int), .int .i64 (s : Int), sv]) ∧ 1 ≤ n ∧ n ≤ 8 ∧ s < 2 ^ n ∧ InRing n xs ∧ Below W.heap.size W w' ∧ IsInts w' W.heap.size sv xs
theorem inRing_round {n s : Nat} {xs : List Int} (h : IsRnd n s xs) (h12 : n ≤ 12) : InRing n xs := ⟨by rw [h.len]; exact h12, fun i hi => by rw [h.len] at hi; exact ⟨h.lo i hi, h.hi i hi⟩⟩
theorem inRing_snoc {n : Nat} {xs : List Int} {z : Int} (h : ∀ i, i < xs.length → 0 ≤ xs.getD i 0 ∧ xs.getD i 0 < (n : Int)) (h0 : 0 ≤ z) (hz : z < (n : Int)) : ∀ i, i < (xs ++ [z]).length → 0 ≤ (xs ++ [z]).getD i 0 ∧ (xs ++ [z]).getD i 0 < (n : Int) := fun i hi => by
  rw [List.length_append] at hi
  simp at hi
  by_cases e : i = xs.length
  · subst e; rw [getD_new]; exact ⟨h0, hz⟩
  · rw [getD_left xs _ i (by omega)]; exact h i (by omega)
end Go.Proofs.Ytnlalccnhpblkaa
