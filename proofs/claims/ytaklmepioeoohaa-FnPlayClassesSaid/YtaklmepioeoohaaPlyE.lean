/- Plays of a ring: what the list of all plays says (promise 67). Written by gen68.py. -/
import Derived.Test.YtaklmepioeoohaaPlyD
namespace Go.Proofs.Ytaklmepioeoohaa
open Go.RowKit Go.Shelf
set_option linter.unusedVariables false
theorem getD_in (l : List Int) (y : Int) (i : Nat) (h : i < l.length) : (l ++ [y]).getD i 0 = l.getD i 0 := by
  simp only [List.getD_eq_getElem?_getD, List.getElem?_append_left h]
theorem getD_end (l : List Int) (y : Int) : (l ++ [y]).getD l.length 0 = y := by
  simp [List.getD_eq_getElem?_getD]
theorem playL_get (n j i : Nat) (hi : i < (playL n j).length) : ∃ x : Nat, (playL n j).getD i 0 = (x : Int) ∧ x < 2 * j ∧ playB n x = true ∧ ∀ i', i' < i → ∃ y : Nat, (playL n j).getD i' 0 = (y : Int) ∧ y < x := by
  induction j generalizing i with
  | zero => exact absurd hi (Nat.not_lt_zero _)
  | succ j ih =>
    have e : playL n (j + 1) = if playB n (2 * j) then playL n j ++ [((2 * j : Nat) : Int)] else playL n j := rfl
    cases hb : playB n (2 * j)
    · rw [hb] at e
      have e' : playL n (j + 1) = playL n j := e
      rw [e'] at hi ⊢
      obtain ⟨x, a, b, c, d⟩ := ih i hi
      exact ⟨x, a, by omega, c, d⟩
    · rw [hb] at e
      have e' : playL n (j + 1) = playL n j ++ [((2 * j : Nat) : Int)] := e
      rw [e'] at hi ⊢
      rw [List.length_append] at hi
      have hi' : i < (playL n j).length + 1 := hi
      by_cases c : i < (playL n j).length
      · obtain ⟨x, a1, a2, a3, a4⟩ := ih i c
        refine ⟨x, by rw [getD_in _ _ _ c]; exact a1, by omega, a3, fun i' h' => ?_⟩
        obtain ⟨y, b1, b2⟩ := a4 i' h'
        exact ⟨y, by rw [getD_in _ _ _ (by omega)]; exact b1, b2⟩
      · obtain rfl : i = (playL n j).length := by omega
        refine ⟨2 * j, getD_end _ _, by omega, hb, fun i' h' => ?_⟩
        obtain ⟨y, b1, b2, _, _⟩ := ih i' h'
        exact ⟨y, by rw [getD_in _ _ _ h']; exact b1, b2⟩
def cntH (p : Nat → Bool) : Nat → Nat → Nat
  | 0, a => if p a then 1 else 0
  | k + 1, a => cntH p k a + cntH p k (a + 2 ^ k)
theorem playL_count (n k a : Nat) : (playL n (a + 2 ^ k)).length = (playL n a).length + cntH (fun j => playB n (2 * j)) k a := by
  induction k generalizing a with
  | zero =>
    show (if playB n (2 * a) then playL n a ++ [((2 * a : Nat) : Int)] else playL n a).length = (playL n a).length + (if playB n (2 * a) then 1 else 0)
    cases playB n (2 * a)
    · rfl
    · rw [if_pos rfl, if_pos rfl, List.length_append]; rfl
  | succ k ih =>
    have h := ih (a + 2 ^ k)
    rw [ih a, Nat.add_assoc] at h
    rw [Nat.pow_succ, Nat.mul_two, Nat.add_assoc] at *
    rw [h]
    show _ = _ + (cntH _ k a + cntH _ k (a + 2 ^ k))
    omega
theorem play_counts : ((List.range 12).all fun n => !(Nat.ble 3 n && Nat.beq (n % 2) 1) || Nat.beq (cntH (fun j => playB n (2 * j)) (n - 1) 0) (2 ^ ((n - 1) / 2))) = true := by decide +kernel
theorem playL_size (n : Nat) (h1 : 3 ≤ n) (h2 : n ≤ 11) (h3 : n % 2 = 1) : (playL n (2 ^ (n - 1))).length = 2 ^ ((n - 1) / 2) := by
  have h := List.all_eq_true.1 play_counts n (List.mem_range.2 (by omega))
  rw [Nat.ble_eq_true_of_le h1, h3] at h
  have h' : Nat.beq (cntH (fun j => playB n (2 * j)) (n - 1) 0) (2 ^ ((n - 1) / 2)) = true := h
  have e := playL_count n (n - 1) 0
  rw [Nat.zero_add, Nat.eq_of_beq_eq_true h'] at e
  rw [e]
  exact Nat.zero_add _
end Go.Proofs.Ytaklmepioeoohaa
