/- Fair colours: that a new colour is tried once tells whether there are any. -/
import Derived.Test.YtfjcdcjhdjkjaaaGI
namespace Go.Proofs.Ytfjcdcjhdjkjaaa
open Go.RowKit Go.Shelf
set_option linter.unusedVariables false
/-- Two colours exchanged. -/
def swapI (a b z : Int) : Int := if z = a then b else if z = b then a else z
def swapN (a b c : Nat) : Nat := if c = a then b else if c = b then a else c
theorem swap_cast (a b c : Nat) : swapI (a : Int) (b : Int) (c : Int) = ((swapN a b c : Nat) : Int) := by
  unfold swapI swapN
  by_cases h1 : c = a
  · subst h1; simp
  · rw [if_neg (by omega), if_neg h1]
    by_cases h2 : c = b
    · subst h2; simp
    · rw [if_neg (by omega), if_neg h2]
theorem swap_inj (a b x y : Int) : swapI a b x = swapI a b y ↔ x = y := by
  unfold swapI
  constructor
  · intro h
    split at h <;> split at h <;> (try split at h) <;> (try split at h) <;> omega
  · intro h; rw [h]
theorem swapN_lt {a b c k : Nat} (ha : a < k) (hb : b < k) (hc : c < k) : swapN a b c < k := by
  unfold swapN
  split
  · exact hb
  · split
    · exact ha
    · exact hc
theorem fsum_pos (f : Nat → Nat) (k : Nat) : 0 < sumTo f k ↔ ∃ c, c < k ∧ 0 < f c := by
  induction k with
  | zero => simp [sumTo]
  | succ k ih =>
    have e : sumTo f (k + 1) = sumTo f k + f k := rfl
    rw [e]
    constructor
    · intro h
      by_cases h0 : 0 < f k
      · exact ⟨k, by omega, h0⟩
      · obtain ⟨c, h1, h2⟩ := ih.1 (by omega)
        exact ⟨c, by omega, h2⟩
    · rintro ⟨c, h1, h2⟩
      by_cases hc : c = k
      · subst hc; omega
      · have := ih.2 ⟨c, by omega, h2⟩
        omega
theorem ok_swap (q a b : Nat) (xs : List Int) (c j : Nat) (hj : j ≤ xs.length) : okTo q (xs.map (swapI (a : Int) (b : Int))) (swapN a b c) j = okTo q xs c j := by
  induction j with
  | zero => rfl
  | succ j ih =>
    show (okTo q (xs.map (swapI (a : Int) (b : Int))) (swapN a b c) j && (!q.testBit ((xs.map (swapI (a : Int) (b : Int))).length - j) || !decide ((xs.map (swapI (a : Int) (b : Int))).getD j 0 = ((swapN a b c : Nat) : Int)))) = (okTo q xs c j && (!q.testBit (xs.length - j) || !decide (xs.getD j 0 = (c : Int))))
    have e : (xs.map (swapI (a : Int) (b : Int))).getD j 0 = swapI (a : Int) (b : Int) (xs.getD j 0) := by
      rw [List.getD_eq_getElem?_getD, List.getElem?_map, List.getD_eq_getElem?_getD, List.getElem?_eq_getElem (by omega)]
      rfl
    rw [ih (by omega), List.length_map, e, ← swap_cast]
    congr 3
    exact decide_eq_decide.2 (swap_inj _ _ _ _)
theorem ways_swap (q k a b : Nat) (ha : a < k) (hb : b < k) (m : Nat) : ∀ (xs : List Int), 0 < waysN q k m xs → 0 < waysN q k m (xs.map (swapI (a : Int) (b : Int))) := by
  induction m with
  | zero => intro xs _; exact Nat.one_pos
  | succ m ih =>
    intro xs h
    obtain ⟨c, hc, h2⟩ := (fsum_pos _ k).1 (show 0 < sumTo (fun c => if okTo q xs c xs.length then waysN q k m (xs ++ [(c : Int)]) else 0) k from h)
    have hok : okTo q xs c xs.length = true := by
      cases ho : okTo q xs c xs.length
      · rw [ho] at h2; simp at h2
      · rfl
    rw [hok, if_pos rfl] at h2
    refine (fsum_pos _ k).2 ⟨swapN a b c, swapN_lt ha hb hc, ?_⟩
    show 0 < if okTo q (xs.map (swapI (a : Int) (b : Int))) (swapN a b c) (xs.map (swapI (a : Int) (b : Int))).length then waysN q k m (xs.map (swapI (a : Int) (b : Int)) ++ [((swapN a b c : Nat) : Int)]) else 0
    rw [List.length_map, ok_swap q a b xs c _ (Nat.le_refl _), hok, if_pos rfl]
    have := ih _ h2
    rwa [List.map_append, List.map_singleton, swap_cast] at this
theorem map_fix (a b : Nat) (xs : List Int) (used : Nat) (ha : used ≤ a) (hb : used ≤ b) (h : ∀ z ∈ xs, z < (used : Int)) : xs.map (swapI (a : Int) (b : Int)) = xs := by
  induction xs with
  | nil => rfl
  | cons z xs ih =>
    rw [List.map_cons, ih fun y hy => h y (List.mem_cons_of_mem _ hy)]
    have := h z List.mem_cons_self
    have e : swapI (a : Int) (b : Int) z = z := by unfold swapI; rw [if_neg (by omega), if_neg (by omega)]
    rw [e]
theorem anyN_get (f : Nat → Bool) (k : Nat) (h : anyN f k = true) : ∃ c, c < k ∧ f c = true := by
  cases hb : decide (∃ c, c < k ∧ f c = true)
  · have hn := of_decide_eq_false hb
    rw [anyN_false f k fun c hc => by
      cases hf : f c
      · rfl
      · exact absurd ⟨c, hc, hf⟩ hn] at h
    cases h
  · exact of_decide_eq_true hb
theorem can_ways (q k m : Nat) : ∀ (xs : List Int) (used : Nat), used ≤ k → (∀ z ∈ xs, z < (used : Int)) → (canN q k m xs used = true ↔ 0 < waysN q k m xs) := by
  induction m with
  | zero => intro xs used _ _; exact ⟨fun _ => Nat.one_pos, fun _ => rfl⟩
  | succ m ih =>
    intro xs used hu hx
    have hnext : ∀ c : Nat, ∀ z ∈ xs ++ [(c : Int)], z < ((max used (c + 1) : Nat) : Int) := by
      intro c z hz
      rcases List.mem_append.1 hz with hz | hz
      · have := hx z hz
        omega
      · rw [List.mem_singleton.1 hz]; omega
    constructor
    · intro h
      obtain ⟨c, hc, h2⟩ := anyN_get _ _ (show anyN (fun c => okTo q xs c xs.length && canN q k m (xs ++ [(c : Int)]) (max used (c + 1))) (min k (used + 1)) = true from h)
      rw [Bool.and_eq_true] at h2
      refine (fsum_pos (fun c => if okTo q xs c xs.length then waysN q k m (xs ++ [(c : Int)]) else 0) k).2 ⟨c, by omega, ?_⟩
      show 0 < if okTo q xs c xs.length then waysN q k m (xs ++ [(c : Int)]) else 0
      rw [h2.1, if_pos rfl]
      exact (ih _ _ (by omega) (hnext c)).1 h2.2
    · intro h
      obtain ⟨c, hc, h2⟩ := (fsum_pos _ k).1 (show 0 < sumTo (fun c => if okTo q xs c xs.length then waysN q k m (xs ++ [(c : Int)]) else 0) k from h)
      have hok : okTo q xs c xs.length = true := by
        cases ho : okTo q xs c xs.length
        · rw [ho] at h2; simp at h2
        · rfl
      rw [hok, if_pos rfl] at h2
      show anyN (fun c => okTo q xs c xs.length && canN q k m (xs ++ [(c : Int)]) (max used (c + 1))) (min k (used + 1)) = true
      by_cases hcu : c ≤ used
      · refine anyN_true _ _ c (by omega) ?_
        show (okTo q xs c xs.length && canN q k m (xs ++ [(c : Int)]) (max used (c + 1))) = true
        rw [hok, Bool.true_and]
        exact (ih _ _ (by omega) (hnext c)).2 h2
      · refine anyN_true _ _ used (by omega) ?_
        show (okTo q xs used xs.length && canN q k m (xs ++ [(used : Int)]) (max used (used + 1))) = true
        have hsw := ways_swap q k used c (by omega) hc m _ h2
        have e1 : swapN used c c = used := by unfold swapN; rw [if_neg (by omega), if_pos rfl]
        rw [List.map_append, List.map_singleton, swap_cast, e1, map_fix used c xs used (Nat.le_refl _) (by omega) hx] at hsw
        have hok2 := ok_swap q used c xs c xs.length (Nat.le_refl _)
        rw [e1, map_fix used c xs used (Nat.le_refl _) (by omega) hx, hok] at hok2
        rw [hok2, Bool.true_and]
        exact (ih _ _ (by omega) (hnext used)).2 hsw
theorem canF_ways (n s k : Nat) : canF n s k = decide (0 < waysN (bothN n s) k n []) := by
  cases hc : canF n s k
  · refine (decide_eq_false fun h => ?_).symm
    have := (can_ways (bothN n s) k n [] 0 (Nat.zero_le _) (fun z hz => by simp at hz)).2 h
    rw [show canN (bothN n s) k n [] 0 = false from hc] at this
    cases this
  · exact (decide_eq_true ((can_ways (bothN n s) k n [] 0 (Nat.zero_le _) (fun z hz => by simp at hz)).1 hc)).symm
end Go.Proofs.Ytfjcdcjhdjkjaaa
