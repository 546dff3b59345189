/- Rows of places: what the loops of the model have made so far (counts, least choices, parts). -/
import Derived.Test.YtkdgbnjpjkhopaaGY
namespace Go.Proofs.Ytkdgbnjpjkhopaa
set_option linter.unusedVariables false
/-- The counts with the next place, the places below v having been added. -/
def nextN (n : Nat) (r : Nat → Nat) (i v d : Nat) : Nat := countN n r i d + (if rest n ((d : Int) - (r i : Int)) < v then countN n r i (rest n ((d : Int) - (r i : Int))) else 0)
def nextL (n : Nat) (r : Nat → Nat) (i v : Nat) : List Int := tabI n fun d => ((nextN n r i v d : Nat) : Int)
theorem nextL_len (n : Nat) (r : Nat → Nat) (i v : Nat) : (nextL n r i v).length = n := tabI_len n _
theorem nextL_get (n : Nat) (r : Nat → Nat) (i v d : Nat) (hd : d < n) : (nextL n r i v).getD d 0 = ((nextN n r i v d : Nat) : Int) := tabI_get n _ d hd
theorem nextL_zero (n : Nat) (r : Nat → Nat) (i : Nat) : nextL n r i 0 = cntL n r i := tabI_congr n _ _ fun d hd => by
  unfold nextN
  rw [if_neg (by omega), Nat.add_zero]
theorem nextL_end (n : Nat) (r : Nat → Nat) (i : Nat) (h1 : 1 ≤ n) (h2 : n ≤ 12) (hr : ∀ i, r i < n) : nextL n r i n = cntL n r (i + 1) := tabI_congr n _ _ fun d hd => by
  unfold nextN
  rw [if_pos (rest_lt n _ h1), count_step n r i d h1 h2 hd (hr i)]
theorem nextL_step (n : Nat) (r : Nat → Nat) (i v : Nat) (h1 : 1 ≤ n) (h2 : n ≤ 12) (hr : ∀ i, r i < n) (hv : v < n) :
    nextL n r i (v + 1) = (nextL n r i v).set ((v + r i) % n) ((nextN n r i v ((v + r i) % n) + countN n r i v : Nat) : Int) := by
  unfold nextL
  rw [tabI_set]
  refine tabI_congr n _ _ fun d hd => ?_
  have hh := row_hit n (r i) v d h1 h2 (hr i) hv hd
  by_cases e : d = (v + r i) % n
  · rw [if_pos e, ← e]
    have e2 := hh.1 e.symm
    unfold nextN
    rw [← e2, if_pos (by omega), if_neg (by omega), Nat.add_zero]
  · rw [if_neg e]
    have e2 : rest n ((d : Int) - (r i : Int)) ≠ v := fun c => e (hh.2 c.symm).symm
    unfold nextN
    by_cases hl : rest n ((d : Int) - (r i : Int)) < v
    · rw [if_pos hl, if_pos (by omega)]
    · rw [if_neg hl, if_neg (by omega)]
theorem nextN_le (n : Nat) (r : Nat → Nat) (i v d : Nat) : nextN n r i v d ≤ 2 ^ i + 2 ^ i := by
  unfold nextN
  have a := count_le n r i d
  split
  · have b := count_le n r i (rest n ((d : Int) - (r i : Int)))
    omega
  · omega
theorem cntL_none (n : Nat) (r : Nat → Nat) (h1 : 1 ≤ n) : cntL n r 0 = (List.replicate n 0).set 0 1 := by
  refine List.ext_getElem (by simp [cntL, tabI]) fun k hk1 hk2 => ?_
  simp only [cntL, tabI, List.getElem_map, List.getElem_range, List.getElem_set, List.getElem_replicate, count_none n r k h1]
  by_cases e : k = 0
  · subst e; simp
  · rw [if_neg e, if_neg (fun c => e c.symm)]; rfl
/-- A choice with the sum 0, no part of it above p, not empty, having it, too. -/
def accB (n : Nat) (r : Nat → Nat) (k c p : Nat) : Bool := zeroP n r k c && (List.range c).all fun d => Nat.ble d p || (!Nat.beq (d &&& c) d || !zeroP n r k d)
theorem acc_what (n : Nat) (r : Nat → Nat) (k c p : Nat) : accB n r k c p = true ↔ zsum n r k c = 0 ∧ ∀ d, p < d → d < c → SubM d c → zsum n r k d ≠ 0 := by
  unfold accB
  rw [Bool.and_eq_true, zeroP_iff, List.all_eq_true]
  constructor
  · rintro ⟨a, h⟩
    refine ⟨a, fun d h1 h2 hs hz => ?_⟩
    have e := h d (List.mem_range.2 h2)
    have e1 : Nat.ble d p = false := by
      cases hc : Nat.ble d p
      · rfl
      · have := Nat.le_of_ble_eq_true hc; omega
    have e2 : Nat.beq (d &&& c) d = true := by rw [(sub_iff d c).1 hs]; exact Nat.beq_refl d
    rw [e1, e2, (zeroP_iff n r k d).2 hz] at e
    cases e
  · rintro ⟨a, h⟩
    refine ⟨a, fun d hd => ?_⟩
    cases e1 : Nat.ble d p
    · cases e2 : Nat.beq (d &&& c) d
      · rfl
      · cases e3 : zeroP n r k d
        · rfl
        · have h1 : p < d := by
            by_cases hle : d ≤ p
            · rw [Nat.ble_eq_true_of_le hle] at e1; cases e1
            · omega
          exact absurd ((zeroP_iff n r k d).1 e3) (h d h1 (List.mem_range.1 hd) ((sub_iff d c).2 (Nat.eq_of_beq_eq_true e2)))
    · rfl
theorem bool_iff {a b : Bool} (h : a = true ↔ b = true) : a = b := by cases a <;> cases b <;> simp_all
theorem acc_start (n : Nat) (r : Nat → Nat) (k c : Nat) (hc : 0 < c) : accB n r k c ((c - 1) &&& c) = zeroP n r k c := bool_iff (by
  rw [acc_what, zeroP_iff]
  exact ⟨fun h => h.1, fun h => ⟨h, fun d h1 h2 hs _ => by
    have := sub_next c c d (Nat.and_self c) hc ((sub_iff d c).1 hs) h2
    omega⟩⟩)
theorem acc_step (n : Nat) (r : Nat → Nat) (k c p : Nat) (hp : p &&& c = p) (h0 : 0 < p) (hlt : p < c) : accB n r k c ((p - 1) &&& c) = (accB n r k c p && !zeroP n r k p) := bool_iff (by
  have hle : (p - 1) &&& c ≤ p - 1 := Nat.and_le_left
  rw [Bool.and_eq_true, acc_what, acc_what]
  constructor
  · rintro ⟨a, h⟩
    refine ⟨⟨a, fun d h1 h2 hs => h d (by omega) h2 hs⟩, ?_⟩
    have := h p (by omega) hlt ((sub_iff p c).2 hp)
    cases hz : zeroP n r k p
    · rfl
    · exact absurd ((zeroP_iff n r k p).1 hz) this
  · rintro ⟨⟨a, h⟩, hz⟩
    refine ⟨a, fun d h1 h2 hs => ?_⟩
    by_cases hd : p < d
    · exact h d hd h2 hs
    · by_cases e : d = p
      · subst e
        intro c0
        rw [(zeroP_iff n r k d).2 c0] at hz
        cases hz
      · have := sub_next c p d hp h0 ((sub_iff d c).1 hs) (by omega)
        omega)
theorem acc_end (n : Nat) (r : Nat → Nat) (k c : Nat) (hc : 0 < c) : accB n r k c 0 = leastC n r k c := bool_iff (by
  rw [acc_what, least_what]
  constructor
  · rintro ⟨a, h⟩; exact ⟨by omega, a, fun d h1 h2 hs => h d (by omega) h1 hs⟩
  · rintro ⟨_, a, h⟩; exact ⟨a, fun d h1 h2 hs => h d h2 (by omega) hs⟩)
theorem pick_one (n : Nat) (r : Nat → Nat) (k : Nat) : pickL (leastC n r k) 1 = [] := by
  show (if leastC n r k 0 then _ else _) = _
  rw [show leastC n r k 0 = false from rfl]
  rfl
/-- Choices that aren't to be gone through don't turn the most. -/
theorem bestG_skip (n : Nat) (r : Nat → Nat) (k : Nat) (B : Nat → Nat) (left i j : Nat) (hij : i ≤ j) (h : ∀ t, i ≤ t → t < j → partP n r k left (left - t) = false) : bestG n r k B left j = bestG n r k B left i := by
  induction j with
  | zero => obtain rfl : i = 0 := by omega
            rfl
  | succ j ih =>
    by_cases e : i = j + 1
    · rw [e]
    · have hf := h j (by omega) (by omega)
      have e2 : bestG n r k B left (j + 1) = if partP n r k left (left - j) then max (bestG n r k B left j) (1 + B (lessN left (left - j))) else bestG n r k B left j := rfl
      rw [e2, hf, if_neg (by simp), ih (by omega) fun t h1 h2 => h t h1 (by omega)]
/-- The next part that is gone through. -/
theorem best_next (n : Nat) (r : Nat → Nat) (k : Nat) (B : Nat → Nat) (left c : Nat) (hc : c &&& left = c) (h0 : 0 < c) (hle : c ≤ left) :
    bestG n r k B left (left - ((c - 1) &&& left)) = if partP n r k left c then max (bestG n r k B left (left - c)) (1 + B (lessN left c)) else bestG n r k B left (left - c) := by
  have hn : (c - 1) &&& left ≤ c - 1 := Nat.and_le_left
  rw [bestG_skip n r k B left (left - c + 1) (left - ((c - 1) &&& left)) (by omega) fun t h1 h2 => ?_]
  · show (if partP n r k left (left - (left - c)) then max (bestG n r k B left (left - c)) (1 + B (lessN left (left - (left - c)))) else bestG n r k B left (left - c)) = _
    rw [show left - (left - c) = c by omega]
  · cases hp : partP n r k left (left - t)
    · rfl
    · have hs := ((partP_iff n r k left _).1 hp).1
      have := sub_next left c (left - t) hc h0 ((sub_iff _ _).1 hs) (by omega)
      omega
theorem bestF_le (n : Nat) (r : Nat → Nat) (k f left : Nat) : bestF n r k f left ≤ left := by
  induction f generalizing left with
  | zero => exact Nat.zero_le _
  | succ f ih =>
    have e : bestF n r k (f + 1) left = if left = 0 then 0 else bestG n r k (bestF n r k f) left left := rfl
    rw [e]
    by_cases h0 : left = 0
    · rw [if_pos h0]; omega
    · rw [if_neg h0]
      rcases bestG_at n r k (bestF n r k f) left left with hg | ⟨c, hc, hp, hg⟩
      · rw [hg]
        exact Nat.le_trans (ih _) (less_sub _ _).le
      · rw [hg]
        obtain ⟨hs, hl, hz⟩ := (partP_iff n r k left c).1 hp
        have hsm := less_small left c (fun e => hl (by rw [e]; exact Nat.zero_and _)) hs
        have := ih (lessN left c)
        omega
theorem bestG_le (n : Nat) (r : Nat → Nat) (k f left j : Nat) : bestG n r k (bestF n r k f) left j ≤ left := by
  rcases bestG_at n r k (bestF n r k f) left j with hg | ⟨c, hc, hp, hg⟩
  · rw [hg]
    exact Nat.le_trans (bestF_le n r k f _) (less_sub _ _).le
  · rw [hg]
    obtain ⟨hs, hl, hz⟩ := (partP_iff n r k left c).1 hp
    have hsm := less_small left c (fun e => hl (by rw [e]; exact Nat.zero_and _)) hs
    have := bestF_le n r k f (lessN left c)
    omega
end Go.Proofs.Ytkdgbnjpjkhopaa
