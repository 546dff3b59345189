/- Ways of least length: the program's closure, which calls itself. -/
import Derived.Test.YtnlalccnhpblkaaGreatGF
import Derived.Test.YtnlalccnhpblkaaGreatGE
namespace Go.Proofs.YtnlalccnhpblkaaGreat
open Go.RowKit Go.Shelf
set_option linter.unusedVariables false
attribute [local go_sem] Oper.semAt_some
theorem Aside.tri {T : Nat} {W W' : World} (h : Aside T W W') {B n s M : Nat} (hB : Tri W B n s M) (hn : B ≠ T) : Tri W' B n s M := (h.block B hB.lt hn).trans hB
theorem tri_own {β : Type} (B n s M : Nat) {N : Nat} (hB : B < N) : OwnFrom N (fun (_ : β) W => Tri W B n s M) := fun t W W' row h hg hr => h.kept hg (fun e => by have := (hr B e.symm).1; omega)
theorem dist_none' (n s v : Nat) (h1 : 1 ≤ n) (hd : distN n s v = 0) : v = 0 := by
  unfold distN at hd
  by_cases hp : (partN n s).testBit v = true
  · rw [if_pos hp] at hd
    have hb := (far_iff n s v 0 (by omega)).2 (by omega)
    by_cases e : v = 0
    · exact e
    · have : (iterN n s 0).testBit v = false := Nat.testBit_lt_two_pow (Nat.one_lt_two_pow e)
      rw [hb] at this
      cases this
  · rw [if_neg hp] at hd
    omega
/-- What a step adds to the ways of v. -/
def wayS (n s v k x : Nat) : Nat := if atS (partN n s) (farN n s) ((rest n ((v : Int) - (k : Int)) : Nat) : Int) = atS (partN n s) (farN n s) (v : Int) - 1 then x + gotN n s n (rest n ((v : Int) - (k : Int))) else x
theorem got_le (n s v : Nat) (h2 : n ≤ 12) : gotN n s n v ≤ 106993205379072 := by
  unfold gotN
  split
  · have h := way_le n s h2 (distN n s v).toNat v
    have := pow12 (distN n s v).toNat (by omega)
    omega
  · omega
theorem wayS_le (n s v : Nat) (h2 : n ≤ 12) (l : List Nat) (a : Nat) : fold (wayS n s v) a l ≤ a + 106993205379072 * l.length := by
  unfold fold
  induction l generalizing a with
  | nil => simp
  | cons k l ih =>
    simp only [List.foldl_cons, List.length_cons]
    have h := ih (wayS n s v k a)
    have h' : wayS n s v k a ≤ a + 106993205379072 := by
      unfold wayS
      split
      · have := got_le n s (rest n ((v : Int) - (k : Int))) h2
        omega
      · omega
    rw [Nat.mul_succ]
    omega
theorem atS_dist (n s v : Nat) : atS (partN n s) (farN n s) (v : Int) = if (partN n s).testBit v then distN n s v else 0 := by
  rw [atS_nat]
  unfold distN
  split <;> rfl
theorem part_rest (n s v k : Nat) (h1 : 1 ≤ n) (hv : (partN n s).testBit v = true) (hk : s.testBit k = true) (hkn : k < n) : (partN n s).testBit (rest n ((v : Int) - (k : Int))) = true := by
  rw [part_bit n s _ h1] at hv ⊢
  refine ⟨rest_lt n _ h1, ?_⟩
  have hd : partsN n s ∣ k := parts_dvd_step n s n k hkn hk
  have hn := parts_dvd_n n s n
  have e := rest_eq n ((v : Int) - (k : Int)) h1
  have e2 : ((rest n ((v : Int) - (k : Int)) : Nat) : Int) = ((v : Int) - (k : Int)) % (n : Int) := by
    unfold rest
    have := Int.emod_nonneg ((v : Int) - (k : Int)) (show (n : Int) ≠ 0 by omega)
    omega
  have h3 : ((partsN n s : Nat) : Int) ∣ ((rest n ((v : Int) - (k : Int)) : Nat) : Int) := by
    rw [e2, Int.emod_def]
    exact Int.dvd_sub (Int.dvd_sub (Int.natCast_dvd_natCast.2 hv.2) (Int.natCast_dvd_natCast.2 hd)) (Int.dvd_mul_of_dvd_left (Int.natCast_dvd_natCast.2 hn))
  exact Int.natCast_dvd_natCast.1 h3
/-- A step that leads nearer leads to a place of a distance less by 1. -/
theorem near_dist (n s v k : Nat) (h1 : 1 ≤ n) (hv : v < n) (h : atS (partN n s) (farN n s) ((rest n ((v : Int) - (k : Int)) : Nat) : Int) = atS (partN n s) (farN n s) (v : Int) - 1) :
    0 < distN n s v ∧ distN n s (rest n ((v : Int) - (k : Int))) < distN n s v := by
  rw [atS_dist, atS_dist] at h
  have r1 := distN_range n s v
  have r2 := distN_range n s (rest n ((v : Int) - (k : Int)))
  cases hb : (partN n s).testBit v
  · rw [hb] at h
    cases hc : (partN n s).testBit (rest n ((v : Int) - (k : Int)))
    · rw [hc] at h; simp at h
    · rw [hc] at h
      simp only [if_true, Bool.false_eq_true, if_false] at h
      have : distN n s (rest n ((v : Int) - (k : Int))) = (farN n s (rest n ((v : Int) - (k : Int))) : Int) := by unfold distN; rw [hc]; rfl
      omega
  · rw [hb] at h
    simp only [if_true] at h
    cases hc : (partN n s).testBit (rest n ((v : Int) - (k : Int)))
    · rw [hc] at h
      simp only [Bool.false_eq_true, if_false] at h
      have : distN n s (rest n ((v : Int) - (k : Int))) = -1 := by unfold distN; rw [hc]; rfl
      omega
    · rw [hc] at h
      simp only [if_true] at h
      have : distN n s (rest n ((v : Int) - (k : Int))) = (farN n s (rest n ((v : Int) - (k : Int))) : Int) := by unfold distN; rw [hc]; rfl
      omega
theorem ways_sum (n s v : Nat) (h1 : 1 ≤ n) (h2 : n ≤ 12) (hv : v < n) (hv0 : v ≠ 0) (j : Nat) (hj : j ≤ n) :
    overSet s (wayS n s v) j 0 = if 0 ≤ distN n s v then sumTo (wayT n s v ((distN n s v).toNat - 1) (wayN n s ((distN n s v).toNat - 1))) j else 0 := by
  induction j with
  | zero => show 0 = _; split <;> rfl
  | succ j ih =>
    rw [over_step, ih (by omega)]
    by_cases hd : 0 ≤ distN n s v
    · have hpos : 0 < distN n s v := by
        rcases Int.lt_or_eq_of_le hd with h | h
        · exact h
        · exact absurd (dist_none' n s v h1 h.symm) hv0
      have hp : (partN n s).testBit v = true := by
        cases hb : (partN n s).testBit v
        · unfold distN at hd; rw [hb] at hd; simp at hd
        · rfl
      rw [if_pos hd, if_pos hd]
      show (if s.testBit j = true then wayS n s v j (sumTo _ j) else sumTo _ j) = sumTo _ j + wayT n s v ((distN n s v).toNat - 1) (wayN n s ((distN n s v).toNat - 1)) j
      by_cases hs : s.testBit j = true
      · rw [if_pos hs]
        have hpr := part_rest n s v j h1 hp hs (by omega)
        unfold wayS wayT
        rw [atS_dist, atS_dist, hp, hpr]
        simp only [if_true]
        have r2 := distN_range n s (rest n ((v : Int) - (j : Int)))
        have r1 := distN_range n s v
        by_cases e : distN n s (rest n ((v : Int) - (j : Int))) = distN n s v - 1
        · have e' : distN n s (rest n ((v : Int) - (j : Int))) = (((distN n s v).toNat - 1 : Nat) : Int) := by omega
          rw [if_pos e, if_pos ⟨hs, e'⟩]
          unfold gotN
          rw [if_pos (by omega), e']
          simp
        · rw [if_neg e, if_neg (fun h => e (by have := h.2; omega))]
          rfl
      · rw [if_neg hs]
        unfold wayT
        rw [if_neg (fun h => hs h.1)]
        rfl
    · rw [if_neg hd, if_neg hd]
      split
      · unfold wayS
        rw [if_neg (fun h => by have := (near_dist n s v j h1 hv h).1; omega)]
      · rfl
theorem ways_got (n s v : Nat) (h1 : 1 ≤ n) (h2 : n ≤ 12) (hv : v < n) (hv0 : v ≠ 0) : overSet s (wayS n s v) n 0 = gotN n s n v := by
  rw [ways_sum n s v h1 h2 hv hv0 n (Nat.le_refl n)]
  unfold gotN
  have r1 := distN_range n s v
  by_cases hd : 0 ≤ distN n s v
  · have hpos : 0 < distN n s v := by
      rcases Int.lt_or_eq_of_le hd with h | h
      · exact h
      · exact absurd (dist_none' n s v h1 h.symm) hv0
    rw [if_pos hd, if_pos ⟨hd, by omega⟩]
    obtain ⟨d, hd'⟩ : ∃ d : Nat, (distN n s v).toNat = d + 1 := ⟨(distN n s v).toNat - 1, by omega⟩
    rw [hd']
    rfl
  · rw [if_neg hd, if_neg (fun h => hd h.1)]
end Go.Proofs.YtnlalccnhpblkaaGreat
