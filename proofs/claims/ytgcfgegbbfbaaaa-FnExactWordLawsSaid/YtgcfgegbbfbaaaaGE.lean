/- Texts of mine, laid together: FarW FarX FarY FarZ. -/
import Derived.Test.YtgcfgegbbfbaaaaGD
/- Ways of least length: how many words of steps lead to each place, level by level. -/
namespace Go.Proofs.Ytgcfgegbbfbaaaa
open Go.RowKit
set_option linter.unusedVariables false
/-- The ways to v by way of the step k, where F holds the ways of places of the distance d. -/
def wayT (n s v d : Nat) (F : Nat → Nat) (k : Nat) : Nat := if s.testBit k = true ∧ distN n s (rest n ((v : Int) - (k : Int))) = (d : Int) then F (rest n ((v : Int) - (k : Int))) else 0
/-- The ways to v, if its distance is d. -/
def wayN (n s : Nat) : Nat → Nat → Nat
  | 0, v => b2n (v == 0)
  | d + 1, v => sumTo (wayT n s v d (wayN n s d)) n
/-- The row of ways after the distance d. -/
def gotN (n s d x : Nat) : Nat := if 0 ≤ distN n s x ∧ distN n s x ≤ (d : Int) then wayN n s (distN n s x).toNat x else 0
/-- .. when the places below v have been asked for the distance d + 1. -/
def midN (n s d v x : Nat) : Nat := if distN n s x = ((d + 1 : Nat) : Int) then (if x < v then wayN n s (d + 1) x else 0) else gotN n s d x
/-- .. and of v itself the steps below k. -/
def rowN (n s d v k x : Nat) : Nat := if x = v then sumTo (wayT n s v d (wayN n s d)) k else midN n s d v x
theorem sumTo_le (f : Nat → Nat) (b k : Nat) (h : ∀ v, f v ≤ b) : sumTo f k ≤ b * k := by
  induction k with
  | zero => exact Nat.zero_le _
  | succ k ih =>
    show sumTo f k + f k ≤ b * (k + 1)
    have := h k
    rw [Nat.mul_succ]
    omega
theorem way_le (n s : Nat) (h2 : n ≤ 12) (d v : Nat) : wayN n s d v ≤ 12 ^ d := by
  induction d generalizing v with
  | zero => show b2n (v == 0) ≤ 1; unfold b2n; split <;> omega
  | succ d ih =>
    show sumTo (wayT n s v d (wayN n s d)) n ≤ 12 ^ (d + 1)
    have h := sumTo_le (wayT n s v d (wayN n s d)) (12 ^ d) n (fun k => by unfold wayT; split; exact ih _; exact Nat.zero_le _)
    have h' : 12 ^ d * n ≤ 12 ^ d * 12 := Nat.mul_le_mul_left _ h2
    rw [Nat.pow_succ]
    omega
theorem pow12 (d : Nat) (h : d ≤ 13) : 12 ^ d ≤ 106993205379072 := by
  have : (12 : Nat) ^ d ≤ 12 ^ 13 := Nat.pow_le_pow_right (by omega) h
  have e : (12 : Nat) ^ 13 = 106993205379072 := by decide
  omega
theorem ways_le (n s v d k : Nat) (h2 : n ≤ 12) (hk : k ≤ n) (hd : d ≤ 12) : sumTo (wayT n s v d (wayN n s d)) k ≤ 106993205379072 := by
  have h := sumTo_le (wayT n s v d (wayN n s d)) (12 ^ d) k (fun k => by unfold wayT; split; exact way_le n s h2 d _; exact Nat.zero_le _)
  have h' : 12 ^ d * k ≤ 12 ^ d * 12 := Nat.mul_le_mul_left _ (by omega)
  have h3 := pow12 (d + 1) (by omega)
  rw [Nat.pow_succ] at h3
  omega
theorem dist_zero (n s : Nat) (h1 : 1 ≤ n) (h2 : n ≤ 12) (hs : s < 2 ^ n) : distN n s 0 = 0 := by
  have hb : (iterN n s 0).testBit 0 = true := by
    show Nat.testBit 1 0 = true
    rfl
  have hp : (partN n s).testBit 0 = true := by
    rw [← iter_part n s h1 h2 hs]
    exact iter_mono_le n s 0 0 n (Nat.zero_le _) hb
  have hf := (far_iff n s 0 0 (by omega)).1 hb
  unfold distN
  rw [if_pos hp]
  omega
theorem got_zero (n s x : Nat) (h1 : 1 ≤ n) (h2 : n ≤ 12) (hs : s < 2 ^ n) : gotN n s 0 x = if x = 0 then 1 else 0 := by
  unfold gotN
  by_cases e : x = 0
  · subst e
    rw [dist_zero n s h1 h2 hs]
    rfl
  · rw [if_neg e]
    split
    · rename_i h
      have h0 : (distN n s x).toNat = 0 := by omega
      rw [h0]
      show b2n (x == 0) = 0
      simp [b2n, e]
    · rfl
theorem mid_zero (n s d x : Nat) : midN n s d 0 x = gotN n s d x := by
  unfold midN gotN
  split
  · rename_i h
    rw [if_neg (by omega), if_neg (by omega)]
  · rfl
theorem mid_end (n s d x : Nat) (hx : x < n) : midN n s d n x = gotN n s (d + 1) x := by
  unfold midN gotN
  by_cases h : distN n s x = ((d + 1 : Nat) : Int)
  · rw [if_pos h, if_pos hx, if_pos (by omega), h]
    simp
  · rw [if_neg h]
    by_cases h' : 0 ≤ distN n s x ∧ distN n s x ≤ (d : Int)
    · rw [if_pos h', if_pos (by omega)]
    · rw [if_neg h', if_neg (by omega)]
theorem mid_skip (n s d v x : Nat) (h : ¬ distN n s v = ((d + 1 : Nat) : Int)) : midN n s d (v + 1) x = midN n s d v x := by
  unfold midN
  by_cases e : x = v
  · subst e
    rw [if_neg h, if_neg h]
  · by_cases a : x < v
    · simp only [if_pos a, if_pos (show x < v + 1 by omega)]
    · simp only [if_neg a, if_neg (show ¬ x < v + 1 by omega)]
theorem row_start (n s d v x : Nat) (h0 : s.testBit 0 = false) (h : distN n s v = ((d + 1 : Nat) : Int)) : rowN n s d v 1 x = midN n s d v x := by
  unfold rowN
  by_cases e : x = v
  · subst e
    rw [if_pos rfl]
    unfold midN
    rw [if_pos h, if_neg (by omega)]
    show 0 + wayT n s x d (wayN n s d) 0 = 0
    unfold wayT
    rw [if_neg (by rw [h0]; simp)]
  · rw [if_neg e]
theorem row_end (n s d v x : Nat) (h : distN n s v = ((d + 1 : Nat) : Int)) : rowN n s d v n x = midN n s d (v + 1) x := by
  unfold rowN
  by_cases e : x = v
  · subst e
    rw [if_pos rfl]
    unfold midN
    rw [if_pos h, if_pos (by omega)]
    rfl
  · rw [if_neg e]
    unfold midN
    by_cases a : x < v
    · simp only [if_pos a, if_pos (show x < v + 1 by omega)]
    · simp only [if_neg a, if_neg (show ¬ x < v + 1 by omega)]
theorem row_skip (n s d v k x : Nat) (h : ¬ (s.testBit k = true ∧ distN n s (rest n ((v : Int) - (k : Int))) = (d : Int))) : rowN n s d v (k + 1) x = rowN n s d v k x := by
  unfold rowN
  show (if x = v then sumTo (wayT n s v d (wayN n s d)) k + wayT n s v d (wayN n s d) k else midN n s d v x) = _
  have e : wayT n s v d (wayN n s d) k = 0 := by unfold wayT; rw [if_neg h]
  rw [e]
  rfl
theorem row_other (n s d v k z : Nat) (hv : distN n s v = ((d + 1 : Nat) : Int)) (hz : distN n s z = (d : Int)) : rowN n s d v k z = wayN n s d z := by
  unfold rowN
  rw [if_neg (fun e => by rw [e, hv] at hz; omega)]
  unfold midN
  rw [if_neg (by omega)]
  unfold gotN
  rw [if_pos (by omega), hz]
  simp
theorem row_step (n s d v k z : Nat) (hz : rest n ((v : Int) - (k : Int)) = z) (hk : s.testBit k = true) (hv : distN n s v = ((d + 1 : Nat) : Int)) (hd : distN n s z = (d : Int)) (x : Nat) :
    ((rowN n s d v (k + 1) x : Nat) : Int) = if x = v then ((rowN n s d v k v : Nat) : Int) + ((rowN n s d v k z : Nat) : Int) else ((rowN n s d v k x : Nat) : Int) := by
  rw [row_other n s d v k z hv hd]
  unfold rowN
  by_cases e : x = v
  · subst e
    rw [if_pos rfl, if_pos rfl, if_pos rfl]
    show ((sumTo (wayT n s x d (wayN n s d)) k + wayT n s x d (wayN n s d) k : Nat) : Int) = _
    have e : wayT n s x d (wayN n s d) k = wayN n s d z := by unfold wayT; rw [hz, if_pos ⟨hk, hd⟩]
    rw [e]
    simp
  · rw [if_neg e, if_neg e, if_neg e]
theorem row_le (n s d v k : Nat) (h2 : n ≤ 12) (hk : k ≤ n) (hd : d ≤ 12) : rowN n s d v k v ≤ 106993205379072 := by
  unfold rowN
  rw [if_pos rfl]
  exact ways_le n s v d k h2 hk hd
theorem other_le (n s d v k z : Nat) (h2 : n ≤ 12) (hd' : d ≤ 12) (hv : distN n s v = ((d + 1 : Nat) : Int)) (hz : distN n s z = (d : Int)) : rowN n s d v k z ≤ 106993205379072 := by
  rw [row_other n s d v k z hv hz]
  have := way_le n s h2 d z
  have := pow12 d (by omega)
  omega
end Go.Proofs.Ytgcfgegbbfbaaaa

/- The model's ways of least length. -/
namespace Go.Proofs.Ytgcfgegbbfbaaaa
open Go.RowKit
set_option linter.unusedVariables false
/-- A row of natural numbers, as a list of integers. -/
def tabW (n : Nat) (F : Nat → Nat) : List Int := tabI n (fun x => ((F x : Nat) : Int))
theorem tabW_len (n : Nat) (F : Nat → Nat) : (tabW n F).length = n := tabI_len n _
theorem tabW_get (n : Nat) (F : Nat → Nat) (i : Nat) (hi : i < n) : (tabW n F).getD i 0 = ((F i : Nat) : Int) := tabI_get n _ i hi
theorem tabW_congr (n : Nat) (F G : Nat → Nat) (h : ∀ x, x < n → F x = G x) : tabW n F = tabW n G := tabI_congr n _ _ fun x hx => by rw [h x hx]
end Go.Proofs.Ytgcfgegbbfbaaaa

/- A nearest way from a place: the least step that leads one nearer, and the word of such steps. -/
namespace Go.Proofs.Ytgcfgegbbfbaaaa
open Go.RowKit
set_option linter.unusedVariables false
theorem rest_back (n u k v : Nat) (h1 : 1 ≤ n) (hu : u < n) (hk : k < n) (h : (u + k) % n = v) : rest n ((v : Int) - (k : Int)) = u := by
  by_cases c : u + k < n
  · rw [Nat.mod_eq_of_lt c] at h
    rw [show ((v : Int) - (k : Int)) = (u : Int) by omega]
    exact rest_self n u hu
  · have e : (u + k) % n = u + k - n := by
      rw [Nat.mod_eq_sub_mod (by omega), Nat.mod_eq_of_lt (by omega)]
    have hn : ((v : Int) - (k : Int)) = (u : Int) - (n : Int) := by omega
    rw [hn, rest_congr' n ((u : Int) - (n : Int)) (u : Int) (by simp)]
    exact rest_self n u hu
theorem iter_up (n s d : Nat) : iterN n s (d + 1) = iterN n s d ||| sumN n s (iterN n s d) := rfl
theorem near_ex (n s v d : Nat) (h1 : 1 ≤ n) (h2 : n ≤ 12) (hs : s < 2 ^ n) (h0 : s.testBit 0 = false) (hd : distN n s v = ((d + 1 : Nat) : Int)) :
    ∃ k, 1 ≤ k ∧ k < n ∧ s.testBit k = true ∧ distN n s (rest n ((v : Int) - (k : Int))) = (d : Int) := by
  unfold distN at hd
  by_cases hp : (partN n s).testBit v = true
  · rw [if_pos hp] at hd
    have hf : farN n s v = d + 1 := by omega
    have hle := far_le n s v
    have hdn : d < n := by omega
    have hno : ¬ (iterN n s d).testBit v = true := fun h => by
      have := (far_iff n s v d hdn).1 h
      omega
    have hyes : (iterN n s (d + 1)).testBit v = true := by
      by_cases c : d + 1 < n
      · exact (far_iff n s v (d + 1) c).2 (by omega)
      · have e : d + 1 = n := by omega
        rw [e, iter_part n s h1 h2 hs]
        exact hp
    rw [iter_up, Nat.testBit_or, Bool.or_eq_true] at hyes
    have hsum := hyes.resolve_left hno
    obtain ⟨u, k, hu, hub, hk, hkb, huk⟩ := (sumN_bit n s (iterN n s d) v h1 hs).1 hsum
    have hk0 : 1 ≤ k := by
      rcases Nat.eq_zero_or_pos k with e | e
      · subst e
        rw [h0] at hkb
        cases hkb
      · exact e
    refine ⟨k, hk0, hk, hkb, ?_⟩
    rw [rest_back n u k v h1 hu hk huk]
    have hup : (partN n s).testBit u = true := by
      rw [← iter_part n s h1 h2 hs]
      exact iter_mono_le n s u d n (by omega) hub
    unfold distN
    rw [if_pos hup]
    have a := (far_iff n s u d hdn).1 hub
    rcases Nat.lt_or_ge (farN n s u) d with c | c
    · exfalso
      obtain ⟨e, rfl⟩ : ∃ e, d = e + 1 := ⟨d - 1, by omega⟩
      have hb := (far_iff n s u e (by omega)).2 (by omega)
      have hs' := (sumN_bit n s (iterN n s e) v h1 hs).2 ⟨u, k, hu, hb, hk, hkb, huk⟩
      apply hno
      rw [iter_up, Nat.testBit_or, hs']
      simp
    · omega
  · rw [if_neg hp] at hd
    omega
/-- The first number from k on, of at most so many, that suits p. -/
def seekN (p : Nat → Bool) : Nat → Nat → Nat
  | 0, k => k
  | f + 1, k => if p k = true then k else seekN p f (k + 1)
theorem seek_yes (p : Nat → Bool) (f k : Nat) (h : p k = true) : seekN p f k = k := by
  cases f with
  | zero => rfl
  | succ f => show (if p k = true then k else seekN p f (k + 1)) = k; rw [if_pos h]
theorem seek_no (p : Nat → Bool) (f k : Nat) (h : p k = false) : seekN p (f + 1) k = seekN p f (k + 1) := by
  show (if p k = true then k else seekN p f (k + 1)) = _
  rw [if_neg (by rw [h]; simp)]
theorem seek_suits (p : Nat → Bool) (f k j : Nat) (hj : k ≤ j) (hf : j < k + f) (h : p j = true) : p (seekN p f k) = true ∧ k ≤ seekN p f k ∧ seekN p f k < k + f := by
  induction f generalizing k with
  | zero => omega
  | succ f ih =>
    by_cases c : p k = true
    · rw [seek_yes p _ k c]
      exact ⟨c, Nat.le_refl _, by omega⟩
    · have c' : p k = false := by simpa using c
      rw [seek_no p f k c']
      have hne : j ≠ k := fun e => by rw [e] at h; rw [h] at c'; cases c'
      have := ih (k + 1) (by omega) (by omega)
      exact ⟨this.1, by omega, by omega⟩
/-- Does the step k lead from v to a place of the distance d? -/
def leadP (n s d v k : Nat) : Bool := s.testBit k && (distN n s (rest n ((v : Int) - (k : Int))) == (d : Int))
/-- The least step that leads nearer from v, of the distance d + 1. -/
def nearK (n s d v : Nat) : Nat := seekN (leadP n s d v) (n - 1) 1
/-- The word of v, of the distance d. -/
def wordN (n s : Nat) : Nat → Nat → List Int
  | 0, _ => []
  | d + 1, v => (nearK n s d v : Int) :: wordN n s d (rest n ((v : Int) - (nearK n s d v : Int)))
theorem word_len (n s d v : Nat) : (wordN n s d v).length = d := by
  induction d generalizing v with
  | zero => rfl
  | succ d ih => show (wordN n s d _).length + 1 = d + 1; rw [ih]
theorem near_suits (n s v d : Nat) (h1 : 1 ≤ n) (h2 : n ≤ 12) (hs : s < 2 ^ n) (h0 : s.testBit 0 = false) (hd : distN n s v = ((d + 1 : Nat) : Int)) :
    leadP n s d v (nearK n s d v) = true ∧ 1 ≤ nearK n s d v ∧ nearK n s d v < n := by
  obtain ⟨k, hk1, hk2, hb, hdk⟩ := near_ex n s v d h1 h2 hs h0 hd
  have h := seek_suits (leadP n s d v) (n - 1) 1 k hk1 (by omega) (by unfold leadP; rw [hb, hdk]; simp)
  exact ⟨h.1, h.2.1, by have := h.2.2; unfold nearK; omega⟩
theorem dist_none (n s v : Nat) (h1 : 1 ≤ n) (hd : distN n s v = 0) : v = 0 := by
  unfold distN at hd
  by_cases hp : (partN n s).testBit v = true
  · rw [if_pos hp] at hd
    have hb := (far_iff n s v 0 (by omega)).2 (by omega)
    by_cases e : v = 0
    · exact e
    · have : (iterN n s 0).testBit v = false := Nat.testBit_lt_two_pow (Nat.one_lt_two_pow e)
      rw [hb] at this
      cases this
  · rw [if_neg hp] at hd
    omega
end Go.Proofs.Ytgcfgegbbfbaaaa

/- The model's nearest words. -/
namespace Go.Proofs.Ytgcfgegbbfbaaaa
open Go.RowKit
set_option linter.unusedVariables false
def WordPost (w : World) (xs : List Int) (e : Ending) (w' : World) : Prop :=
  ∃ sv, e = .returned (.tuple #[sv, .bool true]) ∧ Below w.heap.size w w' ∧ IsInts w' w.heap.size sv xs
end Go.Proofs.Ytgcfgegbbfbaaaa
