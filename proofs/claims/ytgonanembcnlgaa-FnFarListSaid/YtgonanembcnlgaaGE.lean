/- Texts of mine, laid together: FarW FarX FarY FarZ. -/
import Derived.Test.YtgonanembcnlgaaGD
/- Ways of least length: how many words of steps lead to each place, level by level. -/
namespace Go.Proofs.Ytgonanembcnlgaa
open Go.RowKit
set_option linter.unusedVariables false
/-- The ways to v by way of the step k, where F holds the ways of places of the distance d. -/
def wayT (n s v d : Nat) (F : Nat → Nat) (k : Nat) : Nat := if s.testBit k = true ∧ distN n s (rest n ((v : Int) - (k : Int))) = (d : Int) then F (rest n ((v : Int) - (k : Int))) else 0
/-- The ways to v, if its distance is d. -/
def wayN (n s : Nat) : Nat → Nat → Nat
  | 0, v => b2n (v == 0)
  | d + 1, v => sumTo (wayT n s v d (wayN n s d)) n
/-- The row of ways after the distance d. -/
def gotN (n s d x : Nat) : Nat := if 0 ≤ distN n s x ∧ distN n s x ≤ (d : Int) then wayN n s (distN n s x).toNat x else 0
/-- .. when the places below v have been asked for the distance d + 1. -/
def midN (n s d v x : Nat) : Nat := if distN n s x = ((d + 1 : Nat) : Int) then (if x < v then wayN n s (d + 1) x else 0) else gotN n s d x
/-- .. and of v itself the steps below k. -/
def rowN (n s d v k x : Nat) : Nat := if x = v then sumTo (wayT n s v d (wayN n s d)) k else midN n s d v x
theorem sumTo_le (f : Nat → Nat) (b k : Nat) (h : ∀ v, f v ≤ b) : sumTo f k ≤ b * k := by
  induction k with
  | zero => exact Nat.zero_le _
  | succ k ih =>
    show sumTo f k + f k ≤ b * (k + 1)
    have := h k
    rw [Nat.mul_succ]
    omega
theorem way_le (n s : Nat) (h2 : n ≤ 12) (d v : Nat) : wayN n s d v ≤ 12 ^ d := by
  induction d generalizing v with
  | zero => show b2n (v == 0) ≤ 1; unfold b2n; split <;> omega
  | succ d ih =>
    show sumTo (wayT n s v d (wayN n s d)) n ≤ 12 ^ (d + 1)
    have h := sumTo_le (wayT n s v d (wayN n s d)) (12 ^ d) n (fun k => by unfold wayT; split; exact ih _; exact Nat.zero_le _)
    have h' : 12 ^ d * n ≤ 12 ^ d * 12 := Nat.mul_le_mul_left _ h2
    rw [Nat.pow_succ]
    omega
theorem pow12 (d : Nat) (h : d ≤ 13) : 12 ^ d ≤ 106993205379072 := by
  have : (12 : Nat) ^ d ≤ 12 ^ 13 := Nat.pow_le_pow_right (by omega) h
  have e : (12 : Nat) ^ 13 = 106993205379072 := by decide
  omega
theorem ways_le (n s v d k : Nat) (h2 : n ≤ 12) (hk : k ≤ n) (hd : d ≤ 12) : sumTo (wayT n s v d (wayN n s d)) k ≤ 106993205379072 := by
  have h := sumTo_le (wayT n s v d (wayN n s d)) (12 ^ d) k (fun k => by unfold wayT; split; exact way_le n s h2 d _; exact Nat.zero_le _)
  have h' : 12 ^ d * k ≤ 12 ^ d * 12 := Nat.mul_le_mul_left _ (by omega)
  have h3 := pow12 (d + 1) (by omega)
  rw [Nat.pow_succ] at h3
  omega
theorem dist_zero (n s : Nat) (h1 : 1 ≤ n) (h2 : n ≤ 12) (hs : s < 2 ^ n) : distN n s 0 = 0 := by
  have hb : (iterN n s 0).testBit 0 = true := by
    show Nat.testBit 1 0 = true
    rfl
  have hp : (partN n s).testBit 0 = true := by
    rw [← iter_part n s h1 h2 hs]
    exact iter_mono_le n s 0 0 n (Nat.zero_le _) hb
  have hf := (far_iff n s 0 0 (by omega)).1 hb
  unfold distN
  rw [if_pos hp]
  omega
theorem got_zero (n s x : Nat) (h1 : 1 ≤ n) (h2 : n ≤ 12) (hs : s < 2 ^ n) : gotN n s 0 x = if x = 0 then 1 else 0 := by
  unfold gotN
  by_cases e : x = 0
  · subst e
    rw [dist_zero n s h1 h2 hs]
    rfl
  · rw [if_neg e]
    split
    · rename_i h
      have h0 : (distN n s x).toNat = 0 := by omega
      rw [h0]
      show b2n (x == 0) = 0
      simp [b2n, e]
    · rfl
theorem mid_zero (n s d x : Nat) : midN n s d 0 x = gotN n s d x := by
  unfold midN gotN
  split
  · rename_i h
    rw [if_neg (by omega), if_neg (by omega)]
  · rfl
theorem mid_end (n s d x : Nat) (hx : x < n) : midN n s d n x = gotN n s (d + 1) x := by
  unfold midN gotN
  by_cases h : distN n s x = ((d + 1 : Nat) : Int)
  · rw [if_pos h, if_pos hx, if_pos (by omega), h]
    simp
  · rw [if_neg h]
    by_cases h' : 0 ≤ distN n s x ∧ distN n s x ≤ (d : Int)
    · rw [if_pos h', if_pos (by omega)]
    · rw [if_neg h', if_neg (by omega)]
theorem mid_skip (n s d v x : Nat) (h : ¬ distN n s v = ((d + 1 : Nat) : Int)) : midN n s d (v + 1) x = midN n s d v x := by
  unfold midN
  by_cases e : x = v
  · subst e
    rw [if_neg h, if_neg h]
  · by_cases a : x < v
    · simp only [if_pos a, if_pos (show x < v + 1 by omega)]
    · simp only [if_neg a, if_neg (show ¬ x < v + 1 by omega)]
theorem row_start (n s d v x : Nat) (h0 : s.testBit 0 = false) (h : distN n s v = ((d + 1 : Nat) : Int)) : rowN n s d v 1 x = midN n s d v x := by
  unfold rowN
  by_cases e : x = v
  · subst e
    rw [if_pos rfl]
    unfold midN
    rw [if_pos h, if_neg (by omega)]
    show 0 + wayT n s x d (wayN n s d) 0 = 0
    unfold wayT
    rw [if_neg (by rw [h0]; simp)]
  · rw [if_neg e]
theorem row_end (n s d v x : Nat) (h : distN n s v = ((d + 1 : Nat) : Int)) : rowN n s d v n x = midN n s d (v + 1) x := by
  unfold rowN
  by_cases e : x = v
  · subst e
    rw [if_pos rfl]
    unfold midN
    rw [if_pos h, if_pos (by omega)]
    rfl
  · rw [if_neg e]
    unfold midN
    by_cases a : x < v
    · simp only [if_pos a, if_pos (show x < v + 1 by omega)]
    · simp only [if_neg a, if_neg (show ¬ x < v + 1 by omega)]
theorem row_skip (n s d v k x : Nat) (h : ¬ (s.testBit k = true ∧ distN n s (rest n ((v : Int) - (k : Int))) = (d : Int))) : rowN n s d v (k + 1) x = rowN n s d v k x := by
  unfold rowN
  show (if x = v then sumTo (wayT n s v d (wayN n s d)) k + wayT n s v d (wayN n s d) k else midN n s d v x) = _
  have e : wayT n s v d (wayN n s d) k = 0 := by unfold wayT; rw [if_neg h]
  rw [e]
  rfl
theorem row_other (n s d v k z : Nat) (hv : distN n s v = ((d + 1 : Nat) : Int)) (hz : distN n s z = (d : Int)) : rowN n s d v k z = wayN n s d z := by
  unfold rowN
  rw [if_neg (fun e => by rw [e, hv] at hz; omega)]
  unfold midN
  rw [if_neg (by omega)]
  unfold gotN
  rw [if_pos (by omega), hz]
  simp
theorem row_step (n s d v k z : Nat) (hz : rest n ((v : Int) - (k : Int)) = z) (hk : s.testBit k = true) (hv : distN n s v = ((d + 1 : Nat) : Int)) (hd : distN n s z = (d : Int)) (x : Nat) :
    ((rowN n s d v (k + 1) x : Nat) : Int) = if x = v then ((rowN n s d v k v : Nat) : Int) + ((rowN n s d v k z : Nat) : Int) else ((rowN n s d v k x : Nat) : Int) := by
  rw [row_other n s d v k z hv hd]
  unfold rowN
  by_cases e : x = v
  · subst e
    rw [if_pos rfl, if_pos rfl, if_pos rfl]
    show ((sumTo (wayT n s x d (wayN n s d)) k + wayT n s x d (wayN n s d) k : Nat) : Int) = _
    have e : wayT n s x d (wayN n s d) k = wayN n s d z := by unfold wayT; rw [hz, if_pos ⟨hk, hd⟩]
    rw [e]
    simp
  · rw [if_neg e, if_neg e, if_neg e]
theorem row_le (n s d v k : Nat) (h2 : n ≤ 12) (hk : k ≤ n) (hd : d ≤ 12) : rowN n s d v k v ≤ 106993205379072 := by
  unfold rowN
  rw [if_pos rfl]
  exact ways_le n s v d k h2 hk hd
theorem other_le (n s d v k z : Nat) (h2 : n ≤ 12) (hd' : d ≤ 12) (hv : distN n s v = ((d + 1 : Nat) : Int)) (hz : distN n s z = (d : Int)) : rowN n s d v k z ≤ 106993205379072 := by
  rw [row_other n s d v k z hv hz]
  have := way_le n s h2 d z
  have := pow12 d (by omega)
  omega
end Go.Proofs.Ytgonanembcnlgaa

/- The model's ways of least length. -/
namespace Go.Proofs.Ytgonanembcnlgaa
open Go.RowKit
set_option linter.unusedVariables false
/-- A row of natural numbers, as a list of integers. -/
def tabW (n : Nat) (F : Nat → Nat) : List Int := tabI n (fun x => ((F x : Nat) : Int))
theorem tabW_len (n : Nat) (F : Nat → Nat) : (tabW n F).length = n := tabI_len n _
theorem tabW_get (n : Nat) (F : Nat → Nat) (i : Nat) (hi : i < n) : (tabW n F).getD i 0 = ((F i : Nat) : Int) := tabI_get n _ i hi
theorem tabW_congr (n : Nat) (F G : Nat → Nat) (h : ∀ x, x < n → F x = G x) : tabW n F = tabW n G := tabI_congr n _ _ fun x hx => by rw [h x hx]
end Go.Proofs.Ytgonanembcnlgaa

/- A nearest way from a place: the least step that leads one nearer, and the word of such steps. -/
namespace Go.Proofs.Ytgonanembcnlgaa
open Go.RowKit
set_option linter.unusedVariables false
theorem rest_back (n u k v : Nat) (h1 : 1 ≤ n) (hu : u < n) (hk : k < n) (h : (u + k) % n = v) : rest n ((v : Int) - (k : Int)) = u := by
  by_cases c : u + k < n
  · rw [Nat.mod_eq_of_lt c] at h
    rw [show ((v : Int) - (k : Int)) = (u : Int) by omega]
    exact rest_self n u hu
  · have e : (u + k) % n = u + k - n := by
      rw [Nat.mod_eq_sub_mod (by omega), Nat.mod_eq_of_lt (by omega)]
    have hn : ((v : Int) - (k : Int)) = (u : Int) - (n : Int) := by omega
    rw [hn, rest_congr' n ((u : Int) - (n : Int)) (u : Int) (by simp)]
    exact rest_self n u hu
theorem iter_up (n s d : Nat) : iterN n s (d + 1) = iterN n s d ||| sumN n s (iterN n s d) := rfl
theorem near_ex (n s v d : Nat) (h1 : 1 ≤ n) (h2 : n ≤ 12) (hs : s < 2 ^ n) (h0 : s.testBit 0 = false) (hd : distN n s v = ((d + 1 : Nat) : Int)) :
    ∃ k, 1 ≤ k ∧ k < n ∧ s.testBit k = true ∧ distN n s (rest n ((v : Int) - (k : Int))) = (d : Int) := by
  unfold distN at hd
  by_cases hp : (partN n s).testBit v = true
  · rw [if_pos hp] at hd
    have hf : farN n s v = d + 1 := by omega
    have hle := far_le n s v
    have hdn : d < n := by omega
    have hno : ¬ (iterN n s d).testBit v = true := fun h => by
      have := (far_iff n s v d hdn).1 h
      omega
    have hyes : (iterN n s (d + 1)).testBit v = true := by
      by_cases c : d + 1 < n
      · exact (far_iff n s v (d + 1) c).2 (by omega)
      · have e : d + 1 = n := by omega
        rw [e, iter_part n s h1 h2 hs]
        exact hp
    rw [iter_up, Nat.testBit_or, Bool.or_eq_true] at hyes
    have hsum := hyes.resolve_left hno
    obtain ⟨u, k, hu, hub, hk, hkb, huk⟩ := (sumN_bit n s (iterN n s d) v h1 hs).1 hsum
    have hk0 : 1 ≤ k := by
      rcases Nat.eq_zero_or_pos k with e | e
      · subst e
        rw [h0] at hkb
        cases hkb
      · exact e
    refine ⟨k, hk0, hk, hkb, ?_⟩
    rw [rest_back n u k v h1 hu hk huk]
    have hup : (partN n s).testBit u = true := by
      rw [← iter_part n s h1 h2 hs]
      exact iter_mono_le n s u d n (by omega) hub
    unfold distN
    rw [if_pos hup]
    have a := (far_iff n s u d hdn).1 hub
    rcases Nat.lt_or_ge (farN n s u) d with c | c
    · exfalso
      obtain ⟨e, rfl⟩ : ∃ e, d = e + 1 := ⟨d - 1, by omega⟩
      have hb := (far_iff n s u e (by omega)).2 (by omega)
      have hs' := (sumN_bit n s (iterN n s e) v h1 hs).2 ⟨u, k, hu, hb, hk, hkb, huk⟩
      apply hno
      rw [iter_up, Nat.testBit_or, hs']
      simp
    · omega
  · rw [if_neg hp] at hd
    omega
/-- The first number from k on, of at most so many, that suits p. -/
def seekN (p : Nat → Bool) : Nat → Nat → Nat
  | 0, k => k
  | f + 1, k => if p k = true then k else seekN p f (k + 1)
theorem seek_yes (p : Nat → Bool) (f k : Nat) (h : p k = true) : seekN p f k = k := by
  cases f with
  | zero => rfl
  | succ f => show (if p k = true then k else seekN p f (k + 1)) = k; rw [if_pos h]
theorem seek_no (p : Nat → Bool) (f k : Nat) (h : p k = false) : seekN p (f + 1) k = seekN p f (k + 1) := by
  show (if p k = true then k else seekN p f (k + 1)) = _
  rw [if_neg (by rw [h]; simp)]
theorem seek_suits (p : Nat → Bool) (f k j : Nat) (hj : k ≤ j) (hf : j < k + f) (h : p j = true) : p (seekN p f k) = true ∧ k ≤ seekN p f k ∧ seekN p f k < k + f := by
  induction f generalizing k with
  | zero => omega
  | succ f ih =>
    by_cases c : p k = true
    · rw [seek_yes p _ k c]
      exact ⟨c, Nat.le_refl _, by omega⟩
    · have c' : p k = false := by simpa using c
      rw [seek_no p f k c']
      have hne : j ≠ k := fun e => by rw [e] at h; rw [h] at c'; cases c'
      have := ih (k + 1) (by omega) (by omega)
      exact ⟨this.1, by omega, by omega⟩
/-- Does the step k lead from v to a place of the distance d? -/
def leadP (n s d v k : Nat) : Bool := s.testBit k && (distN n s (rest n ((v : Int) - (k : Int))) == (d : Int))
/-- The least step that leads nearer from v, of the distance d + 1. -/
def nearK (n s d v : Nat) : Nat := seekN (leadP n s d v) (n - 1) 1
/-- The word of v, of the distance d. -/
def wordN (n s : Nat) : Nat → Nat → List Int
  | 0, _ => []
  | d + 1, v => (nearK n s d v : Int) :: wordN n s d (rest n ((v : Int) - (nearK n s d v : Int)))
theorem word_len (n s d v : Nat) : (wordN n s d v).length = d := by
  induction d generalizing v with
  | zero => rfl
  | succ d ih => show (wordN n s d _).length + 1 = d + 1; rw [ih]
theorem near_suits (n s v d : Nat) (h1 : 1 ≤ n) (h2 : n ≤ 12) (hs : s < 2 ^ n) (h0 : s.testBit 0 = false) (hd : distN n s v = ((d + 1 : Nat) : Int)) :
    leadP n s d v (nearK n s d v) = true ∧ 1 ≤ nearK n s d v ∧ nearK n s d v < n := by
  obtain ⟨k, hk1, hk2, hb, hdk⟩ := near_ex n s v d h1 h2 hs h0 hd
  have h := seek_suits (leadP n s d v) (n - 1) 1 k hk1 (by omega) (by unfold leadP; rw [hb, hdk]; simp)
  exact ⟨h.1, h.2.1, by have := h.2.2; unfold nearK; omega⟩
theorem dist_none (n s v : Nat) (h1 : 1 ≤ n) (hd : distN n s v = 0) : v = 0 := by
  unfold distN at hd
  by_cases hp : (partN n s).testBit v = true
  · rw [if_pos hp] at hd
    have hb := (far_iff n s v 0 (by omega)).2 (by omega)
    by_cases e : v = 0
    · exact e
    · have : (iterN n s 0).testBit v = false := Nat.testBit_lt_two_pow (Nat.one_lt_two_pow e)
      rw [hb] at this
      cases this
  · rw [if_neg hp] at hd
    omega
end Go.Proofs.Ytgonanembcnlgaa

/- The model's nearest words. -/
namespace Go.Proofs.Ytgonanembcnlgaa
open Go.RowKit
set_option linter.unusedVariables false
def WordPost (w : World) (xs : List Int) (e : Ending) (w' : World) : Prop :=
  ∃ sv, e = .returned (.tuple #[sv, .bool true]) ∧ Below w.heap.size w w' ∧ IsInts w' w.heap.size sv xs
theorem specFarWord_no (n s v : Int) (w : World) (h : NoStep n s) :
    Calls Try.prog 26 #[.int .i64 n, .int .i64 s, .int .i64 v] w (NonePost w) := by
  have HI := Lib.hid (specStep_no n s w h)
  clear h
  go_enter Try.func26, Try.ntmps26
  go_wp2_with (go_at_call 40; refine HI.out.mono ?_; rintro e w' ⟨rfl, rfl⟩)
  go_ret2
  exact ⟨_, rfl, (Below.refl _ _).alloc (Nat.le_refl _) _, World.ownsRow_lit w #[] 0 (Nat.le_refl _) (by simp [maxLen]) rfl⟩
theorem specFarWord_out (n s : Nat) (v : Int) (w : World) (h1 : 1 ≤ n) (h2 : n ≤ 12) (hs : s < 2 ^ n) (h0 : s.testBit 0 = false) (hm : ¬ (0 ≤ v ∧ v < (n:Int))) :
    Calls Try.prog 26 #[.int .i64 (n:Int), .int .i64 (s:Int), .int .i64 v] w (NonePost w) := by
  have HI := Lib.hid (specStep_yes n s w h1 h2 hs h0)
  have HM := Lib.hid (l6In_no v 0 ((n:Int) - 1) w (by omega))
  have E := IntWalk.i64_in ((n:Int) - 1) ⟨by omega, by omega⟩
  clear hm
  go_enter Try.func26, Try.ntmps26
  go_wp2_with fail
  refine HI.out.mono ?_
  rintro e w' ⟨rfl, rfl⟩
  go_wp2_with fail
  refine HM.out.mono ?_
  rintro e w' ⟨rfl, rfl⟩
  go_wp2
  go_ret2
  exact ⟨_, rfl, (Below.refl _ _).alloc (Nat.le_refl _) _, World.ownsRow_lit w #[] 0 (Nat.le_refl _) (by simp [maxLen]) rfl⟩
theorem specFarWord_part (n s v : Nat) (w : World) (h1 : 1 ≤ n) (h2 : n ≤ 12) (hs : s < 2 ^ n) (h0 : s.testBit 0 = false) (hv : v < n) (hneg : distN n s v < 0) :
    Calls Try.prog 26 #[.int .i64 (n:Int), .int .i64 (s:Int), .int .i64 (v:Int)] w (NonePost w) := by
  have HI := Lib.hid (specStep_yes n s w h1 h2 hs h0)
  have HM := Lib.hid (l6In_yes (v : Int) 0 ((n:Int) - 1) w (by omega) (by omega))
  have E := IntWalk.i64_in ((n:Int) - 1) ⟨by omega, by omega⟩
  have HL := Lib.hid (l3List_any n s w h1 h2 hs)
  go_enter Try.func26, Try.ntmps26
  go_wp2_with fail
  refine HI.out.mono ?_
  rintro e w' ⟨rfl, rfl⟩
  go_wp2_with fail
  refine HM.out.mono ?_
  rintro e w' ⟨rfl, rfl⟩
  go_wp2_with fail
  refine HL.out.mono ?_
  rintro e w1 ⟨g, cap, rfl, hb1, hI1⟩
  have HI1 := Lib.hid hI1
  have HB1 := Lib.hid hb1
  have z1 := hb1.size
  have hlen := tabI_len n (distN n s)
  have HI2 : Hid (IsInts (w1.alloc (.cells #[] 3)) w.heap.size (.slice (some ⟨g, 0, none⟩) n cap) (tabI n (distN n s))) := Lib.hid (World.ownsRow.alloc HI1.out _)
  have c1 := HI2.out.cell (i := v) (by rw [hlen]; exact hv)
  rw [tabI_get n _ v hv] at c1
  generalize distN n s v = y at *
  have i1 : (0 : Int) ≤ (v : Int) := by omega
  have i2 : (v : Int) < (n : Int) := by omega
  clear hb1 hI1
  go_wp2
  go_ret2
  exact ⟨_, rfl, HB1.out.alloc z1 _, IsInts.base (show IsInts _ w1.heap.size _ [] from World.ownsRow_lit w1 #[] 0 (Nat.le_refl _) (by simp [maxLen]) rfl) z1⟩
set_option maxRecDepth 100000 in
set_option maxHeartbeats 4000000 in
theorem specFarWord_yes (n s v d0 : Nat) (w : World) (h1 : 1 ≤ n) (h2 : n ≤ 12) (hs : s < 2 ^ n) (h0 : s.testBit 0 = false) (hv : v < n) (hd0 : distN n s v = (d0 : Int)) :
    Calls Try.prog 26 #[.int .i64 (n:Int), .int .i64 (s:Int), .int .i64 (v:Int)] w (WordPost w (wordN n s d0 v)) := by
  have hp := pow_le n h2
  have HI := Lib.hid (specStep_yes n s w h1 h2 hs h0)
  have HM := Lib.hid (l6In_yes (v : Int) 0 ((n:Int) - 1) w (by omega) (by omega))
  have E := IntWalk.i64_in ((n:Int) - 1) ⟨by omega, by omega⟩
  have HL := Lib.hid (l3List_any n s w h1 h2 hs)
  have hdn := distN_range n s v
  have HK := Lib.hid (fun (x d : Nat) hd => near_suits n s x d h1 h2 hs h0 hd)
  obtain ⟨i0, hi, hz0, hz1, hz2⟩ := info_parts Try.infoI
  clear h0
  go_enter Try.func26, Try.ntmps26
  go_wp2_with fail
  refine HI.out.mono ?_
  rintro e w' ⟨rfl, rfl⟩
  go_wp2_with fail
  refine HM.out.mono ?_
  rintro e w' ⟨rfl, rfl⟩
  go_wp2_with fail
  refine HL.out.mono ?_
  rintro e w1 ⟨g, cap, rfl, hb1, hI1⟩
  have HI1 := Lib.hid hI1
  have HB1 := Lib.hid hb1
  have z1 := hb1.size
  have hlen := tabI_len n (distN n s)
  have hgl := (World.ownsRow.lt hI1 g rfl).2
  have HI2 : Hid (IsInts (w1.alloc (.cells #[] 3)) w.heap.size (.slice (some ⟨g, 0, none⟩) n cap) (tabI n (distN n s))) := Lib.hid (World.ownsRow.alloc HI1.out _)
  have HO2 := Lib.hid (World.ownsRow_lit (e := 3) (size := 1) (base := w1.heap.size) w1 #[] 0 (Nat.le_refl _) (by simp [maxLen]) rfl)
  have HB2 : Hid (Below w.heap.size w (w1.alloc (.cells #[] 3))) := Lib.hid (HB1.out.alloc z1 _)
  have c1 := HI2.out.cell (i := v) (by rw [hlen]; exact hv)
  rw [tabI_get n _ v hv, hd0] at c1
  have i1 : (0 : Int) ≤ (v : Int) := by omega
  have i2 : (v : Int) < (n : Int) := by omega
  have hd12 : d0 ≤ 12 := by omega
  have Hd0 := Lib.hid hd0
  clear hb1 hI1 hdn hd0
  go_wp2
  clear c1
  go_loopw [2, 9] (fun u o wr => ∃ (d x : Nat) (xs : List Int), x < n ∧ distN n s x = (d : Int) ∧ xs.length + d = d0 ∧ xs ++ wordN n s d x = wordN n s d0 v ∧ u = .int .i64 (x : Int) ∧ wr.ownsRow w1.heap.size 3 1 o xs.length (xs.map (Value.int .i64)) ∧ IsInts wr w.heap.size (.slice (some ⟨g, 0, none⟩) n cap) (tabI n (distN n s)) ∧ Below w.heap.size w wr ∧ w1.heap.size ≤ wr.heap.size) (fun u _ _ => (distN n s (intOf u).toNat).toNat)
  case atStart => exact ⟨d0, v, [], hv, Hd0.out, by simp, rfl, rfl, HO2.out, HI2.out, HB2.out, by simp⟩
  case round =>
    obtain ⟨d, x, xs, hx, hd, hL, hW, rfl, ho, hl, hB, hsz⟩ := hrel
    have HDx := Lib.hid hd
    have HW := Lib.hid hW
    have HO := Lib.hid ho
    have HLx := Lib.hid hl
    have HBx := Lib.hid hB
    clear hd hW ho hl hB
    by_cases hx0 : x = 0
    · subst hx0
      have hd00 : d = 0 := by
        have h := HDx.out
        rw [dist_zero n s h1 h2 hs] at h
        omega
      subst hd00
      go_wp2
      go_ret2
      refine ⟨_, rfl, HBx.out, ?_⟩
      have h := HW.out
      rw [show wordN n s 0 0 = [] from rfl, List.append_nil] at h
      rw [← h]
      exact IsInts.base (show IsInts _ w1.heap.size _ _ from HO.out) z1
    · obtain ⟨e, rfl⟩ : ∃ e, d = e + 1 := ⟨d - 1, by
        have h := HDx.out
        have : d ≠ 0 := fun h' => hx0 (dist_none n s x h1 (by rw [h, h']; rfl))
        omega⟩
      obtain ⟨D, hD⟩ : ∃ D, e + 1 = D := ⟨_, rfl⟩
      have HKx := Lib.hid (HK.out x e HDx.out)
      have hx1 : ((x : Int) == 0) = false := by simp; omega
      have hx2 : ((x : Int) != 0) = true := by simp; omega
      clear hx0
      have HWs : Hid (wordN n s (e + 1) x = (nearK n s e x : Int) :: wordN n s e (rest n ((x : Int) - (nearK n s e x : Int)))) := Lib.hid rfl
      have HDx' := HDx
      rw [hD] at HDx
      have hE1 : (D : Int) - 1 = (e : Int) := by omega
      have HE1 := Lib.hid hE1
      have HDe := Lib.hid hD
      have hD12 : D ≤ 12 := by omega
      have hLD : xs.length ≤ 12 := by omega
      clear hE1 hD
      have HSk : Hid (seekN (leadP n s e x) (n - 1) 1 = nearK n s e x) := Lib.hid rfl
      go_wp2
      obtain ⟨wp, rfl⟩ : ∃ wp : World, wp = wr := ⟨_, rfl⟩
      go_loopw [2, 9, 10] (fun u o k' wr => ∃ k : Nat, 1 ≤ k ∧ k ≤ n ∧ seekN (leadP n s e x) (n - k) k = nearK n s e x ∧ u = .int .i64 (x : Int) ∧ k' = .int .i64 (k : Int) ∧ wr.ownsRow w1.heap.size 3 1 o xs.length (xs.map (Value.int .i64)) ∧ IsInts wr w.heap.size (.slice (some ⟨g, 0, none⟩) n cap) (tabI n (distN n s)) ∧ Below w.heap.size w wr ∧ w1.heap.size ≤ wr.heap.size) (fun _ _ k' _ => n - (intOf k').toNat)
      case atStart => exact ⟨1, Nat.le_refl _, h1, HSk.out, rfl, rfl, HO.out, HLx.out, HBx.out, hsz⟩
      case round =>
        obtain ⟨k, hk1, hk, hsk, rfl, rfl, ho, hl, hB, hsz2⟩ := hrel
        have HOk := Lib.hid ho
        have HLk := Lib.hid hl
        have HBk := Lib.hid hB
        clear hl hB HO HLx HBx
        by_cases hlk : k < n
        · have HR := Lib.hid (fun W => l1Rest_any n ((x : Int) - (k : Int)) W h1 h2 ⟨by omega, by omega⟩)
          have hxk : IntKind.i64.wrap ((x : Int) - (k : Int)) = (x : Int) - (k : Int) := IntWalk.i64_in _ ⟨by omega, by omega⟩
          have hrl := rest_lt n ((x : Int) - (k : Int)) h1
          have hbt := has_nat s k (by omega)
          have HP : Hid (leadP n s e x k = (s.testBit k && (distN n s (rest n ((x : Int) - (k : Int))) == (e : Int)))) := Lib.hid rfl
          have c1 := HLk.out.cell (i := x) (by rw [hlen]; exact hx)
          rw [tabI_get n _ x hx, HDx.out] at c1
          have j1 : (0 : Int) ≤ (x : Int) := by omega
          have j2 : (x : Int) < (n : Int) := by omega
          have hE1 := HE1.out
          have hE2 : IntKind.i64.wrap ((D : Int) - 1) = (e : Int) := by rw [hE1]; exact IntWalk.i64_in _ ⟨by omega, by omega⟩
          obtain ⟨z, hz⟩ : ∃ z, rest n ((x : Int) - (k : Int)) = z := ⟨_, rfl⟩
          rw [hz] at HR hrl HP
          have HZ := Lib.hid hz
          clear hz
          have j3 : (0 : Int) ≤ (z : Int) := by omega
          have j4 : (z : Int) < (n : Int) := by omega
          have c2 := HLk.out.cell (i := z) (by rw [hlen]; exact hrl)
          rw [tabI_get n _ z hrl] at c2
          by_cases hpk : leadP n s e x k = true
          · have hK := seek_yes _ (n - k) k hpk
            rw [hsk] at hK
            have HKk := Lib.hid hK
            rw [HP.out, Bool.and_eq_true] at hpk
            have hdz : distN n s z = (e : Int) := by simpa using hpk.2
            have HDz := Lib.hid hdz
            rw [hdz] at c2
            rw [hpk.1] at hbt
            clear hpk hsk hK hdz
            go_wp2_with (go_at_call 54; refine (HR.out _).mono ?_; rintro e w' ⟨rfl, rfl⟩)
            go_region
            go_wp2_with (first | (at_builtin; refine wpList_append_own _ rfl _ _ 25 rfl w1.heap.size 3 i0 (.int .i64 0) 1 8 Try.underlying25 hi hz0 hz1 hz2 rfl (by decide) _ _ _ rfl (ho.alloc _) ⟨wr.heap.size, 0, none⟩ 1 1 [.int .i64 (k : Int)] rfl rfl ?c1 ?c2 ?c3 ?c4 ?c5 ?_))
            case c1 =>
              intro j u hj
              cases j with
              | zero => simp at hj; subst hj; simp [Addr.add]
              | succ j => simp at hj
            case c2 => intro u hu; simp at hu; subst hu; rfl
            case c3 => unfold maxLen; omega
            case c4 => omega
            case c5 => simp; omega
            · intro v' w2 hown' hgrow _
              have HO' : Hid (w2.ownsRow w1.heap.size 3 1 v' (xs ++ [(k : Int)]).length ((xs ++ [(k : Int)]).map (Value.int .i64))) := Lib.hid (by rw [List.length_append, List.map_append]; exact hown')
              have HL' : Hid (IsInts w2 w.heap.size (.slice (some ⟨g, 0, none⟩) n cap) (tabI n (distN n s))) := Lib.hid (World.ownsRow.kept (show IsInts (wr.alloc (.cells #[.int .i64 (k : Int)] 3)).drew w.heap.size (.slice (some ⟨g, 0, none⟩) n cap) (tabI n (distN n s)) from World.ownsRow.alloc HLk.out _) hgrow (.inr (by
                simp only [Value.ownBlock]
                intro e'
                have := (ho.lt g e'.symm).1
                omega)))
              have HB' : Hid (Below w.heap.size w w2) := Lib.hid ((HBk.out.alloc HBk.out.size _).drew.grown hgrow (by have := HBk.out.size; simp; omega) (fun q eq => Nat.le_trans z1 (ho.lt q eq).1))
              have hs2 : w1.heap.size ≤ w2.heap.size := by
                have h := hgrow.size
                simp at h
                omega
              have HWn : Hid ((xs ++ [(k : Int)]) ++ wordN n s e z = wordN n s d0 v) := Lib.hid (by
                rw [← HW.out, HWs.out, HKk.out, HZ.out, List.append_assoc]
                rfl)
              clear hown' hgrow ho
              go_wp2
              go_roundw
              case rel => exact ⟨e, z, xs ++ [(k : Int)], hrl, HDz.out, by simp; omega, HWn.out, rfl, HO'.out, HL'.out, HB'.out, hs2⟩
              case measure =>
                have h1' := HDx.out
                have h2' := HDz.out
                have h3' := HDe.out
                simp [intOf, h1', h2']
                omega
          · have hpf : leadP n s e x k = false := by simpa using hpk
            have hn : n - k = n - (k + 1) + 1 := by omega
            rw [hn, seek_no _ _ _ hpf] at hsk
            have HS := Lib.hid hsk
            have HO2 := Lib.hid ho
            rw [HP.out] at hpf
            clear hsk hn hpk ho
            by_cases hb : s.testBit k = true
            · rw [hb] at hbt hpf
              generalize distN n s z = y at *
              have hy : (y == (e : Int)) = false := by simpa using hpf
              clear hpf hb
              go_wp2_with (go_at_call 54; refine (HR.out _).mono ?_; rintro e w' ⟨rfl, rfl⟩)
              go_region
              go_wp2
              go_roundw
              case rel => exact ⟨k + 1, by omega, by omega, HS.out, rfl, by go_num, HO2.out, HLk.out, HBk.out.drew, hsz2⟩
              case measure => simp [intOf]; omega
            · have hb' : s.testBit k = false := by simpa using hb
              rw [hb'] at hbt
              clear hpf hb
              go_wp2_with (go_at_call 54; refine (HR.out _).mono ?_; rintro e w' ⟨rfl, rfl⟩)
              go_region
              go_wp2
              go_roundw
              case rel => exact ⟨k + 1, by omega, by omega, HS.out, rfl, by go_num, HO2.out, HLk.out, HBk.out.drew, hsz2⟩
              case measure => simp [intOf]; omega
        · exfalso
          have e' : n - k = 0 := by omega
          rw [e'] at hsk
          have h := HKx.out.2.2
          rw [← hsk] at h
          have : k < n := h
          omega
end Go.Proofs.Ytgonanembcnlgaa
