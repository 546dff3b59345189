/- The word of a place, as the program finds it: steps in their order, each as often as it leads nearer. -/
import Derived.Test.YtnlalccnhpblkaaGreatFarI
import Derived.Test.YtnlalccnhpblkaaGreatGE
namespace Go.Proofs.YtnlalccnhpblkaaGreat
open Go.RowKit
set_option linter.unusedVariables false
/-- Does the step y lead nearer from x, as the program asks it? -/
def nearB (n s x y : Nat) : Bool := decide (atS (partN n s) (farN n s) ((rest n ((x : Int) - (y : Int)) : Nat) : Int) = atS (partN n s) (farN n s) (x : Int) - 1)
/-- The step y is taken as long as it leads nearer. -/
def drainF (n s : Nat) : Nat → Nat → Nat × List Int → Nat × List Int
  | 0, _, st => st
  | f + 1, y, st => if nearB n s st.1 y = true then drainF n s f y (rest n ((st.1 : Int) - (y : Int)), st.2 ++ [(y : Int)]) else st
def drain (n s y : Nat) (st : Nat × List Int) : Nat × List Int := drainF n s 13 y st
theorem drain_no (n s f y : Nat) (st : Nat × List Int) (h : nearB n s st.1 y = false) : drainF n s f y st = st := by
  cases f with
  | zero => rfl
  | succ f => show (if nearB n s st.1 y = true then _ else st) = st; rw [if_neg (by rw [h]; simp)]
theorem drain_yes (n s f y : Nat) (st : Nat × List Int) (h : nearB n s st.1 y = true) : drainF n s (f + 1) y st = drainF n s f y (rest n ((st.1 : Int) - (y : Int)), st.2 ++ [(y : Int)]) := by
  show (if nearB n s st.1 y = true then _ else st) = _
  rw [if_pos h]
/-- What holds of a state on the way: a place, and no more steps than there may be. -/
def Fair (n s d0 : Nat) (st : Nat × List Int) : Prop := st.1 < n ∧ st.2.length + (distN n s st.1).toNat ≤ d0
theorem fair_step (n s d0 y : Nat) (st : Nat × List Int) (h1 : 1 ≤ n) (hF : Fair n s d0 st) (h : nearB n s st.1 y = true) :
    Fair n s d0 (rest n ((st.1 : Int) - (y : Int)), st.2 ++ [(y : Int)]) ∧ 0 < distN n s st.1 ∧ distN n s (rest n ((st.1 : Int) - (y : Int))) < distN n s st.1 := by
  have hd := near_dist n s st.1 y h1 hF.1 (by simpa [nearB] using h)
  have h2 := hF.2
  refine ⟨⟨rest_lt n _ h1, ?_⟩, hd⟩
  simp only [List.length_append, List.length_cons, List.length_nil]
  omega
theorem fair_drain (n s d0 f y : Nat) (st : Nat × List Int) (h1 : 1 ≤ n) (hF : Fair n s d0 st) : Fair n s d0 (drainF n s f y st) := by
  induction f generalizing st with
  | zero => exact hF
  | succ f ih =>
    cases h : nearB n s st.1 y
    · rw [drain_no n s _ y st h]; exact hF
    · rw [drain_yes n s f y st h]
      exact ih _ (fair_step n s d0 y st h1 hF h).1
/-- The state when some steps have come. -/
def stN (n s v : Nat) (pre : List Nat) : Nat × List Int := pre.foldl (fun st y => drain n s y st) (v, [])
theorem st_snoc (n s v : Nat) {r : Nat} (pre : List (Fin r)) (x : Fin r) : stN n s v (vals (pre ++ [x])) = drain n s x.val (stN n s v (vals pre)) := by simp [stN, vals_snoc]
theorem st_fair (n s v d0 : Nat) (h1 : 1 ≤ n) (hv : v < n) (hd : distN n s v = (d0 : Int)) (pre : List Nat) : Fair n s d0 (stN n s v pre) := by
  have : ∀ (l : List Nat) (st : Nat × List Int), Fair n s d0 st → Fair n s d0 (l.foldl (fun st y => drain n s y st) st) := by
    intro l
    induction l with
    | nil => exact fun st h => h
    | cons y l ih => exact fun st h => ih _ (fair_drain n s d0 13 y st h1 h)
  exact this pre (v, []) ⟨hv, by simp [hd]⟩
theorem st_come (n s v : Nat) : stN n s v (vals (comeTo n s n)) = overSet s (drain n s) n (v, []) := by
  unfold stN
  rw [vals_fold]
  exact comeTo_fold n s (drain n s) (v, []) n (Nat.le_refl n)
theorem near_lead (n s x y d : Nat) (h1 : 1 ≤ n) (hp : (partN n s).testBit x = true) (hy : s.testBit y = true) (hyn : y < n) (hd : distN n s x = ((d + 1 : Nat) : Int)) : nearB n s x y = leadP n s d x y := by
  have hpr := part_rest n s x y h1 hp hy hyn
  unfold nearB leadP
  rw [atS_dist, atS_dist, hp, hpr, hy]
  simp only [if_true, Bool.true_and]
  rw [hd]
  rw [Bool.eq_iff_iff, decide_eq_true_eq, beq_iff_eq]
  omega
theorem part_of (n s x d : Nat) (h : distN n s x = (d : Int)) : (partN n s).testBit x = true := by
  cases hb : (partN n s).testBit x
  · unfold distN at h; rw [hb] at h; simp at h
  · rfl
theorem near_zero (n s x y : Nat) (hx : distN n s x = 0) (h1 : 1 ≤ n) (hxn : x < n) : nearB n s x y = false := by
  cases h : nearB n s x y
  · rfl
  · have := (near_dist n s x y h1 hxn (by simpa [nearB] using h)).1
    omega
/-- An arc from u to v by a step k: v is at most one farther. -/
theorem dist_arc (n s u k : Nat) (h1 : 1 ≤ n) (h2 : n ≤ 12) (hs : s < 2 ^ n) (hu : u < n) (hk : s.testBit k = true) (hkn : k < n) (d : Nat) (hd : distN n s u = (d : Int)) :
    0 ≤ distN n s ((u + k) % n) ∧ distN n s ((u + k) % n) ≤ ((d + 1 : Nat) : Int) := by
  have hpu := part_of n s u d hd
  have hfd : farN n s u = d := by unfold distN at hd; rw [hpu] at hd; simp only [if_true] at hd; omega
  have hpw : (partN n s).testBit ((u + k) % n) = true := by
    rw [part_bit n s _ h1] at hpu ⊢
    have hdk : partsN n s ∣ k := parts_dvd_step n s n k hkn hk
    exact ⟨Nat.mod_lt _ (by omega), (Nat.dvd_mod_iff (parts_dvd_n n s n)).2 (Nat.dvd_add hpu.2 hdk)⟩
  unfold distN
  rw [hpw]
  simp only [if_true]
  refine ⟨by omega, ?_⟩
  have hle := far_le n s ((u + k) % n)
  by_cases hdn : d + 1 < n
  · have hb : (iterN n s d).testBit u = true := (far_iff n s u d (by omega)).2 (by omega)
    have hup : (iterN n s (d + 1)).testBit ((u + k) % n) = true := by
      rw [iter_up, Nat.testBit_or, (sumN_bit n s (iterN n s d) ((u + k) % n) h1 hs).2 ⟨u, k, hu, hb, hkn, hk, rfl⟩]
      simp
    have := (far_iff n s _ (d + 1) hdn).1 hup
    omega
  · omega
theorem back_arc (n x k : Nat) (h1 : 1 ≤ n) (hx : x < n) (hk : k < n) : (rest n ((x : Int) - (k : Int)) + k) % n = x := by
  by_cases c : k ≤ x
  · rw [show ((x : Int) - (k : Int)) = ((x - k : Nat) : Int) by omega, rest_self n (x - k) (by omega)]
    rw [show x - k + k = x by omega, Nat.mod_eq_of_lt hx]
  · have e : rest n ((x : Int) - (k : Int)) = x + n - k := by
      rw [rest_congr' n ((x : Int) - (k : Int)) ((x + n - k : Nat) : Int) (by
        have : ((x + n - k : Nat) : Int) = (x : Int) - (k : Int) + (n : Int) := by omega
        rw [this]; simp)]
      exact rest_self n (x + n - k) (by omega)
    rw [e, show x + n - k + k = x + n by omega, Nat.add_mod_right, Nat.mod_eq_of_lt hx]
/-- A step that does not lead nearer from a place does not do so from a nearer one of its word. -/
theorem near_stays (n s x k y d : Nat) (h1 : 1 ≤ n) (h2 : n ≤ 12) (hs : s < 2 ^ n) (hx : x < n) (hd : distN n s x = ((d + 1 : Nat) : Int)) (hk : s.testBit k = true) (hkn : k < n) (hy : s.testBit y = true) (hyn : y < n)
    (hkl : leadP n s d x k = true) (hno : nearB n s x y = false) : nearB n s (rest n ((x : Int) - (k : Int))) y = false := by
  have hp := part_of n s x _ hd
  rw [near_lead n s x y d h1 hp hy hyn hd] at hno
  have hdz : distN n s (rest n ((x : Int) - (k : Int))) = (d : Int) := by
    unfold leadP at hkl
    rw [Bool.and_eq_true, beq_iff_eq] at hkl
    exact hkl.2
  have hz := rest_lt n ((x : Int) - (k : Int)) h1
  obtain ⟨z, hze⟩ : ∃ z, rest n ((x : Int) - (k : Int)) = z := ⟨_, rfl⟩
  have hback := back_arc n x k h1 hx hkn
  rw [hze] at hdz hz hback ⊢
  cases d with
  | zero => exact near_zero n s z y hdz h1 hz
  | succ e =>
    have hpz := part_of n s z _ hdz
    rw [near_lead n s z y e h1 hpz hy hyn hdz]
    cases hl : leadP n s e z y
    · rfl
    · exfalso
      unfold leadP at hl
      rw [Bool.and_eq_true, beq_iff_eq] at hl
      have hu := rest_lt n ((z : Int) - (y : Int)) h1
      have hbk := back_arc n z y h1 hz hyn
      obtain ⟨u, hue⟩ : ∃ u, rest n ((z : Int) - (y : Int)) = u := ⟨_, rfl⟩
      rw [hue] at hl hu hbk
      -- from u by k to x - y
      have ha := dist_arc n s u k h1 h2 hs hu hk hkn e hl.2
      have hxy : (u + k) % n = rest n ((x : Int) - (y : Int)) := by
        have hw := rest_lt n ((x : Int) - (y : Int)) h1
        have hb3 := back_arc n x y h1 hx hyn
        have e1 : ((u + k) % n + y) % n = x := by
          rw [Nat.mod_add_mod, show u + k + y = (u + y) + k by omega, ← Nat.mod_add_mod, hbk, hback]
        have hm := Nat.mod_lt (u + k) (show n > 0 by omega)
        have hr := rest_back n ((u + k) % n) y x h1 hm hyn e1
        exact hr.symm
      rw [hxy] at ha
      -- but x is one arc beyond it, so it is e + 1 away
      have hpr := part_rest n s x y h1 hp hy hyn
      have hge : distN n s (rest n ((x : Int) - (y : Int))) = ((e + 1 : Nat) : Int) := by
        obtain ⟨c, hc⟩ : ∃ c : Nat, distN n s (rest n ((x : Int) - (y : Int))) = (c : Int) := ⟨(distN n s (rest n ((x : Int) - (y : Int)))).toNat, by omega⟩
        have hb4 := dist_arc n s _ y h1 h2 hs (rest_lt n ((x : Int) - (y : Int)) h1) hy hyn c hc
        rw [back_arc n x y h1 hx hyn, hd] at hb4
        rw [hc] at ha ⊢
        omega
      unfold leadP at hno
      rw [hy, hge] at hno
      simp at hno
/-- What holds of the state when the steps below j have come. -/
structure OnWay (n s v d0 j : Nat) (st : Nat × List Int) : Prop where
  place : st.1 < n
  word : ∃ d : Nat, distN n s st.1 = (d : Int) ∧ d ≤ 12 ∧ st.2 ++ wordN n s d st.1 = wordN n s d0 v
  spent : ∀ k, k < j → s.testBit k = true → nearB n s st.1 k = false
theorem seek_least (p : Nat → Bool) (f k y : Nat) (hk : k ≤ y) (hf : y < k + f) (hy : p y = true) (hno : ∀ i, k ≤ i → i < y → p i = false) : seekN p f k = y := by
  induction f generalizing k with
  | zero => omega
  | succ f ih =>
    by_cases e : k = y
    · subst e
      exact seek_yes p _ k hy
    · rw [seek_no p f k (hno k (Nat.le_refl k) (by omega))]
      exact ih (k + 1) (by omega) (by omega) (fun i hi => hno i (by omega))
theorem onWay_drain (n s v d0 y : Nat) (h1 : 1 ≤ n) (h2 : n ≤ 12) (hs : s < 2 ^ n) (h0 : s.testBit 0 = false) (hy : s.testBit y = true) (hyn : y < n) (f : Nat) : ∀ (st : Nat × List Int), OnWay n s v d0 y st → distN n s st.1 < (f : Int) → OnWay n s v d0 (y + 1) (drainF n s f y st) := by
  have hy0 : 1 ≤ y := by
    rcases Nat.eq_zero_or_pos y with e | e
    · subst e; rw [h0] at hy; cases hy
    · exact e
  induction f with
  | zero =>
    intro st hW hd
    obtain ⟨d, hd', _⟩ := hW.word
    omega
  | succ f ih =>
    intro st hW hd
    obtain ⟨x, xs⟩ := st
    obtain ⟨hx, ⟨d, hdx, hd12, hw⟩, hsp⟩ := hW
    change distN n s x = (d : Int) at hdx
    cases hn : nearB n s x y
    · rw [drain_no n s _ y (x, xs) hn]
      refine ⟨hx, ⟨d, hdx, hd12, hw⟩, fun k hk hb => ?_⟩
      by_cases e : k = y
      · subst e; exact hn
      · exact hsp k (by omega) hb
    · rw [drain_yes n s f y (x, xs) hn]
      have hdn := near_dist n s x y h1 hx (by simpa [nearB] using hn)
      obtain ⟨e, rfl⟩ : ∃ e, d = e + 1 := ⟨d - 1, by have := hdn.1; omega⟩
      have hp := part_of n s x _ hdx
      have hl : leadP n s e x y = true := by rw [← near_lead n s x y e h1 hp hy hyn hdx]; exact hn
      have hdz : distN n s (rest n ((x : Int) - (y : Int))) = (e : Int) := by
        unfold leadP at hl
        rw [Bool.and_eq_true, beq_iff_eq] at hl
        exact hl.2
      have hK : nearK n s e x = y := by
        refine seek_least _ _ 1 y hy0 (by omega) hl (fun i hi hiy => ?_)
        cases hb : s.testBit i
        · unfold leadP; rw [hb]; rfl
        · rw [← near_lead n s x i e h1 hp hb (by omega) hdx]
          exact hsp i hiy hb
      refine ih (rest n ((x : Int) - (y : Int)), xs ++ [(y : Int)]) ⟨rest_lt n _ h1, ⟨e, hdz, by omega, ?_⟩, fun k hk hb => ?_⟩ ?_
      · rw [← hw]
        have : wordN n s (e + 1) x = (nearK n s e x : Int) :: wordN n s e (rest n ((x : Int) - (nearK n s e x : Int))) := rfl
        rw [this, hK, List.append_assoc]
        rfl
      · exact near_stays n s x y k e h1 h2 hs hx hdx hy hyn hb (by omega) hl (hsp k hk hb)
      · show distN n s (rest n ((x : Int) - (y : Int))) < (f : Int)
        rw [hdz]
        have hd' : distN n s x < ((f + 1 : Nat) : Int) := hd
        rw [hdx] at hd'
        omega
theorem onWay_over (n s v d0 : Nat) (h1 : 1 ≤ n) (h2 : n ≤ 12) (hs : s < 2 ^ n) (h0 : s.testBit 0 = false) (hv : v < n) (hd : distN n s v = (d0 : Int)) (hd12 : d0 ≤ 12) (j : Nat) (hj : j ≤ n) : OnWay n s v d0 j (overSet s (drain n s) j (v, [])) := by
  induction j with
  | zero => exact ⟨hv, ⟨d0, hd, hd12, rfl⟩, fun k hk => by omega⟩
  | succ j ih =>
    have hW := ih (by omega)
    rw [over_step]
    cases hb : s.testBit j
    · simp only [Bool.false_eq_true, if_false]
      refine ⟨hW.place, hW.word, fun k hk hbk => ?_⟩
      by_cases e : k = j
      · subst e; rw [hb] at hbk; cases hbk
      · exact hW.spent k (by omega) hbk
    · simp only [if_true]
      obtain ⟨d, hdx, hd12', _⟩ := hW.word
      exact onWay_drain n s v d0 j h1 h2 hs h0 hb (by omega) 13 _ hW (by rw [hdx]; omega)
theorem word_end (n s v d0 : Nat) (h1 : 1 ≤ n) (h2 : n ≤ 12) (hs : s < 2 ^ n) (h0 : s.testBit 0 = false) (hv : v < n) (hd : distN n s v = (d0 : Int)) (hd12 : d0 ≤ 12) : (overSet s (drain n s) n (v, [])).2 = wordN n s d0 v := by
  obtain ⟨hx, ⟨d, hdx, _, hw⟩, hsp⟩ := onWay_over n s v d0 h1 h2 hs h0 hv hd hd12 n (Nat.le_refl n)
  cases d with
  | zero => rw [← hw]; exact (List.append_nil _).symm
  | succ e =>
    exfalso
    obtain ⟨k, hk1, hk2, hb, hdk⟩ := near_ex n s _ e h1 h2 hs h0 hdx
    have hp := part_of n s _ _ hdx
    have h := hsp k hk2 hb
    rw [near_lead n s _ k e h1 hp hb hk2 hdx] at h
    unfold leadP at h
    rw [hb, hdk] at h
    simp at h
end Go.Proofs.YtnlalccnhpblkaaGreat
