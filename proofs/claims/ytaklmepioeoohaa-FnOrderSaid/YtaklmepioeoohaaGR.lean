/- Texts of mine, laid together: DfpM DfpA DfpB DfpC DfpD DfpE DfpF DfpG DfpH. -/
import Derived.Test.YtaklmepioeoohaaGP
import Derived.Test.YtaklmepioeoohaaCountsV
import Derived.Test.YtaklmepioeoohaaGJ
import Derived.Test.YtaklmepioeoohaaCountsI
import Derived.Test.YtaklmepioeoohaaGB
import Derived.Test.YtaklmepioeoohaaRoA
/- Differences, the program's side: maths. -/
namespace Go.Proofs.Ytaklmepioeoohaa
open Go.RowKit Go.Shelf
set_option linter.unusedVariables false
theorem tab_of_get (n : Nat) (f : Nat → Int) (xs : List Int) (hl : xs.length = n) (h : ∀ i, i < n → xs.getD i 0 = f i) : xs = tabI n f := by
  refine List.ext_getElem (by rw [hl, tabI_len]) fun i h1 h2 => ?_
  have a := h i (by omega)
  rw [List.getD_eq_getElem?_getD, List.getElem?_eq_getElem h1] at a
  simp only [tabI, List.getElem_map, List.getElem_range]
  exact a
theorem mod_hit (n v w i : Nat) (h1 : 1 ≤ n) (h2 : n ≤ 12) (hv : v < n) (hw : w < n) (hi : i < n) : (v + w) % n = i ↔ w = rest n ((i : Int) - (v : Int)) := by
  have e := rest_cast n ((i : Int) - (v : Int)) h1
  generalize rest n ((i : Int) - (v : Int)) = a at *
  have h : n = 1 ∨ n = 2 ∨ n = 3 ∨ n = 4 ∨ n = 5 ∨ n = 6 ∨ n = 7 ∨ n = 8 ∨ n = 9 ∨ n = 10 ∨ n = 11 ∨ n = 12 := by omega
  rcases h with rfl | rfl | rfl | rfl | rfl | rfl | rfl | rfl | rfl | rfl | rfl | rfl <;> omega
theorem neg_sub (n v i : Nat) (h1 : 1 ≤ n) (h2 : n ≤ 12) (hv : v < n) (hi : i < n) : neg n (rest n ((i : Int) - (v : Int))) = rest n ((v : Int) - (i : Int)) := by
  unfold neg
  rw [rest_neg n _ h1]
  exact congrArg (rest n) (by omega)
theorem cval_dif (n s i : Nat) (h1 : 1 ≤ n) (h2 : n ≤ 12) (hs : s < 2 ^ n) (hi : i < n) : cval n s (turnN n s (-1)) n i = difN n s i := by
  unfold cval difN
  rw [size_sum n _ h2 (Nat.lt_of_le_of_lt Nat.and_le_left hs)]
  refine sumTo_congr _ _ n fun v hv => ?_
  have hr := rest_lt n ((i : Int) - (v : Int)) h1
  rw [sum_at _ (rest n ((i : Int) - (v : Int))) n fun w hw hn => ?_, if_pos hr]
  · have e := (mod_hit n v _ i h1 h2 hv hr hi).2 rfl
    rw [e, turn_neg_bit n s _ h1 hs hr, neg_sub n v i h1 h2 hv hi, Nat.testBit_and, shift_mem n s (i : Int) h1 hs v hv, beq_self_eq_true]
    cases s.testBit v <;> cases s.testBit (rest n ((v : Int) - (i : Int))) <;> rfl
  · have : ((v + w) % n == i) = false := by
      rw [beq_eq_false_iff_ne]
      exact fun c => hn ((mod_hit n v w i h1 h2 hv hw hi).1 c)
    rw [this]
    cases (turnN n s (-1)).testBit w <;> rfl
theorem counts_dif (n s : Nat) (h1 : 1 ≤ n) (h2 : n ≤ 12) (hs : s < 2 ^ n) : countsN n s (turnN n s (-1)) n = difL n s :=
  tab_of_get n _ _ (countsN_len n s _ n) fun i hi => by rw [counts_val n s _ n i hi, cval_dif n s i h1 h2 hs hi]
/-- The differences but 0. -/
def difT (n s : Nat) : List Int := (difL n s).drop 1
theorem difT_len (n s : Nat) : (difT n s).length = n - 1 := by unfold difT; rw [List.length_drop, difL_len]
theorem difT_get (n s i : Nat) (hi : i < n - 1) : (difT n s).getD i 0 = ((difN n s (i + 1) : Nat) : Int) := by
  unfold difT
  rw [List.getD_eq_getElem?_getD, List.getElem?_drop, ← List.getD_eq_getElem?_getD, Nat.add_comm 1 i]
  exact difL_get n s (i + 1) (by omega)
/-- Whether something holds of all entries. -/
def eachB (p : Int → Bool) (xs : List Int) : Bool := xs.all p
theorem each_yes (p : Int → Bool) (xs : List Int) (h : ∀ i, i < xs.length → p (xs.getD i 0) = true) : eachB p xs = true := by
  refine List.all_eq_true.2 fun x hx => ?_
  obtain ⟨i, hi, e⟩ := List.getElem_of_mem hx
  have a := h i hi
  rw [List.getD_eq_getElem?_getD, List.getElem?_eq_getElem hi] at a
  rw [← e]; exact a
theorem each_no (p : Int → Bool) (xs : List Int) (i : Nat) (hi : i < xs.length) (h : p (xs.getD i 0) = false) : eachB p xs = false := by
  cases hc : eachB p xs
  · rfl
  · have a := List.all_eq_true.1 hc xs[i] (List.getElem_mem hi)
    rw [List.getD_eq_getElem?_getD, List.getElem?_eq_getElem hi] at h
    rw [show (some xs[i]).getD 0 = xs[i] from rfl] at h
    rw [h] at a; cases a
theorem each_at (p : Int → Bool) (xs : List Int) (h : eachB p xs = true) (i : Nat) (hi : i < xs.length) : p (xs.getD i 0) = true := by
  cases hc : p (xs.getD i 0)
  · rw [each_no p xs i hi hc] at h; cases h
  · rfl
/-- The program's way to tell that a set is even: all ways are those of 1. -/
def sameB (xs : List Int) : Bool := !Nat.beq xs.length 0 && eachB (fun x => x == xs.getD 0 0) xs
def evQ (n s : Nat) : Bool := Nat.ble 2 n && evenB n s
theorem int_beq (a b : Nat) : (((a : Nat) : Int) == ((b : Nat) : Int)) = Nat.beq a b := cast_beq a b
theorem same_even (n s : Nat) (h1 : 1 ≤ n) : sameB (difT n s) = evQ n s := by
  unfold sameB evQ
  rw [difT_len]
  by_cases h2 : 2 ≤ n
  · have e1 : Nat.beq (n - 1) 0 = false := by
      cases hc : Nat.beq (n - 1) 0
      · rfl
      · have := Nat.eq_of_beq_eq_true hc; omega
    rw [e1, Nat.ble_eq_true_of_le h2, Bool.not_false, Bool.true_and, Bool.true_and]
    have h0 : (difT n s).getD 0 0 = ((difN n s 1 : Nat) : Int) := difT_get n s 0 (by omega)
    rw [h0]
    cases he : evenB n s
    · cases hc : eachB (fun x => x == ((difN n s 1 : Nat) : Int)) (difT n s)
      · rfl
      · have : evenB n s = true := ev_of n s n fun v hv1 hv2 => by
          have a := each_at _ _ hc (v - 1) (by rw [difT_len]; omega)
          rw [difT_get n s (v - 1) (by omega), show v - 1 + 1 = v by omega] at a
          rw [int_beq] at a
          exact Nat.eq_of_beq_eq_true a
        rw [he] at this; cases this
    · refine each_yes _ _ fun i hi => ?_
      rw [difT_len] at hi
      rw [difT_get n s i hi, int_beq]
      by_cases hz : i = 0
      · subst hz; exact Nat.beq_refl _
      · rw [ev_at n s n he (i + 1) (by omega) (by omega)]; exact Nat.beq_refl _
  · have e1 : n - 1 = 0 := by omega
    have e2 : Nat.ble 2 n = false := by
      cases hc : Nat.ble 2 n
      · rfl
      · have := Nat.le_of_ble_eq_true hc; omega
    rw [e1, e2]; rfl
theorem evQ_even (n s : Nat) (h : 2 ≤ n) : evQ n s = evenB n s := by unfold evQ; rw [Nat.ble_eq_true_of_le h, Bool.true_and]
theorem evQ_one (s : Nat) : evQ 1 s = false := rfl
/-- What the program returns for a set. -/
def evY (n s : Nat) : Nat := if evQ n s then difN n s 1 else 0
theorem evY_evZ (n s : Nat) (h : 2 ≤ n) : evY n s = evZ n s := by unfold evY evZ; rw [evQ_even n s h]
theorem le_one (a : Nat) : decide (((a : Nat) : Int) ≤ 1) = Nat.ble a 1 := by
  cases h : Nat.ble a 1
  · refine decide_eq_false fun c => ?_
    rw [Nat.ble_eq_true_of_le (by omega)] at h; cases h
  · have := Nat.le_of_ble_eq_true h
    exact decide_eq_true (by omega)
theorem each_thin (n s : Nat) (h1 : 1 ≤ n) : eachB (fun x => decide (x ≤ 1)) (difT n s) = thinB n s := by
  cases ht : thinB n s
  · cases hc : eachB (fun x => decide (x ≤ 1)) (difT n s)
    · rfl
    · have : thinB n s = true := th_of n s n fun v hv1 hv2 => by
        have a := each_at _ _ hc (v - 1) (by rw [difT_len]; omega)
        rw [difT_get n s (v - 1) (by omega), show v - 1 + 1 = v by omega, le_one] at a
        exact Nat.le_of_ble_eq_true a
      rw [ht] at this; cases this
  · refine each_yes _ _ fun i hi => ?_
    rw [difT_len] at hi
    rw [difT_get n s i hi, le_one]
    exact Nat.ble_eq_true_of_le (th_at n s n ht (i + 1) (by omega) (by omega))
theorem thin_top (n : Nat) (h1 : 1 ≤ n) (h2 : n ≤ 12) : topN (thinB n) (2 ^ n) = thinM n := by
  refine top_eq _ _ _ (fun i hi ht => thin_most n i h1 h2 hi ht) (.inr ?_)
  obtain ⟨i, hi, _, ht, he, _⟩ := thinM_at n h1 h2
  exact ⟨i, hi, ht, he⟩
theorem gt_zero (a : Nat) : decide (((a : Nat) : Int) > 0) = Nat.blt 0 a := by
  cases h : Nat.blt 0 a
  · refine decide_eq_false fun c => ?_
    have hc : (0 : Int) < (a : Int) := c
    have := (blt_iff 0 a).2 (by omega)
    rw [h] at this; cases this
  · have := (blt_iff 0 a).1 h
    exact decide_eq_true (show (0 : Int) < (a : Int) by omega)
theorem each_whole (n s : Nat) (h1 : 1 ≤ n) (h2 : n ≤ 12) (hs : s < 2 ^ n) : (!Nat.beq s 0 && eachB (fun x => decide (x > 0)) (difT n s)) = wholeP n s := by
  have hz : s ≠ 0 ↔ 1 ≤ difN n s 0 := by
    rw [dif_zero n s h1 hs]
    constructor
    · exact fun h => size_pos s (Nat.lt_of_lt_of_le hs (Nat.pow_le_pow_right (by omega) (by omega))) h
    · intro h e; subst e
      rw [size_zero] at h; omega
  cases hw : wholeP n s
  · cases hc : (!Nat.beq s 0 && eachB (fun x => decide (x > 0)) (difT n s))
    · rfl
    · rw [Bool.and_eq_true] at hc
      have : wholeP n s = true := (whole_iff n s h1 h2 hs).2 fun d hd => by
        by_cases hd0 : d = 0
        · subst hd0
          refine hz.1 fun e => ?_
          subst e
          have := hc.1
          simp at this
        · have a := each_at _ _ hc.2 (d - 1) (by rw [difT_len]; omega)
          rw [difT_get n s (d - 1) (by omega), show d - 1 + 1 = d by omega, gt_zero] at a
          exact (blt_iff _ _).1 a
      rw [hw] at this; cases this
  · have ha := (whole_iff n s h1 h2 hs).1 hw
    have e1 : Nat.beq s 0 = false := by
      cases hc : Nat.beq s 0
      · rfl
      · exact absurd (Nat.eq_of_beq_eq_true hc) (hz.2 (ha 0 (by omega)))
    rw [e1, Bool.not_false, Bool.true_and]
    refine each_yes _ _ fun i hi => ?_
    rw [difT_len] at hi
    rw [difT_get n s i hi, gt_zero]
    exact (blt_iff _ _).2 (ha (i + 1) (by omega))
theorem whole_shift (n s : Nat) (k : Int) (h1 : 1 ≤ n) (h2 : n ≤ 12) (hs : s < 2 ^ n) (hw : wholeP n s = true) : wholeP n (shiftN n s k) = true :=
  (whole_iff n _ h1 h2 (shiftN_lt n s k)).2 fun d hd => by
    rw [dif_shift n s d k h1 h2 hs]
    exact (whole_iff n s h1 h2 hs).1 hw d hd
theorem whole_least (n s : Nat) (h1 : 1 ≤ n) (h2 : n ≤ 12) (hs : s < 2 ^ n) (hw : wholeP n s = true) : wholeM n ≤ sizeN s := by
  have hz : s ≠ 0 := fun e => by
    subst e
    have := (whole_iff n 0 h1 h2 hs).1 hw 0 (by omega)
    rw [dif_zero n 0 h1 hs, size_zero] at this
    omega
  obtain ⟨v, hv⟩ := some_bit s hz
  have hvn := lt_of_bits n s hs v hv
  rw [← size_shift n s (-(v : Int)) h1 h2 hs]
  refine low_lb _ _ _ _ (shiftN_lt n s _) ?_
  unfold oddWhole
  rw [whole_shift n s _ h1 h2 hs hw, Bool.and_true]
  have := shift_mem n s (-(v : Int)) h1 hs 0 (by omega)
  rw [show (((0 : Nat) : Int) - (-(v : Int))) = (0 : Int) - (-(v : Int)) from rfl, rest_self0 n v h1 hvn, hv] at this
  exact this
def fullWhole : Bool := (List.range 13).all fun n => Nat.beq n 0 || (wholeP n (2 ^ n - 1) && Nat.beq (sizeN (2 ^ n - 1)) n)
theorem full_whole : fullWhole = true := by decide +kernel
theorem full_size' (n : Nat) (h1 : 1 ≤ n) (h2 : n ≤ 12) : wholeP n (2 ^ n - 1) = true ∧ sizeN (2 ^ n - 1) = n := by
  have h := List.all_eq_true.1 full_whole n (List.mem_range.2 (by omega))
  rcases (Bool.or_eq_true _ _).mp h with c | c
  · have := Nat.eq_of_beq_eq_true c; omega
  · rw [Bool.and_eq_true] at c
    exact ⟨c.1, Nat.eq_of_beq_eq_true c.2⟩
theorem whole_low (n : Nat) (h1 : 1 ≤ n) (h2 : n ≤ 12) : lowN (wholeP n) 12 (2 ^ n) = wholeM n := by
  have hle : wholeM n ≤ n := low_le _ _ _
  have hp := Nat.two_pow_pos n
  refine low_eq _ _ _ _ (by omega) (fun i hi hw => whole_least n i h1 h2 hi hw) (.inr ?_)
  rcases low_at (oddWhole n) n (2 ^ n) with h | ⟨i, hi, hpi, he⟩
  · have e : wholeM n = n := h
    exact ⟨2 ^ n - 1, by omega, (full_size' n h1 h2).1, by rw [e]; exact (full_size' n h1 h2).2⟩
  · unfold oddWhole at hpi
    rw [Bool.and_eq_true] at hpi
    exact ⟨i, hi, hpi.2, he⟩
/-- Where a set of at most b places is let by, the least size doesn't turn on a greater start. -/
theorem low_start (p : Nat → Bool) (b c k i : Nat) (hb : b ≤ c) (hi : i < k) (hp : p i = true) (hs : sizeN i ≤ b) : lowN p c k = lowN p b k := by
  have h1 := low_lb p b k i hi hp
  refine low_eq _ _ _ _ (by omega) (fun j hj hpj => low_lb p b k j hj hpj) ?_
  rcases low_at p b k with h | h
  · by_cases e : b = c
    · exact .inl (by rw [h, e])
    · exact .inr ⟨i, hi, hp, by omega⟩
  · exact .inr h
/-- The shifts of a set have what is turned just where both have the same least shift. -/
theorem car_has (n s m : Nat) (h1 : 1 ≤ n) (hs : s < 2 ^ n) : (∃ k : Nat, k < n ∧ shiftN n s (k : Int) = turnN n s (m : Int)) ↔ leastN n (mapN n s (m : Int) 0 n) = leastN n s := by
  have e : turnN n s (m : Int) = mapN n s (m : Int) 0 n := turn_act n s (m : Int)
  rw [e]
  refine Iff.trans ?_ (least_iff n s (mapN n s (m : Int) 0 n) h1 hs (act_lt n s (m : Int) 0 h1)).symm
  constructor
  · rintro ⟨k, _, hk⟩
    exact ⟨(k : Int), by rw [act_one n s _ h1 hs]; exact hk.symm⟩
  · rintro ⟨k, hk⟩
    refine ⟨rest n k, rest_lt n k h1, ?_⟩
    rw [← sh_norm n s k h1 hs, ← act_one n s k h1 hs]
    exact hk.symm
/-- The shifts of a set. -/
def shL (n s : Nat) : List Int := tabI n fun k => ((shiftN n s (k : Int) : Nat) : Int)
theorem shL_len (n s : Nat) : (shL n s).length = n := tabI_len n _
theorem shL_get (n s k : Nat) (hk : k < n) : (shL n s).getD k 0 = ((shiftN n s (k : Int) : Nat) : Int) := tabI_get n _ k hk
/-- Whether the shifts have what is turned. -/
def carB (n s m : Nat) : Bool := decide (leastN n (mapN n s (m : Int) 0 n) = leastN n s)
theorem carB_yes (n s m k : Nat) (h1 : 1 ≤ n) (hs : s < 2 ^ n) (hk : k < n) (h : (shL n s).getD k 0 = ((turnN n s (m : Int) : Nat) : Int)) : carB n s m = true := by
  rw [shL_get n s k hk] at h
  exact decide_eq_true ((car_has n s m h1 hs).1 ⟨k, hk, Int.ofNat.inj h⟩)
theorem carB_no (n s m : Nat) (h1 : 1 ≤ n) (hs : s < 2 ^ n) (h : ∀ k, k < n → (shL n s).getD k 0 ≠ ((turnN n s (m : Int) : Nat) : Int)) : carB n s m = false :=
  decide_eq_false fun c => by
    obtain ⟨k, hk, e⟩ := (car_has n s m h1 hs).2 c
    exact h k hk (by rw [shL_get n s k hk, e])
theorem carS_yes (n s m x : Nat) (h : carB n s m = true) : carS n s m x = x ||| 2 ^ m := by unfold carS; rw [if_pos (of_decide_eq_true h)]
theorem carS_no (n s m x : Nat) (h : carB n s m = false) : carS n s m x = x := by unfold carS; rw [if_neg (of_decide_eq_false h)]
/-- What has come, told by its last one. -/
theorem comeP_in (p : Nat → Bool) (N j i : Nat) (hj : j ≤ N) (hi : i < j) (hp : p i = true) : ∃ h : i < N, (⟨i, h⟩ : Fin N) ∈ comeP p N j := by
  induction j with
  | zero => omega
  | succ j ih =>
    have hjN : j < N := by omega
    cases hb : p j
    · rw [comeP_no hb]
      by_cases e : i = j
      · subst e; rw [hp] at hb; cases hb
      · exact ih (by omega) (by omega)
    · rw [comeP_yes hjN hb]
      by_cases e : i = j
      · subst e; exact ⟨hjN, by simp⟩
      · obtain ⟨h, hm⟩ := ih (by omega) (by omega)
        exact ⟨h, by simp [hm]⟩
theorem find_hit (n k : Nat) (h1 : 2 ≤ n) (hk : 1 ≤ k) (pre : List (Fin (2 ^ n))) (x : Fin (2 ^ n)) (j : Nat) (hj : j < 2 ^ n) (hpj : evQ n j = true) (he : pre ++ [x] = comeP (evQ n) (2 ^ n) (j + 1)) (hs : sizeN x.val = k) (hn : ∀ y, y ∈ pre → sizeN y.val ≠ k) : findN n k = x.val ∧ findN n k ≠ 0 := by
  rw [comeP_yes hj hpj] at he
  obtain ⟨e1, e2⟩ := List.append_inj' he rfl
  have e2 : x = ⟨j, hj⟩ := by simpa using e2
  subst e2
  subst e1
  have hev : evkP n k j = true := (evk_iff n k j).2 ⟨hs, by rw [← evQ_even n j h1]; exact hpj⟩
  have hz : j ≠ 0 := fun e => by
    have hs' : sizeN j = k := hs
    rw [e, size_zero] at hs'
    omega
  have h0 : firstP (evkP n k) j = 0 := by
    by_cases hc : firstP (evkP n k) j = 0
    · exact hc
    · obtain ⟨a, b⟩ := firstP_is _ _ hc
      obtain ⟨a1, a2⟩ := (evk_iff n k _).1 a
      obtain ⟨h, hm⟩ := comeP_in (evQ n) (2 ^ n) j _ (by omega) b (by rw [evQ_even n _ h1]; exact a2)
      have h5 := hn _ hm
      exact (h5 a1).elim
  have e : findN n k = j := by
    unfold findN
    exact firstP_hit (evkP n k) j (2 ^ n) h0 hev hz hj
  rw [e]
  exact ⟨rfl, hz⟩
theorem find_miss (n k : Nat) (h1 : 2 ≤ n) (hn : ∀ y, y ∈ comeP (evQ n) (2 ^ n) (2 ^ n) → sizeN y.val ≠ k) : findN n k = 0 := by
  by_cases hc : findN n k = 0
  · exact hc
  · obtain ⟨a, b⟩ := firstP_is _ _ hc
    obtain ⟨a1, a2⟩ := (evk_iff n k _).1 a
    obtain ⟨h, hm⟩ := comeP_in (evQ n) (2 ^ n) (2 ^ n) _ (Nat.le_refl _) b (by rw [evQ_even n _ h1]; exact a2)
    have h5 := hn _ hm
    exact (h5 a1).elim
end Go.Proofs.Ytaklmepioeoohaa

/- Differences, the program's side: tables. Written by gen76.py. -/
namespace Go.Proofs.Ytaklmepioeoohaa
open Go.RowKit Go.Shelf
set_option linter.unusedVariables false
attribute [local go_sem] Oper.semAt_some
theorem differences_any (n s : Nat) (w : World) (h1 : 1 ≤ n) (h2 : n ≤ 12) (hs : s < 2 ^ n) :
    Calls Try.prog 85 #[.agg #[.int .i64 (n:Int)], .int .i64 (s:Int)] w fun e w' => ∃ g, e = .returned (.slice (some ⟨g, 0, none⟩) n n) ∧ Below w.heap.size w w' ∧ IsInts w' w.heap.size (.slice (some ⟨g, 0, none⟩) n n) (difL n s) := by
  have hd := counts_dif n s h1 h2 hs
  have ht := turnN_lt n s (-1) h1
  have HT := Lib.hid (fun W => turn_any n s (-1) W h1 h2 hs (by omega) (by omega))
  have hc := fun W => counts_any n s (turnN n s (-1)) W h1 h2 hs ht
  simp only [hd] at hc
  have HC := Lib.hid hc
  clear hc hd
  generalize turnN n s (-1) = t at *
  have hmx : Try.prog.follows .mixedOrders = true := by kernel_rfl
  have hA0 := Boxed.new w 42 (.int .i64 (n:Int))
  have hB0 : Below w.heap.size w (w.alloc (.cells #[.int .i64 (n:Int)] 42)) := (Below.refl _ _).alloc (Nat.le_refl _) _
  have hz0 : w.heap.size + 1 ≤ (w.alloc (.cells #[.int .i64 (n:Int)] 42)).heap.size := by simp
  go_enter Try.func85, Try.ntmps85
  go_wp2_with fail
  obtain ⟨W0, hW0⟩ : ∃ W0, w.alloc (.cells #[.int .i64 (n:Int)] 42) = W0 := ⟨_, rfl⟩
  rw [hW0] at hA0 hB0 hz0 ⊢
  clear hW0
  have hA0 : Boxed W0.drew w.heap.size 42 (.int .i64 (n:Int)) := hA0
  have hB0 : Below w.heap.size w W0.drew := hB0.drew
  have hz0 : w.heap.size + 1 ≤ W0.drew.heap.size := hz0
  refine wp_region_held_drew (S := fun W => Boxed W w.heap.size 42 (.int .i64 (n:Int))) hmx hA0 (fun _ => ?_)
  generalize W0.drew = W4 at *
  refine take1 0 (v := ?_) rfl (by kernel_rfl) (by kernel_rfl) (by kernel_rfl) (fun _ _ _ h => h) (by rfl) ?_ hA0 ?_
  rotate_left
  · intro W9 hA
    have c0 := hA.cell
    clear hA
    go_simp
    try with_reducible rfl
  try simp only [Act.put, List.setIfInBounds_toArray, List.set_cons_zero, List.set_cons_succ]
  refine take1 1 (v := ?_) rfl (by kernel_rfl) (by kernel_rfl) (by kernel_rfl) (fun _ _ _ h => h) (by rfl) ?_ hA0 ?_
  rotate_left
  · intro W9 hA
    have c0 := hA.cell
    clear hA
    go_simp
    try with_reducible rfl
  try simp only [Act.put, List.setIfInBounds_toArray, List.set_cons_zero, List.set_cons_succ]
  refine take1 2 (v := ?_) rfl (by kernel_rfl) (by kernel_rfl) (by kernel_rfl) (fun _ _ _ h => h) (by rfl) ?_ hA0 ?_
  rotate_left
  · intro W9 hA
    have c0 := hA.cell
    clear hA
    go_simp
    try with_reducible rfl
  try simp only [Act.put, List.setIfInBounds_toArray, List.set_cons_zero, List.set_cons_succ]
  refine take1 3 (v := ?_) rfl (by kernel_rfl) (by kernel_rfl) (by kernel_rfl) (fun _ _ _ h => h) (by rfl) ?_ hA0 ?_
  rotate_left
  · intro W9 hA
    have c0 := hA.cell
    clear hA
    go_simp
    try with_reducible rfl
  try simp only [Act.put, List.setIfInBounds_toArray, List.set_cons_zero, List.set_cons_succ]
  refine step1 4 (by kernel_rfl) rfl (fun K hK => ?_)
  go_simp
  refine (HT.out _).mono ?_
  rintro e Wt ⟨rfl, hbt⟩
  go_wp2_with fail
  have hA1 := boxed_below hA0 hA0.lt hbt
  have hB1 := hB0.trans (hbt.mono hB0.size)
  have hz1 : w.heap.size + 1 ≤ Wt.heap.size := Nat.le_trans hz0 hbt.size
  refine hK.out _ _ hA1 ?_
  clear hK K
  try simp only [Act.put, List.setIfInBounds_toArray, List.set_cons_zero, List.set_cons_succ]
  refine step1 5 (by kernel_rfl) rfl (fun K hK => ?_)
  go_simp
  refine (HC.out _).mono ?_
  rintro e Wu ⟨rfl, hbu, hIu⟩
  go_wp2_with fail
  have hA2 := boxed_below hA1 hA1.lt hbu
  have hB2 := hB1.trans (hbu.mono hB1.size)
  have HI := Lib.hid (hIu.base (Nat.le_trans (Nat.le_succ _) hz1))
  refine hK.out _ _ hA2 ?_
  clear hK K hIu
  try simp only [Act.put, List.setIfInBounds_toArray, List.set_cons_zero, List.set_cons_succ]
  refine take1 6 (v := ?_) rfl (by kernel_rfl) (by kernel_rfl) (by kernel_rfl) (fun _ _ _ h => h) (by rfl) ?_ hA2 ?_
  rotate_left
  · intro W9 hA
    have c0 := hA.cell
    clear hA
    go_simp
    try with_reducible rfl
  try simp only [Act.put, List.setIfInBounds_toArray, List.set_cons_zero, List.set_cons_succ]
  refine stop1 (by kernel_rfl) ?_
  go_wp2
  go_ret
  exact ⟨_, rfl, hB2, HI.out⟩
/-- The tail of a list that lies in memory: all but its first one. -/
def Tail (W : World) (g : Nat) (xs : List Int) : Prop := g < W.heap.size ∧ ∀ i, i < xs.length → W.cell? ⟨g, 1 + i, none⟩ = some (.int .i64 (xs.getD i 0))
theorem Tail.below {W W' : World} {g : Nat} {xs : List Int} {N : Nat} (h : Tail W g xs) (hN : g < N) (hb : Below N W W') : Tail W' g xs :=
  ⟨Nat.lt_of_lt_of_le h.1 hb.size, fun i hi => (hb.cell (p := ⟨g, 1 + i, none⟩) hN).trans (h.2 i hi)⟩
theorem tail_of {W : World} {b g n cp : Nat} {xs : List Int} (h : IsInts W b (.slice (some ⟨g, 0, none⟩) n cp) xs) (hl : xs.length = n) (hn : 1 ≤ n) : Tail W g (xs.drop 1) := by
  refine ⟨(World.ownsRow.lt h g rfl).2, fun i hi => ?_⟩
  rw [List.length_drop] at hi
  have h2 := h.cell (i := 1 + i) (by omega)
  rw [h2, List.getD_eq_getElem?_getD, List.getD_eq_getElem?_getD, List.getElem?_drop]
theorem behind_one (g : Nat) (w : World) :
    Calls Try.prog 86 #[.slice (some ⟨g, 0, none⟩) 1 1] w fun e w' => (∃ A, e = .returned (.slice A 0 0)) ∧ w = w' := by
  go_enter Try.func86, Try.ntmps86
  go_wp2
  go_ret
  exact ⟨⟨_, rfl⟩, rfl⟩
theorem behind_any (g n : Nat) (w : World) (h1 : 2 ≤ n) (h2 : n ≤ 12) :
    Calls Try.prog 86 #[.slice (some ⟨g, 0, none⟩) n n] w fun e w' => e = .returned (.slice (some ⟨g, 1, none⟩) (n - 1) (n - 1)) ∧ w = w' := by
  have i1 : (1 : Int) ≤ (n : Int) := by omega
  have i4 : 0 < n := by omega
  have i5 : (n = 1) = False := by simp; omega
  go_enter Try.func86, Try.ntmps86
  go_wp2
  go_ret
  exact ⟨rfl, rfl⟩
end Go.Proofs.Ytaklmepioeoohaa

/- Differences, the program's side: even, thin and whole sets. Written by gen77.py. -/
namespace Go.Proofs.Ytaklmepioeoohaa
open Go.RowKit Go.Shelf
set_option linter.unusedVariables false
attribute [local go_sem] Oper.semAt_some
theorem same1_any (x z : Int) (T g m : Nat) (hm : 1 ≤ m) (w : World) (hT : Boxed w T 93 (.slice (some ⟨g, 1, none⟩) m m)) (hc : w.cell? ⟨g, 1, none⟩ = some (.int .i64 z)) :
    Calls Try.prog 99 #[.int .i64 x, .pointer (some ⟨T, 0, none⟩)] w fun e w' => e = .returned (.bool (x == z)) ∧ w = w' := by
  have c0 := hT.cell
  have i1 : (0 : Int) < (m : Int) := by omega
  have i2 : 0 < m := hm
  go_enter Try.func99, Try.ntmps99
  go_wp2
  go_ret
  exact ⟨rfl, rfl⟩
set_option maxHeartbeats 1000000 in
theorem each1_same (p : Int → Bool) (g m : Nat) (xs : List Int) (w : World) (T : Nat) (hl : xs.length = m) (hm : 1 ≤ m) (hm2 : m ≤ 12) (hX : Tail w g xs)
    (hF : ∀ (x : Int) (W : World), Below w.heap.size w W → Calls Try.prog 99 #[.int .i64 x, .pointer (some ⟨T, 0, none⟩)] W fun e w' => e = .returned (.bool (p x)) ∧ W = w') :
    Calls Try.prog 98 #[.slice (some ⟨g, 1, none⟩) m m, .func (.func 99) #[] #[.pointer (some ⟨T, 0, none⟩)]] w fun e w' => e = .returned (.bool (eachB p xs)) ∧ Below w.heap.size w w' := by
  have HF := Lib.hid hF
  have HX := Lib.hid hX
  have HL := Lib.hid hl
  have HY := Lib.hid (each_yes p xs)
  have HN := Lib.hid (each_no p xs)
  have HG := Lib.hid hX.1
  clear hF hX
  go_enter Try.func98, Try.ntmps98
  go_wp2
  go_loopw [9] (fun u wr => ∃ i : Nat, i ≤ m ∧ u = .int .i64 (i : Int) ∧ Hid (∀ j, j < i → p (xs.getD j 0) = true) ∧ Below w.heap.size w wr) (fun u _ => m - (intOf u).toNat)
  case atStart => exact ⟨0, Nat.zero_le _, rfl, Lib.hid (fun j hj => absurd hj (by omega)), Below.refl _ _⟩
  case round =>
    obtain ⟨i, hi, rfl, HE, hB⟩ := hrel
    by_cases hlt : i < m
    · have c1 := (HX.out.below HG.out hB).2 i (by rw [HL.out]; exact hlt)
      have i1 : (i : Int) < (m : Int) := by omega
      have i2 : (0 : Int) ≤ (i : Int) := by omega
      have hwk : IntKind.i64.wrap ((i : Int) + 1) = ((i + 1 : Nat) : Int) := by rw [IntWalk.i64_in _ ⟨by omega, by omega⟩]; rfl
      have HFi := Lib.hid (fun (W : World) (hb : Below w.heap.size w W) => HF.out (xs.getD i 0) W hb)
      have HNi := Lib.hid (fun h => HN.out i (by rw [HL.out]; exact hlt) h)
      have HEs : Hid (p (xs.getD i 0) = true → ∀ j, j < i + 1 → p (xs.getD j 0) = true) := Lib.hid (fun h j hj => by
        by_cases e : j = i
        · subst e; exact h
        · exact HE.out j (by omega))
      generalize xs.getD i 0 = z at *
      cases hp : p z
      · rw [hp] at HFi
        have HV := Lib.hid (HNi.out hp)
        clear HEs HNi hlt
        go_wp2_with (go_at_call 99; refine (HFi.out _ hB).mono ?_; rintro e w2 ⟨rfl, rfl⟩)
        go_ret
        exact ⟨ret_bool HV.out.symm, hB⟩
      · rw [hp] at HFi
        have HEn := Lib.hid (HEs.out hp)
        clear HEs HNi
        go_wp2_with (go_at_call 99; refine (HFi.out _ hB).mono ?_; rintro e w2 ⟨rfl, rfl⟩)
        go_roundw
        case rel => exact ⟨i + 1, by omega, by go_num, HEn, hB⟩
        case measure => simp [intOf]; omega
    · have i1 : ¬ ((i : Int) < (m : Int)) := by omega
      have HV := Lib.hid (HY.out (fun j hj => HE.out j (by rw [HL.out] at hj; omega)))
      clear hlt hi
      go_wp2
      go_ret
      exact ⟨ret_bool HV.out.symm, hB⟩
theorem same_none (A : Option Addr) (w : World) :
    Calls Try.prog 87 #[.slice A 0 0] w fun e w' => e = .returned (.tuple #[.int .i64 0, .bool false]) ∧ Below w.heap.size w w' := by
  go_enter Try.func87, Try.ntmps87
  go_wp2
  go_ret2
  exact ⟨rfl, (Below.refl _ _).alloc (Nat.le_refl _) _⟩
theorem same_any (g m : Nat) (xs : List Int) (w : World) (hl : xs.length = m) (hm : 1 ≤ m) (hm2 : m ≤ 12) (hX : Tail w g xs) :
    Calls Try.prog 87 #[.slice (some ⟨g, 1, none⟩) m m] w fun e w' => e = .returned (.tuple #[.int .i64 (if sameB xs then xs.getD 0 0 else 0), .bool (sameB xs)]) ∧ Below w.heap.size w w' := by
  have hs : sameB xs = eachB (fun x => x == xs.getD 0 0) xs := by
    unfold sameB
    rw [hl]
    have : Nat.beq m 0 = false := by
      cases hc : Nat.beq m 0
      · rfl
      · have := Nat.eq_of_beq_eq_true hc; omega
    rw [this]; rfl
  rw [hs]
  clear hs
  have hc := hX.2 0 (by omega)
  have hx1 : Tail (w.alloc (.cells #[.slice (some ⟨g, 1, none⟩) m m] 93)) g xs := hX.below hX.1 ((Below.refl _ _).alloc (Nat.le_refl _) _)
  have hT := Boxed.new w 93 (.slice (some ⟨g, 1, none⟩) m m)
  have hg := hX.1
  obtain ⟨z, hz⟩ : ∃ z, xs.getD 0 0 = z := ⟨_, rfl⟩
  rw [hz] at hc ⊢
  have HE := Lib.hid (fun W (h1 : Tail W g xs) (h2 : Boxed W w.heap.size 93 (.slice (some ⟨g, 1, none⟩) m m)) => each1_same (fun x => x == z) g m xs W w.heap.size hl hm hm2 h1 (fun x W' hb => same1_any x z w.heap.size g m hm W' (boxed_below h2 h2.lt hb) ((h1.below h1.1 hb).2 0 (by omega) ▸ by rw [hz])))
  have i1 : (m : Int) ≠ 0 := by omega
  have i2 : ((m : Int) == 0) = false := by simp; omega
  have i3 : (0 : Int) < (m : Int) := by omega
  have i4 : 0 < m := hm
  clear hX
  cases hv : eachB (fun x => x == z) xs
  · rw [hv] at HE
    go_enter Try.func87, Try.ntmps87
    go_wp2_with (go_at_call 98; refine (HE.out _ hx1 hT).mono ?_; rintro e w2 ⟨rfl, hb2⟩)
    go_ret2
    exact ⟨rfl, ((Below.refl _ _).alloc (Nat.le_refl _) _).trans (hb2.mono (by simp))⟩
  · rw [hv] at HE
    go_enter Try.func87, Try.ntmps87
    go_wp2_with (go_at_call 98; refine (HE.out _ hx1 hT).mono ?_; rintro e w2 ⟨rfl, hb2⟩; have hT2 := (boxed_below hT hT.lt hb2).cell; have hc2 := (hx1.below hx1.1 hb2).2 0 (by omega); rw [hz] at hc2)
    go_ret2
    exact ⟨rfl, ((Below.refl _ _).alloc (Nat.le_refl _) _).trans (hb2.mono (by simp))⟩
theorem evenWays_any (n s : Nat) (w : World) (h1 : 1 ≤ n) (h2 : n ≤ 12) (hs : s < 2 ^ n) :
    Calls Try.prog 65 #[.agg #[.int .i64 (n:Int)], .int .i64 (s:Int)] w fun e w' => e = .returned (.tuple #[.int .i64 ((evY n s : Nat) : Int), .bool (evQ n s)]) ∧ Below w.heap.size w w' := by
  have B0 : Below w.heap.size w (w.alloc (.cells #[.int .i64 (n:Int)] 42)) := (Below.refl _ _).alloc (Nat.le_refl _) _
  have hz0 : w.heap.size ≤ (w.alloc (.cells #[.int .i64 (n:Int)] 42)).heap.size := by simp
  have HD := Lib.hid (fun W => differences_any n s W h1 h2 hs)
  by_cases hn : n = 1
  · subst hn
    have e1 : evY 1 s = 0 := rfl
    have e2 : evQ 1 s = false := rfl
    rw [e1, e2]
    clear e1 e2
    clear h1 h2 hs
    go_enter Try.func65, Try.ntmps65
    go_wp2_with fail
    refine (HD.out _).mono ?_
    rintro e w1 ⟨g, rfl, hb1, hI1⟩
    have B1 := B0.trans (hb1.mono hz0)
    clear hb1 hI1 HD
    go_wp2_with fail
    refine (behind_one g _).mono ?_
    rintro e w2 ⟨⟨A, rfl⟩, rfl⟩
    have z1 := B1.size
    go_wp2_with fail
    refine (same_none A _).mono ?_
    rintro e w3 ⟨rfl, hb3⟩
    have B3 := B1.trans (hb3.mono z1)
    go_wp2
    go_ret2
    exact ⟨rfl, B3⟩
  · have hn2 : 2 ≤ n := by omega
    have hm := difT_len n s
    have hv := same_even n s h1
    have hz : (if sameB (difT n s) then (difT n s).getD 0 0 else 0) = ((evY n s : Nat) : Int) := by
      rw [hv]
      unfold evY
      cases evQ n s
      · rfl
      · exact difT_get n s 0 (by omega)
    have HS := Lib.hid (fun (g : Nat) (W : World) (h : Tail W g (difT n s)) => (show Calls Try.prog 87 #[.slice (some ⟨g, 1, none⟩) (n - 1) (n - 1)] W fun e w' => e = .returned (.tuple #[.int .i64 ((evY n s : Nat) : Int), .bool (evQ n s)]) ∧ Below W.heap.size W w' from by
      have a := same_any g (n - 1) (difT n s) W hm (by omega) (by omega) h
      rw [hz, hv] at a
      exact a))
    clear hz hv hm
    clear hs hn
    go_enter Try.func65, Try.ntmps65
    go_wp2_with fail
    refine (HD.out _).mono ?_
    rintro e w1 ⟨g, rfl, hb1, hI1⟩
    have B1 := B0.trans (hb1.mono hz0)
    have HT := Lib.hid (tail_of hI1 (difL_len n s) h1)
    clear hb1 hI1 HD
    go_wp2_with fail
    refine (behind_any g n _ hn2 h2).mono ?_
    rintro e w2 ⟨rfl, rfl⟩
    have z1 := B1.size
    go_wp2_with fail
    refine (HS.out g _ HT.out).mono ?_
    rintro e w3 ⟨rfl, hb3⟩
    have B3 := B1.trans (hb3.mono z1)
    go_wp2
    go_ret2
    exact ⟨rfl, B3⟩
set_option maxHeartbeats 1000000 in
theorem each0_any (A : Option Addr) (f : Value) (w : World) :
    Calls Try.prog 98 #[.slice A 0 0, f] w fun e w' => e = .returned (.bool true) ∧ w = w' := by
  go_enter Try.func98, Try.ntmps98
  go_wp2
  go_loopw [9] (fun u wr => u = .int .i64 0 ∧ w = wr) (fun _ _ => 0)
  case atStart => exact ⟨rfl, rfl⟩
  case round =>
    obtain ⟨rfl, rfl⟩ := hrel
    go_wp2
    go_ret
    exact ⟨rfl, rfl⟩
end Go.Proofs.Ytaklmepioeoohaa

/- Differences, the program's side: the sets that the iterator yields, for each of chapter 7's predicates. Written by gen75.py. -/
namespace Go.Proofs.Ytaklmepioeoohaa
open Go.RowKit Go.Shelf
set_option linter.unusedVariables false
attribute [local go_sem] Oper.semAt_some
end Go.Proofs.Ytaklmepioeoohaa

/- The least size of the sets that an iterator yields (fewest). Written by gen75.py. -/
namespace Go.Proofs.Ytaklmepioeoohaa
open Go.RowKit Go.Shelf
set_option linter.unusedVariables false
attribute [local go_sem] Oper.semAt_some
end Go.Proofs.Ytaklmepioeoohaa

/- Differences, the program's side: shifts of a set. Written by gen78.py. -/
namespace Go.Proofs.Ytaklmepioeoohaa
open Go.RowKit Go.Shelf
set_option linter.unusedVariables false
attribute [local go_sem] Oper.semAt_some
/-- v reads as a list of sets, in memory from block b on. -/
def IsSets (W : World) (b : Nat) (v : Value) (xs : List Int) : Prop := W.ownsRow b 43 1 v xs.length (xs.map (Value.int .i64))
theorem IsSets.cell {W : World} {b g cap len : Nat} {xs : List Int} (h : IsSets W b (.slice (some ⟨g, 0, none⟩) len cap) xs) {i : Nat} (hi : i < xs.length) : W.cell? ⟨g, i, none⟩ = some (.int .i64 (xs.getD i 0)) := by
  have hx : (xs.map (Value.int .i64))[i]? = some (.int .i64 (xs.getD i 0)) := by
    rw [List.getElem?_map, List.getElem?_eq_getElem hi, List.getD_eq_getElem?_getD, List.getElem?_eq_getElem hi]; rfl
  have h2 := World.ownsRow.cells h (g := g) rfl i _ hx
  have hadd : (⟨g, 0, none⟩ : Addr).add i = ⟨g, i, none⟩ := by unfold Addr.add; split <;> simp_all
  rw [hadd] at h2
  exact h2
theorem IsSets.frozen {W : World} {b g cap : Nat} {xs : List Int} (h : IsSets W b (.slice (some ⟨g, 0, none⟩) xs.length cap) xs) (i : Nat) : W.frozen? ⟨g, i, none⟩ = false := World.ownsRow.frozenAt h i
theorem IsSets.set {W : World} {b g cap : Nat} {xs : List Int} (h : IsSets W b (.slice (some ⟨g, 0, none⟩) xs.length cap) xs) (i : Nat) (z : Int) :
    IsSets (W.setCell ⟨g, i, none⟩ (.int .i64 z)) b (.slice (some ⟨g, 0, none⟩) (xs.set i z).length cap) (xs.set i z) := by
  have := (World.ownsRow.stored h i (.int .i64 z)).1
  unfold IsSets
  rw [List.length_set, List.map_set]
  exact this
theorem IsSets.below {W W' : World} {b : Nat} {v : Value} {xs : List Int} (h : IsSets W b v xs) {N : Nat} (hN : ∀ g, v.ownBlock = some g → g < N) (hb : Below N W W') : IsSets W' b v xs := by
  refine ⟨h.1, ?_⟩
  rcases h.2 with hn | ⟨g, cap, cur, rfl, h1, hgg, rest⟩
  · exact .inl hn
  · exact .inr ⟨g, cap, cur, rfl, h1, (hb.block g (hN g rfl)).trans hgg, rest⟩
theorem IsSets.belowAll {W W' : World} {b : Nat} {v : Value} {xs : List Int} (h : IsSets W b v xs) (hb : Below W.heap.size W W') : IsSets W' b v xs :=
  h.below (fun g hg => (World.ownsRow.lt h g hg).2) hb
theorem IsSets.base {W : World} {b b' : Nat} {v : Value} {xs : List Int} (h : IsSets W b v xs) (hb : b' ≤ b) : IsSets W b' v xs := by
  refine ⟨h.1, ?_⟩
  rcases h.2 with hn | ⟨g, cap, cur, rfl, h1, rest⟩
  · exact .inl hn
  · exact .inr ⟨g, cap, cur, rfl, by omega, rest⟩
theorem Try.infoPlaces : (Try.prog.info? 43).map (fun i => (i.zero, i.size, i.bytes)) = some (some (.int .i64 0), 1, 8) := by kernel_rfl
theorem made_sets (n : Nat) (hn : n ≤ 1000) (w : World) : IsSets (w.alloc (.cells (madeCells #[.int .i64 0] n) 43)) w.heap.size (.slice (some ⟨w.heap.size, 0, none⟩) n n) (List.replicate n 0) := by
  have h := World.ownsRow_lit (base := w.heap.size) (e := 43) (size := 1) w (madeCells #[.int .i64 0] n) n (Nat.le_refl _) (by unfold maxLen; omega) (by simpa using size_madeCells #[Value.int .i64 0] n)
  unfold IsSets
  rw [List.length_replicate]
  have e : (List.replicate n (0 : Int)).map (Value.int .i64) = (madeCells #[Value.int .i64 0] n).toList := by
    rw [toList_madeCells_one, List.map_replicate]
  rw [e]
  exact h
/-- The first k shifts. -/
def shTo (n s k : Nat) : List Int := tabI n fun i => if i < k then ((shiftN n s (i : Int) : Nat) : Int) else 0
theorem shTo_len (n s k : Nat) : (shTo n s k).length = n := tabI_len n _
theorem shTo_zero (n s : Nat) : shTo n s 0 = List.replicate n 0 := by
  refine List.ext_getElem (by simp [shTo, tabI]) fun k h1 h2 => ?_
  simp [shTo, tabI]
theorem shTo_end (n s : Nat) : shTo n s n = shL n s := tabI_congr n _ _ fun i hi => by rw [if_pos hi]
theorem shTo_step (n s k : Nat) : shTo n s (k + 1) = (shTo n s k).set k ((shiftN n s (k : Int) : Nat) : Int) := by
  unfold shTo
  rw [tabI_set]
  refine tabI_congr n _ _ fun i hi => ?_
  by_cases e : i = k
  · subst e; rw [if_pos (by omega), if_pos rfl]
  · rw [if_neg e]
    by_cases h : i < k
    · rw [if_pos h, if_pos (by omega)]
    · rw [if_neg h, if_neg (by omega)]
end Go.Proofs.Ytaklmepioeoohaa

/- Differences, the program's side: the least even set of a size. Written by gen79.py. -/
namespace Go.Proofs.Ytaklmepioeoohaa
open Go.RowKit Go.Shelf
set_option linter.unusedVariables false
attribute [local go_sem] Oper.semAt_some
/-- The last set that has come. -/
def lastV {N : Nat} (pre : List (Fin N)) : Nat := (pre.getLast?.map (·.val)).getD 0
theorem lastV_snoc {N : Nat} (pre : List (Fin N)) (x : Fin N) : lastV (pre ++ [x]) = x.val := by simp [lastV]
/-- The last set that has come is the first one of size k. -/
def hitK {N : Nat} (k : Nat) (pre : List (Fin N)) : Prop := ∃ pre0 x, pre = pre0 ++ [x] ∧ sizeN x.val = k ∧ ∀ y, y ∈ pre0 → sizeN y.val ≠ k
theorem find_last (n k : Nat) (h1 : 2 ≤ n) (hk : 1 ≤ k) (pre : List (Fin (2 ^ n))) (j : Nat) (hj : j < 2 ^ n) (hpj : evQ n j = true) (he : pre = comeP (evQ n) (2 ^ n) (j + 1)) (hh : hitK k pre) : findN n k = lastV pre ∧ findN n k ≠ 0 := by
  obtain ⟨pre0, x, rfl, hs, hn⟩ := hh
  rw [lastV_snoc]
  exact find_hit n k h1 hk pre0 x j hj hpj he hs hn
end Go.Proofs.Ytaklmepioeoohaa

/- Differences, the program's side: the units that carry a set. Written by gen80.py. -/
namespace Go.Proofs.Ytaklmepioeoohaa
open Go.RowKit Go.Shelf
set_option linter.unusedVariables false
attribute [local go_sem] Oper.semAt_some
theorem sets_own {β : Type} (b : Nat) (v : Value) (f : β → List Int) : Own (fun s W => IsSets W b v (f s)) := fun s X Y row hs hg hrow =>
  World.ownsRow.kept hs hg (by
    cases hv : v.ownBlock with
    | none => exact .inl rfl
    | some g =>
      refine .inr (fun e => ?_)
      obtain ⟨o, ho, hc⟩ := hrow g e.symm
      rcases hs.2 with ⟨rfl, _⟩ | ⟨g', cap, cur, rfl, _, hg', _⟩
      · simp [Value.ownBlock] at hv
      · simp only [Value.ownBlock, Option.some.injEq] at hv
        subst hv
        rw [hg'] at ho; cases ho; simp [Obj.isCells] at hc)
theorem IsSets.aside {T : Nat} {W W' : World} {b g len cap : Nat} {xs : List Int} (h : IsSets W b (.slice (some ⟨g, 0, none⟩) len cap) xs) (hA : Aside T W W') (hT : T < b) : IsSets W' b (.slice (some ⟨g, 0, none⟩) len cap) xs := by
  have hl := World.ownsRow.lt h g rfl
  refine ⟨h.1, ?_⟩
  rcases h.2 with hn | ⟨g', cap', cur, e, h1, hgg, rest⟩
  · exact .inl hn
  · refine .inr ⟨g', cap', cur, e, h1, ?_, rest⟩
    have e2 : g = g' := by cases e; rfl
    subst e2
    exact (hA.block g hl.2 (by omega)).trans hgg
theorem carS_lt (n s v x : Nat) (hv : v < n) (hx : x < 2 ^ n) : carS n s v x < 2 ^ n := by
  unfold carS; split
  · exact or_pow_lt n x v hx hv
  · exact hx
end Go.Proofs.Ytaklmepioeoohaa

/- Differences, the program's side: the functions that others call. Written by gen81.py. -/
namespace Go.Proofs.Ytaklmepioeoohaa
open Go.RowKit Go.Shelf
set_option linter.unusedVariables false
theorem setsQ_any (n g : Nat) (b l : Array Value) (w : World) :
    Calls Try.prog 81 #[.agg #[.int .i64 (n:Int)], .func (.func g) b l] w fun e w' => ∃ R H, e = .returned (.func (.func 94) #[] #[.pointer (some ⟨R, 0, none⟩), .pointer (some ⟨H, 0, none⟩)]) ∧ Boxed w' R 42 (.int .i64 (n:Int)) ∧ Boxed w' H 81 (.func (.func g) b l) ∧ Below w.heap.size w w' := by
  refine (setsThat_any n g b l w).mono ?_
  rintro e w' ⟨rfl, rfl⟩
  have bR := (Boxed.new w 42 (.int .i64 (n:Int))).alloc (.cells #[.func (.func g) b l] 81)
  have bH := Boxed.new (w.alloc (.cells #[.int .i64 (n:Int)] 42)) 81 (.func (.func g) b l)
  rw [World.size_alloc] at bH
  exact ⟨_, _, rfl, bR, bH, ((Below.refl _ w).alloc (Nat.le_refl _) _).alloc (by simp) _⟩
theorem no_DiffEven : NoDiffEven := by
  intro n s W h
  by_cases hn : NotIn n s
  · have HO := Lib.hid (of1_no n s W hn)
    clear h hn
    go_enter Try.func31, Try.ntmps31
    go_wp2_with fail
    refine HO.out.mono ?_
    rintro e w1 ⟨rfl, hb1⟩
    go_wp2
    go_ret2
    exact ⟨rfl, by
    have := hb1.size
    first
    | exact hb1
    | exact hb1.alloc (by omega) _
    | exact (hb1.alloc (by omega) _).trans (hb2.mono (by simp; omega))
    | exact ((hb1.alloc (by omega) _).trans (hb2.mono (by simp; omega))).trans (hb3.mono (by have := hb2.size; simp at this; omega))⟩
  · obtain ⟨m, t, rfl, rfl, h1, h2, h3⟩ := not_notIn hn
    have h4 : ((m : Nat) : Int) < 2 := by
      rcases h with h | h
      · exact absurd h hn
      · exact h
    obtain rfl : m = 1 := by omega
    have HO := Lib.hid (of1_yes 1 t W h1 h2 h3)
    have HS := Lib.hid (fun W => evenWays_any 1 t W h1 h2 h3)
    have e1 : evY 1 t = 0 := rfl
    have e2 : evQ 1 t = false := rfl
    rw [e1, e2] at HS
    clear e1 e2 h hn h3
    go_enter Try.func31, Try.ntmps31
    go_wp2_with fail
    refine HO.out.mono ?_
    rintro e w1 ⟨rfl, hb1⟩
    go_wp2_with (go_at_call 65; refine (HS.out _).mono ?_; rintro e w2 ⟨rfl, hb2⟩)
    go_ret2
    exact ⟨rfl, by
    have := hb1.size
    first
    | exact hb1
    | exact hb1.alloc (by omega) _
    | exact (hb1.alloc (by omega) _).trans (hb2.mono (by simp; omega))
    | exact ((hb1.alloc (by omega) _).trans (hb2.mono (by simp; omega))).trans (hb3.mono (by have := hb2.size; simp at this; omega))⟩
theorem any_DiffEven : AnyDiffEven := by
  intro n s W h1 h2 hs
  have HO := Lib.hid (of1_yes n s W (by omega) h2 hs)
  have HS := Lib.hid (fun W => evenWays_any n s W (by omega) h2 hs)
  rw [evY_evZ n s h1, evQ_even n s h1] at HS
  clear hs
  go_enter Try.func31, Try.ntmps31
  go_wp2_with fail
  refine HO.out.mono ?_
  rintro e w1 ⟨rfl, hb1⟩
  go_wp2_with (go_at_call 65; refine (HS.out _).mono ?_; rintro e w2 ⟨rfl, hb2⟩)
  go_ret2
  exact ⟨rfl, by
    have := hb1.size
    first
    | exact hb1
    | exact hb1.alloc (by omega) _
    | exact (hb1.alloc (by omega) _).trans (hb2.mono (by simp; omega))
    | exact ((hb1.alloc (by omega) _).trans (hb2.mono (by simp; omega))).trans (hb3.mono (by have := hb2.size; simp at this; omega))⟩
end Go.Proofs.Ytaklmepioeoohaa
