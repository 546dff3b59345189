/- Differences, the program's side: maths. -/
import Derived.Test.YtaklmepioeoohaaDifC
import Derived.Test.YtaklmepioeoohaaDifQ
import Derived.Test.YtaklmepioeoohaaCountsV
import Derived.Test.YtaklmepioeoohaaGJ
namespace Go.Proofs.Ytaklmepioeoohaa
open Go.RowKit Go.Shelf
set_option linter.unusedVariables false
theorem tab_of_get (n : Nat) (f : Nat → Int) (xs : List Int) (hl : xs.length = n) (h : ∀ i, i < n → xs.getD i 0 = f i) : xs = tabI n f := by
  refine List.ext_getElem (by rw [hl, tabI_len]) fun i h1 h2 => ?_
  have a := h i (by omega)
  rw [List.getD_eq_getElem?_getD, List.getElem?_eq_getElem h1] at a
  simp only [tabI, List.getElem_map, List.getElem_range]
  exact a
theorem mod_hit (n v w i : Nat) (h1 : 1 ≤ n) (h2 : n ≤ 12) (hv : v < n) (hw : w < n) (hi : i < n) : (v + w) % n = i ↔ w = rest n ((i : Int) - (v : Int)) := by
  have e := rest_cast n ((i : Int) - (v : Int)) h1
  generalize rest n ((i : Int) - (v : Int)) = a at *
  have h : n = 1 ∨ n = 2 ∨ n = 3 ∨ n = 4 ∨ n = 5 ∨ n = 6 ∨ n = 7 ∨ n = 8 ∨ n = 9 ∨ n = 10 ∨ n = 11 ∨ n = 12 := by omega
  rcases h with rfl | rfl | rfl | rfl | rfl | rfl | rfl | rfl | rfl | rfl | rfl | rfl <;> omega
theorem neg_sub (n v i : Nat) (h1 : 1 ≤ n) (h2 : n ≤ 12) (hv : v < n) (hi : i < n) : neg n (rest n ((i : Int) - (v : Int))) = rest n ((v : Int) - (i : Int)) := by
  unfold neg
  rw [rest_neg n _ h1]
  exact congrArg (rest n) (by omega)
theorem cval_dif (n s i : Nat) (h1 : 1 ≤ n) (h2 : n ≤ 12) (hs : s < 2 ^ n) (hi : i < n) : cval n s (turnN n s (-1)) n i = difN n s i := by
  unfold cval difN
  rw [size_sum n _ h2 (Nat.lt_of_le_of_lt Nat.and_le_left hs)]
  refine sumTo_congr _ _ n fun v hv => ?_
  have hr := rest_lt n ((i : Int) - (v : Int)) h1
  rw [sum_at _ (rest n ((i : Int) - (v : Int))) n fun w hw hn => ?_, if_pos hr]
  · have e := (mod_hit n v _ i h1 h2 hv hr hi).2 rfl
    rw [e, turn_neg_bit n s _ h1 hs hr, neg_sub n v i h1 h2 hv hi, Nat.testBit_and, shift_mem n s (i : Int) h1 hs v hv, beq_self_eq_true]
    cases s.testBit v <;> cases s.testBit (rest n ((v : Int) - (i : Int))) <;> rfl
  · have : ((v + w) % n == i) = false := by
      rw [beq_eq_false_iff_ne]
      exact fun c => hn ((mod_hit n v w i h1 h2 hv hw hi).1 c)
    rw [this]
    cases (turnN n s (-1)).testBit w <;> rfl
theorem counts_dif (n s : Nat) (h1 : 1 ≤ n) (h2 : n ≤ 12) (hs : s < 2 ^ n) : countsN n s (turnN n s (-1)) n = difL n s :=
  tab_of_get n _ _ (countsN_len n s _ n) fun i hi => by rw [counts_val n s _ n i hi, cval_dif n s i h1 h2 hs hi]
/-- The differences but 0. -/
def difT (n s : Nat) : List Int := (difL n s).drop 1
theorem difT_len (n s : Nat) : (difT n s).length = n - 1 := by unfold difT; rw [List.length_drop, difL_len]
theorem difT_get (n s i : Nat) (hi : i < n - 1) : (difT n s).getD i 0 = ((difN n s (i + 1) : Nat) : Int) := by
  unfold difT
  rw [List.getD_eq_getElem?_getD, List.getElem?_drop, ← List.getD_eq_getElem?_getD, Nat.add_comm 1 i]
  exact difL_get n s (i + 1) (by omega)
/-- Whether something holds of all entries. -/
def eachB (p : Int → Bool) (xs : List Int) : Bool := xs.all p
theorem each_yes (p : Int → Bool) (xs : List Int) (h : ∀ i, i < xs.length → p (xs.getD i 0) = true) : eachB p xs = true := by
  refine List.all_eq_true.2 fun x hx => ?_
  obtain ⟨i, hi, e⟩ := List.getElem_of_mem hx
  have a := h i hi
  rw [List.getD_eq_getElem?_getD, List.getElem?_eq_getElem hi] at a
  rw [← e]; exact a
theorem each_no (p : Int → Bool) (xs : List Int) (i : Nat) (hi : i < xs.length) (h : p (xs.getD i 0) = false) : eachB p xs = false := by
  cases hc : eachB p xs
  · rfl
  · have a := List.all_eq_true.1 hc xs[i] (List.getElem_mem hi)
    rw [List.getD_eq_getElem?_getD, List.getElem?_eq_getElem hi] at h
    rw [show (some xs[i]).getD 0 = xs[i] from rfl] at h
    rw [h] at a; cases a
theorem each_at (p : Int → Bool) (xs : List Int) (h : eachB p xs = true) (i : Nat) (hi : i < xs.length) : p (xs.getD i 0) = true := by
  cases hc : p (xs.getD i 0)
  · rw [each_no p xs i hi hc] at h; cases h
  · rfl
/-- The program's way to tell that a set is even: all ways are those of 1. -/
def sameB (xs : List Int) : Bool := !Nat.beq xs.length 0 && eachB (fun x => x == xs.getD 0 0) xs
def evQ (n s : Nat) : Bool := Nat.ble 2 n && evenB n s
theorem int_beq (a b : Nat) : (((a : Nat) : Int) == ((b : Nat) : Int)) = Nat.beq a b := cast_beq a b
theorem same_even (n s : Nat) (h1 : 1 ≤ n) : sameB (difT n s) = evQ n s := by
  unfold sameB evQ
  rw [difT_len]
  by_cases h2 : 2 ≤ n
  · have e1 : Nat.beq (n - 1) 0 = false := by
      cases hc : Nat.beq (n - 1) 0
      · rfl
      · have := Nat.eq_of_beq_eq_true hc; omega
    rw [e1, Nat.ble_eq_true_of_le h2, Bool.not_false, Bool.true_and, Bool.true_and]
    have h0 : (difT n s).getD 0 0 = ((difN n s 1 : Nat) : Int) := difT_get n s 0 (by omega)
    rw [h0]
    cases he : evenB n s
    · cases hc : eachB (fun x => x == ((difN n s 1 : Nat) : Int)) (difT n s)
      · rfl
      · have : evenB n s = true := ev_of n s n fun v hv1 hv2 => by
          have a := each_at _ _ hc (v - 1) (by rw [difT_len]; omega)
          rw [difT_get n s (v - 1) (by omega), show v - 1 + 1 = v by omega] at a
          rw [int_beq] at a
          exact Nat.eq_of_beq_eq_true a
        rw [he] at this; cases this
    · refine each_yes _ _ fun i hi => ?_
      rw [difT_len] at hi
      rw [difT_get n s i hi, int_beq]
      by_cases hz : i = 0
      · subst hz; exact Nat.beq_refl _
      · rw [ev_at n s n he (i + 1) (by omega) (by omega)]; exact Nat.beq_refl _
  · have e1 : n - 1 = 0 := by omega
    have e2 : Nat.ble 2 n = false := by
      cases hc : Nat.ble 2 n
      · rfl
      · have := Nat.le_of_ble_eq_true hc; omega
    rw [e1, e2]; rfl
theorem evQ_even (n s : Nat) (h : 2 ≤ n) : evQ n s = evenB n s := by unfold evQ; rw [Nat.ble_eq_true_of_le h, Bool.true_and]
theorem evQ_one (s : Nat) : evQ 1 s = false := rfl
/-- What the program returns for a set. -/
def evY (n s : Nat) : Nat := if evQ n s then difN n s 1 else 0
theorem evY_evZ (n s : Nat) (h : 2 ≤ n) : evY n s = evZ n s := by unfold evY evZ; rw [evQ_even n s h]
theorem le_one (a : Nat) : decide (((a : Nat) : Int) ≤ 1) = Nat.ble a 1 := by
  cases h : Nat.ble a 1
  · refine decide_eq_false fun c => ?_
    rw [Nat.ble_eq_true_of_le (by omega)] at h; cases h
  · have := Nat.le_of_ble_eq_true h
    exact decide_eq_true (by omega)
theorem each_thin (n s : Nat) (h1 : 1 ≤ n) : eachB (fun x => decide (x ≤ 1)) (difT n s) = thinB n s := by
  cases ht : thinB n s
  · cases hc : eachB (fun x => decide (x ≤ 1)) (difT n s)
    · rfl
    · have : thinB n s = true := th_of n s n fun v hv1 hv2 => by
        have a := each_at _ _ hc (v - 1) (by rw [difT_len]; omega)
        rw [difT_get n s (v - 1) (by omega), show v - 1 + 1 = v by omega, le_one] at a
        exact Nat.le_of_ble_eq_true a
      rw [ht] at this; cases this
  · refine each_yes _ _ fun i hi => ?_
    rw [difT_len] at hi
    rw [difT_get n s i hi, le_one]
    exact Nat.ble_eq_true_of_le (th_at n s n ht (i + 1) (by omega) (by omega))
theorem thin_top (n : Nat) (h1 : 1 ≤ n) (h2 : n ≤ 12) : topN (thinB n) (2 ^ n) = thinM n := by
  refine top_eq _ _ _ (fun i hi ht => thin_most n i h1 h2 hi ht) (.inr ?_)
  obtain ⟨i, hi, _, ht, he, _⟩ := thinM_at n h1 h2
  exact ⟨i, hi, ht, he⟩
theorem gt_zero (a : Nat) : decide (((a : Nat) : Int) > 0) = Nat.blt 0 a := by
  cases h : Nat.blt 0 a
  · refine decide_eq_false fun c => ?_
    have hc : (0 : Int) < (a : Int) := c
    have := (blt_iff 0 a).2 (by omega)
    rw [h] at this; cases this
  · have := (blt_iff 0 a).1 h
    exact decide_eq_true (show (0 : Int) < (a : Int) by omega)
theorem each_whole (n s : Nat) (h1 : 1 ≤ n) (h2 : n ≤ 12) (hs : s < 2 ^ n) : (!Nat.beq s 0 && eachB (fun x => decide (x > 0)) (difT n s)) = wholeP n s := by
  have hz : s ≠ 0 ↔ 1 ≤ difN n s 0 := by
    rw [dif_zero n s h1 hs]
    constructor
    · exact fun h => size_pos s (Nat.lt_of_lt_of_le hs (Nat.pow_le_pow_right (by omega) (by omega))) h
    · intro h e; subst e
      rw [size_zero] at h; omega
  cases hw : wholeP n s
  · cases hc : (!Nat.beq s 0 && eachB (fun x => decide (x > 0)) (difT n s))
    · rfl
    · rw [Bool.and_eq_true] at hc
      have : wholeP n s = true := (whole_iff n s h1 h2 hs).2 fun d hd => by
        by_cases hd0 : d = 0
        · subst hd0
          refine hz.1 fun e => ?_
          subst e
          have := hc.1
          simp at this
        · have a := each_at _ _ hc.2 (d - 1) (by rw [difT_len]; omega)
          rw [difT_get n s (d - 1) (by omega), show d - 1 + 1 = d by omega, gt_zero] at a
          exact (blt_iff _ _).1 a
      rw [hw] at this; cases this
  · have ha := (whole_iff n s h1 h2 hs).1 hw
    have e1 : Nat.beq s 0 = false := by
      cases hc : Nat.beq s 0
      · rfl
      · exact absurd (Nat.eq_of_beq_eq_true hc) (hz.2 (ha 0 (by omega)))
    rw [e1, Bool.not_false, Bool.true_and]
    refine each_yes _ _ fun i hi => ?_
    rw [difT_len] at hi
    rw [difT_get n s i hi, gt_zero]
    exact (blt_iff _ _).2 (ha (i + 1) (by omega))
theorem whole_shift (n s : Nat) (k : Int) (h1 : 1 ≤ n) (h2 : n ≤ 12) (hs : s < 2 ^ n) (hw : wholeP n s = true) : wholeP n (shiftN n s k) = true :=
  (whole_iff n _ h1 h2 (shiftN_lt n s k)).2 fun d hd => by
    rw [dif_shift n s d k h1 h2 hs]
    exact (whole_iff n s h1 h2 hs).1 hw d hd
theorem whole_least (n s : Nat) (h1 : 1 ≤ n) (h2 : n ≤ 12) (hs : s < 2 ^ n) (hw : wholeP n s = true) : wholeM n ≤ sizeN s := by
  have hz : s ≠ 0 := fun e => by
    subst e
    have := (whole_iff n 0 h1 h2 hs).1 hw 0 (by omega)
    rw [dif_zero n 0 h1 hs, size_zero] at this
    omega
  obtain ⟨v, hv⟩ := some_bit s hz
  have hvn := lt_of_bits n s hs v hv
  rw [← size_shift n s (-(v : Int)) h1 h2 hs]
  refine low_lb _ _ _ _ (shiftN_lt n s _) ?_
  unfold oddWhole
  rw [whole_shift n s _ h1 h2 hs hw, Bool.and_true]
  have := shift_mem n s (-(v : Int)) h1 hs 0 (by omega)
  rw [show (((0 : Nat) : Int) - (-(v : Int))) = (0 : Int) - (-(v : Int)) from rfl, rest_self0 n v h1 hvn, hv] at this
  exact this
def fullWhole : Bool := (List.range 13).all fun n => Nat.beq n 0 || (wholeP n (2 ^ n - 1) && Nat.beq (sizeN (2 ^ n - 1)) n)
theorem full_whole : fullWhole = true := by decide +kernel
theorem full_size' (n : Nat) (h1 : 1 ≤ n) (h2 : n ≤ 12) : wholeP n (2 ^ n - 1) = true ∧ sizeN (2 ^ n - 1) = n := by
  have h := List.all_eq_true.1 full_whole n (List.mem_range.2 (by omega))
  rcases (Bool.or_eq_true _ _).mp h with c | c
  · have := Nat.eq_of_beq_eq_true c; omega
  · rw [Bool.and_eq_true] at c
    exact ⟨c.1, Nat.eq_of_beq_eq_true c.2⟩
theorem whole_low (n : Nat) (h1 : 1 ≤ n) (h2 : n ≤ 12) : lowN (wholeP n) 12 (2 ^ n) = wholeM n := by
  have hle : wholeM n ≤ n := low_le _ _ _
  have hp := Nat.two_pow_pos n
  refine low_eq _ _ _ _ (by omega) (fun i hi hw => whole_least n i h1 h2 hi hw) (.inr ?_)
  rcases low_at (oddWhole n) n (2 ^ n) with h | ⟨i, hi, hpi, he⟩
  · have e : wholeM n = n := h
    exact ⟨2 ^ n - 1, by omega, (full_size' n h1 h2).1, by rw [e]; exact (full_size' n h1 h2).2⟩
  · unfold oddWhole at hpi
    rw [Bool.and_eq_true] at hpi
    exact ⟨i, hi, hpi.2, he⟩
/-- Where a set of at most b places is let by, the least size doesn't turn on a greater start. -/
theorem low_start (p : Nat → Bool) (b c k i : Nat) (hb : b ≤ c) (hi : i < k) (hp : p i = true) (hs : sizeN i ≤ b) : lowN p c k = lowN p b k := by
  have h1 := low_lb p b k i hi hp
  refine low_eq _ _ _ _ (by omega) (fun j hj hpj => low_lb p b k j hj hpj) ?_
  rcases low_at p b k with h | h
  · by_cases e : b = c
    · exact .inl (by rw [h, e])
    · exact .inr ⟨i, hi, hp, by omega⟩
  · exact .inr h
/-- The shifts of a set have what is turned just where both have the same least shift. -/
theorem car_has (n s m : Nat) (h1 : 1 ≤ n) (hs : s < 2 ^ n) : (∃ k : Nat, k < n ∧ shiftN n s (k : Int) = turnN n s (m : Int)) ↔ leastN n (mapN n s (m : Int) 0 n) = leastN n s := by
  have e : turnN n s (m : Int) = mapN n s (m : Int) 0 n := turn_act n s (m : Int)
  rw [e]
  refine Iff.trans ?_ (least_iff n s (mapN n s (m : Int) 0 n) h1 hs (act_lt n s (m : Int) 0 h1)).symm
  constructor
  · rintro ⟨k, _, hk⟩
    exact ⟨(k : Int), by rw [act_one n s _ h1 hs]; exact hk.symm⟩
  · rintro ⟨k, hk⟩
    refine ⟨rest n k, rest_lt n k h1, ?_⟩
    rw [← sh_norm n s k h1 hs, ← act_one n s k h1 hs]
    exact hk.symm
/-- The shifts of a set. -/
def shL (n s : Nat) : List Int := tabI n fun k => ((shiftN n s (k : Int) : Nat) : Int)
theorem shL_len (n s : Nat) : (shL n s).length = n := tabI_len n _
theorem shL_get (n s k : Nat) (hk : k < n) : (shL n s).getD k 0 = ((shiftN n s (k : Int) : Nat) : Int) := tabI_get n _ k hk
/-- Whether the shifts have what is turned. -/
def carB (n s m : Nat) : Bool := decide (leastN n (mapN n s (m : Int) 0 n) = leastN n s)
theorem carB_yes (n s m k : Nat) (h1 : 1 ≤ n) (hs : s < 2 ^ n) (hk : k < n) (h : (shL n s).getD k 0 = ((turnN n s (m : Int) : Nat) : Int)) : carB n s m = true := by
  rw [shL_get n s k hk] at h
  exact decide_eq_true ((car_has n s m h1 hs).1 ⟨k, hk, Int.ofNat.inj h⟩)
theorem carB_no (n s m : Nat) (h1 : 1 ≤ n) (hs : s < 2 ^ n) (h : ∀ k, k < n → (shL n s).getD k 0 ≠ ((turnN n s (m : Int) : Nat) : Int)) : carB n s m = false :=
  decide_eq_false fun c => by
    obtain ⟨k, hk, e⟩ := (car_has n s m h1 hs).2 c
    exact h k hk (by rw [shL_get n s k hk, e])
theorem carS_yes (n s m x : Nat) (h : carB n s m = true) : carS n s m x = x ||| 2 ^ m := by unfold carS; rw [if_pos (of_decide_eq_true h)]
theorem carS_no (n s m x : Nat) (h : carB n s m = false) : carS n s m x = x := by unfold carS; rw [if_neg (of_decide_eq_false h)]
/-- What has come, told by its last one. -/
theorem comeP_in (p : Nat → Bool) (N j i : Nat) (hj : j ≤ N) (hi : i < j) (hp : p i = true) : ∃ h : i < N, (⟨i, h⟩ : Fin N) ∈ comeP p N j := by
  induction j with
  | zero => omega
  | succ j ih =>
    have hjN : j < N := by omega
    cases hb : p j
    · rw [comeP_no hb]
      by_cases e : i = j
      · subst e; rw [hp] at hb; cases hb
      · exact ih (by omega) (by omega)
    · rw [comeP_yes hjN hb]
      by_cases e : i = j
      · subst e; exact ⟨hjN, by simp⟩
      · obtain ⟨h, hm⟩ := ih (by omega) (by omega)
        exact ⟨h, by simp [hm]⟩
theorem find_hit (n k : Nat) (h1 : 2 ≤ n) (hk : 1 ≤ k) (pre : List (Fin (2 ^ n))) (x : Fin (2 ^ n)) (j : Nat) (hj : j < 2 ^ n) (hpj : evQ n j = true) (he : pre ++ [x] = comeP (evQ n) (2 ^ n) (j + 1)) (hs : sizeN x.val = k) (hn : ∀ y, y ∈ pre → sizeN y.val ≠ k) : findN n k = x.val ∧ findN n k ≠ 0 := by
  rw [comeP_yes hj hpj] at he
  obtain ⟨e1, e2⟩ := List.append_inj' he rfl
  have e2 : x = ⟨j, hj⟩ := by simpa using e2
  subst e2
  subst e1
  have hev : evkP n k j = true := (evk_iff n k j).2 ⟨hs, by rw [← evQ_even n j h1]; exact hpj⟩
  have hz : j ≠ 0 := fun e => by
    have hs' : sizeN j = k := hs
    rw [e, size_zero] at hs'
    omega
  have h0 : firstP (evkP n k) j = 0 := by
    by_cases hc : firstP (evkP n k) j = 0
    · exact hc
    · obtain ⟨a, b⟩ := firstP_is _ _ hc
      obtain ⟨a1, a2⟩ := (evk_iff n k _).1 a
      obtain ⟨h, hm⟩ := comeP_in (evQ n) (2 ^ n) j _ (by omega) b (by rw [evQ_even n _ h1]; exact a2)
      have h5 := hn _ hm
      exact (h5 a1).elim
  have e : findN n k = j := by
    unfold findN
    exact firstP_hit (evkP n k) j (2 ^ n) h0 hev hz hj
  rw [e]
  exact ⟨rfl, hz⟩
theorem find_miss (n k : Nat) (h1 : 2 ≤ n) (hn : ∀ y, y ∈ comeP (evQ n) (2 ^ n) (2 ^ n) → sizeN y.val ≠ k) : findN n k = 0 := by
  by_cases hc : findN n k = 0
  · exact hc
  · obtain ⟨a, b⟩ := firstP_is _ _ hc
    obtain ⟨a1, a2⟩ := (evk_iff n k _).1 a
    obtain ⟨h, hm⟩ := comeP_in (evQ n) (2 ^ n) (2 ^ n) _ (Nat.le_refl _) b (by rw [evQ_even n _ h1]; exact a2)
    have h5 := hn _ hm
    exact (h5 a1).elim
end Go.Proofs.Ytaklmepioeoohaa
