/- Orders: the first one of all lists that go on along arcs. -/
import Derived.Test.YtaklmepioeoohaaOrdB
import Derived.Test.YtaklmepioeoohaaPlyI
namespace Go.Proofs.Ytaklmepioeoohaa
set_option linter.unusedVariables false
theorem fst_step (f : Nat → Option (List Int)) (j : Nat) : fstTo f (j + 1) = (fstTo f j).or (f j) := by
  show (match fstTo f j with | some l => some l | none => f j) = _
  cases fstTo f j <;> rfl
theorem fst_congr (f g : Nat → Option (List Int)) (j : Nat) (h : ∀ v, v < j → f v = g v) : fstTo f j = fstTo g j := by
  induction j with
  | zero => rfl
  | succ j ih => rw [fst_step, fst_step, ih (fun v hv => h v (by omega)), h j (by omega)]
theorem fst_map (f : Nat → Option (List Int)) (c : List Int → List Int) (j : Nat) : (fstTo f j).map c = fstTo (fun v => (f v).map c) j := by
  induction j with
  | zero => rfl
  | succ j ih =>
    rw [fst_step, fst_step, ← ih]
    cases fstTo f j <;> rfl
theorem fst_found (f : Nat → Option (List Int)) (j : Nat) (l : List Int) (h : fstTo f j = some l) : ∃ v, v < j ∧ f v = some l := by
  induction j with
  | zero => cases h
  | succ j ih =>
    rw [fst_step] at h
    cases hf : fstTo f j with
    | none => rw [hf] at h; exact ⟨j, by omega, h⟩
    | some l2 =>
      rw [hf] at h
      obtain ⟨v, a, b⟩ := ih (hf.trans h)
      exact ⟨v, by omega, b⟩
theorem head_come {r : Nat} (t : Nat) (F : Fin r → List (List Int)) (f : Nat → Option (List Int)) (hf : ∀ v : Fin r, f v.val = if t.testBit v.val then (F v).head? else none) (k : Nat) (hk : k ≤ r) :
    ((comeTo r t k).flatMap F).head? = fstTo f k := by
  induction k with
  | zero => rfl
  | succ k ih =>
    have hlt : k < r := by omega
    have hfk := hf ⟨k, hlt⟩
    rw [fst_step, ← ih (by omega)]
    cases hb : t.testBit k
    · rw [comeTo_no hb]
      have e : f k = none := by rw [hfk]; simp [hb]
      rw [e]
      cases ((comeTo r t k).flatMap F).head? <;> rfl
    · rw [comeTo_yes hlt hb, List.flatMap_append, List.head?_append, List.flatMap_singleton]
      have e : f k = (F ⟨k, hlt⟩).head? := by rw [hfk]; simp [hb]
      rw [e]
theorem beat_shift (n s u v : Nat) (h1 : 1 ≤ n) (hs : s < 2 ^ n) (hu : u < n) (hv : v < n) : (shiftN n s (u : Int)).testBit v = beatB n s u v := by
  unfold beatB
  have hr := rest_lt n ((v : Int) - (u : Int)) h1
  have e : rest n (((rest n ((v : Int) - (u : Int)) : Nat) : Int) + (u : Int)) = v := by
    have a := rest_cast n (((rest n ((v : Int) - (u : Int)) : Nat) : Int) + (u : Int)) h1
    have b := rest_cast n ((v : Int) - (u : Int)) h1
    have c : (((rest n ((v : Int) - (u : Int)) : Nat) : Int) + (u : Int)) % (n : Int) = (v : Int) := by
      rw [b, Int.emod_add_emod, show (v : Int) - (u : Int) + (u : Int) = (v : Int) by omega]
      exact Int.emod_eq_of_lt (by omega) (by omega)
    omega
  cases hb : s.testBit (rest n ((v : Int) - (u : Int)))
  · cases hc : (shiftN n s (u : Int)).testBit v
    · rfl
    · obtain ⟨w, hw, hsw, hrw⟩ := (shiftN_bit n s u h1 hs v).1 hc
      have e2 : rest n ((v : Int) - (u : Int)) = w := by
        have a := rest_cast n ((v : Int) - (u : Int)) h1
        have b := rest_cast n ((w : Int) + (u : Int)) h1
        rw [hrw] at b
        have c : ((v : Int) - (u : Int)) % (n : Int) = (w : Int) := by
          rw [b, Int.emod_sub_emod, show (w : Int) + (u : Int) - (u : Int) = (w : Int) by omega]
          exact Int.emod_eq_of_lt (by omega) (by omega)
        omega
      rw [e2, hsw] at hb
      cases hb
  · exact (shiftN_bit n s u h1 hs v).2 ⟨_, hr, hb, e⟩
theorem allO_head (n s : Nat) (h1 : 1 ≤ n) (hs : s < 2 ^ n) (m : Nat) (xs : List Int) (u met : Nat) (hu : u < n) : (allO n s m xs u met).head? = (ordN n s m (some u) met).map (fun l => xs ++ l) := by
  induction m generalizing xs u met with
  | zero => simp [allO, ordN]
  | succ m ih =>
    have e : ordN n s (m + 1) (some u) met = fstTo (fun v => if mayO n s (some u) met v then (ordN n s m (some v) (met ||| 2 ^ v)).map (fun l => (v : Int) :: l) else none) n := rfl
    rw [e, fst_map]
    refine head_come _ _ _ (fun v => ?_) n (Nat.le_refl n)
    have hv := v.isLt
    have hm : (lessN (shiftN n s (u : Int)) met).testBit v.val = mayO n s (some u) met v.val := by
      rw [lessN_bit, beat_shift n s u v.val h1 hs hu hv, Bool.and_comm]
      rfl
    rw [hm]
    cases mayO n s (some u) met v.val
    · rfl
    · show ((ordN n s m (some v.val) (met ||| 2 ^ v.val)).map (fun l => (v.val : Int) :: l)).map (fun l => xs ++ l) = (allO n s m (xs ++ [((v.val : Nat) : Int)]) v.val (met ||| 2 ^ v.val)).head?
      rw [ih _ _ _ hv, Option.map_map]
      congr 1
      funext l
      simp
theorem ord_first (n s : Nat) (h2 : n ≤ 9) (hs : s < 2 ^ n) (hp : playB n s = true) : (allO n s (n - 1) [0] 0 1).head? = some (ordL n s) := by
  obtain ⟨ho, _, ha, _, _⟩ := ord_says n s h2 hs hp
  have h3 := ((play_iff n s).1 hp).1
  obtain ⟨m, rfl⟩ : ∃ m, n = m + 1 := ⟨n - 1, by omega⟩
  have e : ordN (m + 1) s (m + 1) none 0 = fstTo (fun v => if mayO (m + 1) s none 0 v then (ordN (m + 1) s m (some v) (0 ||| 2 ^ v)).map (fun l => (v : Int) :: l) else none) (m + 1) := rfl
  rw [e] at ho
  obtain ⟨v, hv, hf⟩ := fst_found _ _ _ ho
  have hm : mayO (m + 1) s none 0 v = true := by simp [mayO]
  rw [if_pos hm] at hf
  cases hx : ordN (m + 1) s m (some v) (0 ||| 2 ^ v) with
  | none => rw [hx] at hf; cases hf
  | some l =>
    rw [hx] at hf
    have e2 : (v : Int) :: l = ordL (m + 1) s := by simpa using hf
    have hv0 : v = 0 := by
      rw [← e2] at ha
      have : ((v : Int)).toNat = 0 := ha
      omega
    subst hv0
    rw [Nat.add_sub_cancel, allO_head (m + 1) s (by omega) hs m [0] 0 1 (by omega)]
    have hx' : ordN (m + 1) s m (some 0) 1 = some l := hx
    rw [hx', ← e2]
    rfl
end Go.Proofs.Ytaklmepioeoohaa
