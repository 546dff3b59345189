/- Rounds: what promises ask of the first one. -/
import Derived.Test.YtnlalccnhpblkaaRndJ
import Derived.Test.YtnlalccnhpblkaaStepQ
import Derived.Test.YtnlalccnhpblkaaWalkH
namespace Go.Proofs.Ytnlalccnhpblkaa
open Go.RowKit
set_option linter.unusedVariables false
theorem getD_left (xs ys : List Int) (i : Nat) (h : i < xs.length) : (xs ++ ys).getD i 0 = xs.getD i 0 := by
  rw [List.getD_eq_getElem?_getD, List.getD_eq_getElem?_getD, List.getElem?_append_left h]
theorem getD_new (xs : List Int) (v : Int) : (xs ++ [v]).getD xs.length 0 = v := by
  rw [List.getD_eq_getElem?_getD, List.getElem?_append_right (Nat.le_refl _)]
  simp
/-- A beginning of a round. -/
structure Path (n s : Nat) (xs : List Int) (a met : Nat) : Prop where
  pos : 1 ≤ xs.length
  zero : xs.getD 0 0 = 0
  lo : ∀ i, i < xs.length → 0 ≤ xs.getD i 0
  hi : ∀ i, i < xs.length → xs.getD i 0 < (n : Int)
  arc : ∀ i, i + 1 < xs.length → s.testBit (rest n (xs.getD (i + 1) 0 - xs.getD i 0)) = true
  last : xs.getD (xs.length - 1) 0 = (a : Int)
  met : ∀ v : Nat, met.testBit v = true → ∃ i, i < xs.length ∧ xs.getD i 0 = (v : Int)
theorem path_one (n s : Nat) (h1 : 1 ≤ n) : Path n s [0] 0 1 :=
  ⟨by simp, rfl, fun i hi => by simp at hi; subst hi; simp, fun i hi => by simp at hi; subst hi; simp; omega, fun i hi => by simp at hi, rfl, fun v hv => by
    refine ⟨0, by simp, ?_⟩
    by_cases e : v = 0
    · subst e; rfl
    · rw [Nat.testBit_lt_two_pow (Nat.one_lt_two_pow e)] at hv; cases hv⟩
theorem path_on {n s a met v : Nat} {xs : List Int} (h : Path n s xs a met) (hv : v < n) (ha : s.testBit (rest n ((v : Int) - (a : Int))) = true) : Path n s (xs ++ [(v : Int)]) v (met ||| 2 ^ v) := by
  have hlen : (xs ++ [(v : Int)]).length = xs.length + 1 := by simp
  have hp := h.pos
  have key : ∀ i, i < xs.length + 1 → (i < xs.length ∧ (xs ++ [(v : Int)]).getD i 0 = xs.getD i 0) ∨ (i = xs.length ∧ (xs ++ [(v : Int)]).getD i 0 = (v : Int)) := fun i hi => by
    by_cases e : i = xs.length
    · subst e; exact .inr ⟨rfl, getD_new xs v⟩
    · exact .inl ⟨by omega, getD_left xs _ i (by omega)⟩
  refine ⟨by rw [hlen]; omega, ?_, fun i hi => ?_, fun i hi => ?_, fun i hi => ?_, ?_, fun u hu => ?_⟩
  · rw [getD_left xs _ 0 (by omega)]; exact h.zero
  · rw [hlen] at hi
    rcases key i hi with ⟨h1, h2⟩ | ⟨h1, h2⟩
    · rw [h2]; exact h.lo i h1
    · rw [h2]; omega
  · rw [hlen] at hi
    rcases key i hi with ⟨h1, h2⟩ | ⟨h1, h2⟩
    · rw [h2]; exact h.hi i h1
    · rw [h2]; omega
  · rw [hlen] at hi
    rcases key (i + 1) (by omega) with ⟨h1, h2⟩ | ⟨h1, h2⟩
    · rw [h2, getD_left xs _ i (by omega)]; exact h.arc i h1
    · rw [h2, getD_left xs _ i (by omega), show i = xs.length - 1 by omega, h.last]
      exact ha
  · rw [hlen]
    exact getD_new xs v
  · rw [Nat.testBit_or, Bool.or_eq_true, Nat.testBit_two_pow] at hu
    rcases hu with hu | hu
    · obtain ⟨i, hi, e⟩ := h.met u hu
      exact ⟨i, by rw [hlen]; omega, by rw [getD_left xs _ i hi]; exact e⟩
    · have := of_decide_eq_true hu
      subst this
      exact ⟨xs.length, by rw [hlen]; omega, getD_new xs v⟩
theorem free_none (n met v : Nat) (h : freeN n met = 0) (hv : v < n) : met.testBit v = true := by
  cases hb : met.testBit v
  · have := free_less n met v hv hb
    omega
  · rfl
theorem fst_some (f : Nat → Option (List Int)) (j : Nat) (l : List Int) (h : fstTo f j = some l) : ∃ v, v < j ∧ f v = some l := by
  induction j with
  | zero => cases h
  | succ j ih =>
    cases hf : fstTo f j with
    | none =>
      rw [fst_new f j hf] at h
      exact ⟨j, by omega, h⟩
    | some l' =>
      rw [fst_here f j (j + 1) (by omega) l' hf] at h
      injection h with h
      subst h
      obtain ⟨v, hv, e⟩ := ih hf
      exact ⟨v, by omega, e⟩
theorem fir_round (n s m a met : Nat) (xs l : List Int) (h2 : 2 ≤ n) (hp : Path n s xs a met) (hl : xs.length + m = n) (hfr : freeN n met = m) (hf : firN n s m a met = some l) : IsRnd n s (xs ++ l) := by
  induction m generalizing a met xs l with
  | zero =>
    have hf' : (if s.testBit (rest n (0 - (a : Int))) then some [] else none) = some l := hf
    cases hb : s.testBit (rest n (0 - (a : Int)))
    · rw [hb] at hf'; cases hf'
    · rw [hb] at hf'
      have e : [] = l := by injection hf'
      subst e
      rw [List.append_nil]
      have hlen : xs.length = n := by omega
      refine ⟨hlen, h2, hp.zero, fun i hi => hp.lo i (by omega), fun i hi => hp.hi i (by omega), fun i hi => ?_, fun v hv => ?_⟩
      · by_cases e : i + 1 = n
        · rw [e, Nat.mod_self, hp.zero, show i = xs.length - 1 by omega, hp.last]
          exact hb
        · rw [Nat.mod_eq_of_lt (by omega)]
          exact hp.arc i (by omega)
      · obtain ⟨i, hi, e⟩ := hp.met v (free_none n met v hfr hv)
        exact ⟨i, by omega, e⟩
  | succ m ih =>
    rw [fir_succ] at hf
    obtain ⟨v, hv, e⟩ := fst_some _ _ _ hf
    unfold bfN at e
    cases hmay : mayN n s a met v
    · rw [hmay] at e; cases e
    · rw [hmay, if_pos rfl] at e
      cases hf2 : firN n s m v (met ||| 2 ^ v) with
      | none => rw [hf2] at e; cases e
      | some l' =>
        rw [hf2] at e
        have e2 : (v : Int) :: l' = l := by injection e
        subst e2
        unfold mayN at hmay
        rw [Bool.and_eq_true, Bool.and_eq_true] at hmay
        obtain ⟨⟨_, hm1⟩, hm2⟩ := hmay
        have hm0 : met.testBit v = false := by simpa using hm1
        have := ih v (met ||| 2 ^ v) (xs ++ [(v : Int)]) l' (path_on hp hv hm2) (by simp; omega) (by have := free_less n met v hv hm0; omega) hf2
        rw [List.append_assoc] at this
        exact this
theorem first_round (n s : Nat) (h2 : 2 ≤ n) (h : 0 < manyN n s) : IsRnd n s (firstR n s) := by
  unfold firstR
  cases hf : firN n s (n - 1) 0 1 with
  | none =>
    have := (fir_none n s (n - 1) 0 1).1 hf
    unfold manyN at h
    omega
  | some l => exact fir_round n s (n - 1) 0 1 [0] l h2 (path_one n s (by omega)) (by simp; omega) (free_one n (by omega)) hf
theorem first_none (n s : Nat) (h : manyN n s = 0) : firstR n s = [] := by
  unfold firstR
  rw [(fir_none n s (n - 1) 0 1).2 h]
  rfl
/-- A round is one by more steps. -/
theorem rnd_more {n s t : Nat} {xs : List Int} (h : IsRnd n s xs) (hst : ∀ i, s.testBit i = true → t.testBit i = true) : IsRnd n t xs :=
  ⟨h.len, h.two, h.zero, h.lo, h.hi, fun i hi => hst _ (h.arc i hi), h.all⟩
theorem rnd_both {n s : Nat} {xs : List Int} (h : IsRnd n s xs) (h1 : 1 ≤ n) (hs : s < 2 ^ n) : IsRnd n (bothN n s) xs :=
  rnd_more h fun i hi => by
    have hin : i < n := by
      refine Decidable.byContradiction fun c => ?_
      rw [Nat.testBit_lt_two_pow (Nat.lt_of_lt_of_le hs (Nat.pow_le_pow_right (by omega) (by omega)))] at hi
      cases hi
    rw [both_bit n s i h1 hs hin, hi]
    rfl
theorem but_bit (n i : Nat) (h0 : i ≠ 0) (hi : i < n) : (butN n).testBit i = true := by
  unfold butN
  obtain ⟨j, rfl⟩ : ∃ j, i = j + 1 := ⟨i - 1, by omega⟩
  obtain ⟨m, rfl⟩ : ∃ m, n = m + 1 := ⟨n - 1, by omega⟩
  have hp := Nat.two_pow_pos m
  rw [Nat.testBit_succ, show (2 ^ (m + 1) - 2) / 2 = 2 ^ m - 1 by rw [Nat.pow_succ]; omega, Nat.testBit_two_pow_sub_one]
  exact decide_eq_true (by omega)
theorem rnd_but {n s : Nat} {xs : List Int} (h : IsRnd n s xs) (hs : s < 2 ^ n) (h0 : s.testBit 0 = false) : IsRnd n (butN n) xs :=
  rnd_more h fun i hi => by
    refine but_bit n i (fun e => by subst e; rw [h0] at hi; cases hi) ?_
    refine Decidable.byContradiction fun c => ?_
    rw [Nat.testBit_lt_two_pow (Nat.lt_of_lt_of_le hs (Nat.pow_le_pow_right (by omega) (by omega)))] at hi
    cases hi
/-- A round goes through all places: one part. -/
theorem rnd_parts {n s : Nat} {xs : List Int} (h : IsRnd n s xs) (h12 : n ≤ 12) (hs : s < 2 ^ n) : partsN n s = 1 := by
  have h2 := h.two
  have key : ∀ i, i < n → (partsN n s : Int) ∣ xs.getD i 0 := by
    intro i
    induction i with
    | zero => intro _; rw [h.zero]; exact Int.dvd_zero _
    | succ i ih =>
      intro hi
      have ha := h.arc i (by omega)
      rw [Nat.mod_eq_of_lt hi] at ha
      have hr := rest_lt n (xs.getD (i + 1) 0 - xs.getD i 0) (by omega)
      have hd := parts_dvd_step n s n _ hr ha
      have hn := parts_dvd_n n s n
      have e := rest_cast n (xs.getD (i + 1) 0 - xs.getD i 0) (by omega)
      have d1 : (partsN n s : Int) ∣ ((rest n (xs.getD (i + 1) 0 - xs.getD i 0) : Nat) : Int) := Int.natCast_dvd_natCast.2 hd
      have d2 : (partsN n s : Int) ∣ (n : Int) := Int.natCast_dvd_natCast.2 hn
      rw [e] at d1
      have d3 : (partsN n s : Int) ∣ xs.getD (i + 1) 0 - xs.getD i 0 := by
        have := Int.mul_ediv_add_emod (xs.getD (i + 1) 0 - xs.getD i 0) (n : Int)
        rw [← this]
        exact Int.dvd_add (Int.dvd_trans d2 (Int.dvd_mul_right _ _)) d1
      have := Int.dvd_add d3 (ih (by omega))
      rwa [Int.sub_add_cancel] at this
  obtain ⟨i, hi, e⟩ := h.all 1 (by omega)
  have := key i hi
  rw [e] at this
  exact Nat.dvd_one.1 (Int.natCast_dvd_natCast.1 this)
end Go.Proofs.Ytnlalccnhpblkaa
