/- Terms: made tidy (the maths of chapter 11: P95). -/
import Derived.Test.YtecjhkpldcmlaaaDoorTrmT
namespace Go.Proofs.YtecjhkpldcmlaaaDoor
set_option linter.unusedVariables false
/-- The sign '!' in front of a tidy term. -/
def front33 : Tm → Tm
  | .one c b => if c = 33 then b else .one 33 (.one c b)
  | a => .one 33 a
/-- The sign '-' in front of a tidy term. -/
def front45 (n : Nat) : Tm → Tm
  | .leaf c => .leaf (turnB n c)
  | .one c b => if c = 45 then b else front33 (front45 n b)
  | a => .one 45 a
def zeroT (c : UInt8) : Tm := if c = 46 then .leaf 48 else .leaf 101
def midT (c : UInt8) (a b : Tm) : Tm :=
  if c ≠ 43 ∧ (a = .leaf 101 ∨ b = .leaf 101) then .leaf 101
  else if c ≠ 38 ∧ a = zeroT c then b
  else if c ≠ 38 ∧ b = zeroT c then a
  else if c ≠ 46 ∧ a = b then a
  else .two c a b
def tidyT (n : Nat) : Tm → Tm
  | .leaf c => .leaf c
  | .one c a => if c = 33 then front33 (tidyT n a) else front45 n (tidyT n a)
  | .two c a b => midT c (tidyT n a) (tidyT n b)
/-- What a tidy term looks like. -/
def nfT : Tm → Prop
  | .leaf c => True
  | .one c a => nfT a ∧ ((c = 33 ∧ front33 a = .one 33 a) ∨ (c = 45 ∧ ∃ m x y, a = .two m x y))
  | .two c a b => nfT a ∧ nfT b ∧ midT c a b = .two c a b
theorem nf_front33 (a : Tm) (h : nfT a) : nfT (front33 a) := by
  cases a with
  | leaf c => exact ⟨trivial, .inl ⟨rfl, rfl⟩⟩
  | two c x y => exact ⟨h, .inl ⟨rfl, rfl⟩⟩
  | one c b =>
    show nfT (if c = 33 then b else .one 33 (.one c b))
    split
    · exact h.1
    · rename_i hc
      exact ⟨h, .inl ⟨rfl, by show (if c = 33 then b else Tm.one 33 (.one c b)) = _; rw [if_neg hc]⟩⟩
theorem nf_front45 (n : Nat) (a : Tm) (h : nfT a) : nfT (front45 n a) := by
  induction a with
  | leaf c => exact trivial
  | two c x y _ _ => exact ⟨h, .inr ⟨rfl, c, x, y, rfl⟩⟩
  | one c b ih =>
    show nfT (if c = 45 then b else front33 (front45 n b))
    split
    · exact h.1
    · exact nf_front33 _ (ih h.1)
theorem nf_mid (c : UInt8) (a b : Tm) (ha : nfT a) (hb : nfT b) : nfT (midT c a b) := by
  by_cases h1 : c ≠ 43 ∧ (a = .leaf 101 ∨ b = .leaf 101)
  · unfold midT; rw [if_pos h1]; exact trivial
  · by_cases h2 : c ≠ 38 ∧ a = zeroT c
    · unfold midT; rw [if_neg h1, if_pos h2]; exact hb
    · by_cases h3 : c ≠ 38 ∧ b = zeroT c
      · unfold midT; rw [if_neg h1, if_neg h2, if_pos h3]; exact ha
      · by_cases h4 : c ≠ 46 ∧ a = b
        · unfold midT; rw [if_neg h1, if_neg h2, if_neg h3, if_pos h4]; exact ha
        · have e : midT c a b = .two c a b := by unfold midT; rw [if_neg h1, if_neg h2, if_neg h3, if_neg h4]
          rw [e]
          exact ⟨ha, hb, e⟩
theorem nf_tidy (n : Nat) (t : Tm) : nfT (tidyT n t) := by
  induction t with
  | leaf c => exact trivial
  | one c a ih =>
    show nfT (if c = 33 then front33 (tidyT n a) else front45 n (tidyT n a))
    split
    · exact nf_front33 _ ih
    · exact nf_front45 n _ ih
  | two c a b iha ihb => exact nf_mid c _ _ iha ihb
theorem tidy_nf (n : Nat) (t : Tm) (h : nfT t) : tidyT n t = t := by
  induction t with
  | leaf c => rfl
  | one c a ih =>
    show (if c = 33 then front33 (tidyT n a) else front45 n (tidyT n a)) = _
    rw [ih h.1]
    rcases h.2 with ⟨rfl, e⟩ | ⟨rfl, m, x, y, rfl⟩
    · rw [if_pos rfl, e]
    · rfl
  | two c a b iha ihb =>
    show midT c (tidyT n a) (tidyT n b) = _
    rw [iha h.1, ihb h.2.1, h.2.2]
/-- Tidy terms stay as they are. -/
theorem tidy_tidy (n : Nat) (t : Tm) : tidyT n (tidyT n t) = tidyT n t := tidy_nf n _ (nf_tidy n t)
theorem len_front33 (a : Tm) : (showT (front33 a)).length ≤ (showT a).length + 1 := by
  cases a with
  | leaf c => exact Nat.le_refl _
  | two c x y => exact Nat.le_refl _
  | one c b =>
    show (showT (if c = 33 then b else .one 33 (.one c b))).length ≤ (c :: showT b).length + 1
    split
    · simp; omega
    · exact Nat.le_refl _
theorem len_front45 (n : Nat) (a : Tm) : (showT (front45 n a)).length ≤ (showT a).length + 1 := by
  induction a with
  | leaf c => show 1 ≤ 2; omega
  | two c x y _ _ => exact Nat.le_refl _
  | one c b ih =>
    show (showT (if c = 45 then b else front33 (front45 n b))).length ≤ (c :: showT b).length + 1
    split
    · simp; omega
    · have := len_front33 (front45 n b)
      rw [List.length_cons]; omega
theorem len_two (c : UInt8) (a b : Tm) : (showT (.two c a b)).length = (showT a).length + (showT b).length + 3 := by
  show ((40 : UInt8) :: (showT a ++ c :: (showT b ++ [41]))).length = _
  simp; omega
theorem len_mid (c : UInt8) (a b : Tm) : (showT (midT c a b)).length ≤ (showT a).length + (showT b).length + 3 := by
  unfold midT
  split
  · show 1 ≤ _; omega
  · split
    · omega
    · split
      · omega
      · split
        · omega
        · rw [len_two]; exact Nat.le_refl _
theorem len_tidy (n : Nat) (t : Tm) : (showT (tidyT n t)).length ≤ (showT t).length := by
  induction t with
  | leaf c => exact Nat.le_refl _
  | one c a ih =>
    show (showT (if c = 33 then front33 (tidyT n a) else front45 n (tidyT n a))).length ≤ (c :: showT a).length
    rw [List.length_cons]
    split
    · exact Nat.le_trans (len_front33 _) (by omega)
    · exact Nat.le_trans (len_front45 n _) (by omega)
  | two c a b iha ihb =>
    rw [len_two]
    exact Nat.le_trans (len_mid c _ _) (by omega)
theorem ok_front33 (n : Nat) (a : Tm) (h : okT n a = true) : okT n (front33 a) = true := by
  cases a with
  | leaf c => show (isFront 33 && okT n (.leaf c)) = true; rw [h]; rfl
  | two c x y => show (isFront 33 && okT n (.two c x y)) = true; rw [h]; rfl
  | one c b =>
    have h' : (isFront c && okT n b) = true := h
    rw [Bool.and_eq_true] at h'
    show okT n (if c = 33 then b else .one 33 (.one c b)) = true
    split
    · exact h'.2
    · show (isFront 33 && okT n (.one c b)) = true; rw [h]; rfl
theorem ok_front45 (n : Nat) (a : Tm) (h1 : 1 ≤ n) (h2 : n ≤ 12) (h : okT n a = true) : okT n (front45 n a) = true := by
  induction a with
  | leaf c => exact ok_turnT n (.leaf c) h1 h2 h
  | two c x y _ _ => show (isFront 45 && okT n (.two c x y)) = true; rw [h]; rfl
  | one c b ih =>
    have h' : (isFront c && okT n b) = true := h
    rw [Bool.and_eq_true] at h'
    show okT n (if c = 45 then b else front33 (front45 n b)) = true
    split
    · exact h'.2
    · exact ok_front33 n _ (ih h'.2)
theorem ok_mid (n : Nat) (c : UInt8) (a b : Tm) (hc : isMid c = true) (ha : okT n a = true) (hb : okT n b = true) : okT n (midT c a b) = true := by
  unfold midT
  split
  · rfl
  · split
    · exact hb
    · split
      · exact ha
      · split
        · exact ha
        · show (isMid c && okT n a && okT n b) = true; rw [hc, ha, hb]; rfl
theorem ok_tidy (n : Nat) (t : Tm) (h1 : 1 ≤ n) (h2 : n ≤ 12) (h : okT n t = true) : okT n (tidyT n t) = true := by
  induction t with
  | leaf c => exact h
  | one c a ih =>
    have h' : (isFront c && okT n a) = true := h
    rw [Bool.and_eq_true] at h'
    show okT n (if c = 33 then front33 (tidyT n a) else front45 n (tidyT n a)) = true
    split
    · exact ok_front33 n _ (ih h'.2)
    · exact ok_front45 n _ h1 h2 (ih h'.2)
  | two c a b iha ihb =>
    have h' : (isMid c && okT n a && okT n b) = true := h
    rw [Bool.and_eq_true, Bool.and_eq_true] at h'
    exact ok_mid n c _ _ h'.1.1 (iha h'.1.2) (ihb h'.2)
theorem has_front33 (n : Nat) (a : Tm) (v : Nat) : hasT n (front33 a) v = !hasT n a v := by
  cases a with
  | leaf c => rfl
  | two c x y => rfl
  | one c b =>
    show hasT n (if c = 33 then b else .one 33 (.one c b)) v = !(if c = 33 then !hasT n b v else hasT n b (neg n v))
    by_cases e : c = 33
    · rw [if_pos e, if_pos e, Bool.not_not]
    · rw [if_neg e, if_neg e]
      show (!(if c = 33 then !hasT n b v else hasT n b (neg n v))) = _
      rw [if_neg e]
theorem has_front45 (n : Nat) (a : Tm) (h1 : 1 ≤ n) (h2 : n ≤ 12) (h : okT n a = true) : ∀ v, v < n → hasT n (front45 n a) v = hasT n a (neg n v) := by
  induction a with
  | leaf c => intro v hv; exact has_turn n (.leaf c) h1 h2 h v hv
  | two c x y _ _ => intro v hv; rfl
  | one c b ih =>
    have h' : (isFront c && okT n b) = true := h
    rw [Bool.and_eq_true] at h'
    intro v hv
    show hasT n (if c = 45 then b else front33 (front45 n b)) v = (if c = 33 then !hasT n b (neg n v) else hasT n b (neg n (neg n v)))
    by_cases e : c = 45
    · rw [if_pos e, if_neg (by rw [e]; decide), neg_neg' n v h1 hv]
    · have e3 : c = 33 := by
        have := h'.1
        unfold isFront at this
        rw [Bool.or_eq_true, beq_iff_eq, beq_iff_eq] at this
        exact this.resolve_right e
      rw [if_neg e, if_pos e3, has_front33, ih h'.2 v hv]
theorem has_mid (n : Nat) (c : UInt8) (a b : Tm) (h1 : 1 ≤ n) (hc : isMid c = true) (v : Nat) (hv : v < n) : hasT n (midT c a b) v = hasT n (.two c a b) v := by
  have e0 : ∀ w, hasT n (.leaf 101) w = false := fun w => rfl
  have e48 : ∀ w, hasT n (.leaf 48) w = decide (w = 0) := fun w => by
    show decide (placeB 48 = (w : Int)) = _
    rw [show placeB 48 = 0 from rfl, decide_eq_decide]; omega
  have e2 : hasT n (.two c a b) v = if c = 43 then hasT n a v || hasT n b v else if c = 38 then hasT n a v && hasT n b v else (List.range n).any fun w => hasT n a w && hasT n b (rest n ((v : Int) - (w : Int))) := rfl
  unfold isMid at hc
  rw [Bool.or_eq_true, Bool.or_eq_true, beq_iff_eq, beq_iff_eq, beq_iff_eq] at hc
  by_cases h1' : c ≠ 43 ∧ (a = .leaf 101 ∨ b = .leaf 101)
  · have e : midT c a b = .leaf 101 := by unfold midT; rw [if_pos h1']
    rw [e, e2, e0, if_neg h1'.1]
    split
    · rcases h1'.2 with rfl | rfl
      · rw [e0]; rfl
      · rw [e0, Bool.and_false]
    · symm
      rw [List.any_eq_false]
      intro w hw
      rcases h1'.2 with rfl | rfl
      · rw [e0]; simp
      · rw [e0, Bool.and_false]; simp
  · by_cases h2' : c ≠ 38 ∧ a = zeroT c
    · have e : midT c a b = b := by unfold midT; rw [if_neg h1', if_pos h2']
      rw [e, e2, h2'.2, if_neg h2'.1]
      unfold zeroT
      rcases hc with (rfl | rfl) | rfl
      · rw [if_pos rfl, if_neg (by decide), e0, Bool.false_or]
      · exact absurd rfl h2'.1
      · rw [if_neg (by decide), if_pos rfl, Bool.eq_iff_iff, List.any_eq_true]
        constructor
        · intro hb
          refine ⟨0, List.mem_range.2 h1, ?_⟩
          rw [e48, show ((v : Int) - ((0 : Nat) : Int)) = (v : Int) by omega, rest_self n v hv, hb]; rfl
        · rintro ⟨w, hw, hh⟩
          rw [e48, Bool.and_eq_true, decide_eq_true_eq] at hh
          obtain ⟨rfl, hb⟩ := hh
          rw [show ((v : Int) - ((0 : Nat) : Int)) = (v : Int) by omega, rest_self n v hv] at hb
          exact hb
    · by_cases h3 : c ≠ 38 ∧ b = zeroT c
      · have e : midT c a b = a := by unfold midT; rw [if_neg h1', if_neg h2', if_pos h3]
        rw [e, e2, h3.2, if_neg h3.1]
        unfold zeroT
        rcases hc with (rfl | rfl) | rfl
        · rw [if_pos rfl, if_neg (by decide), e0, Bool.or_false]
        · exact absurd rfl h3.1
        · rw [if_neg (by decide), if_pos rfl, Bool.eq_iff_iff, List.any_eq_true]
          constructor
          · intro ha
            refine ⟨v, List.mem_range.2 hv, ?_⟩
            rw [e48, ha, show ((v : Int) - (v : Int)) = ((0 : Nat) : Int) by omega, rest_self n 0 (by omega)]; rfl
          · rintro ⟨w, hw, hh⟩
            rw [e48, Bool.and_eq_true, decide_eq_true_eq] at hh
            have hw' := List.mem_range.1 hw
            have hz := rest_forth n v w h1 hv
            rw [hh.2, Nat.zero_add, Nat.mod_eq_of_lt hw'] at hz
            rw [← hz]; exact hh.1
      · by_cases h4 : c ≠ 46 ∧ a = b
        · have e : midT c a b = a := by unfold midT; rw [if_neg h1', if_neg h2', if_neg h3, if_pos h4]
          rw [e, e2, ← h4.2]
          rcases hc with (rfl | rfl) | rfl
          · rw [if_pos rfl, Bool.or_self]
          · rw [if_neg (by decide), if_pos rfl, Bool.and_self]
          · exact absurd rfl h4.1
        · unfold midT
          rw [if_neg h1', if_neg h2', if_neg h3, if_neg h4]
/-- A tidy term has the same places. -/
theorem has_tidy (n : Nat) (t : Tm) (h1 : 1 ≤ n) (h2 : n ≤ 12) (h : okT n t = true) : ∀ v, v < n → hasT n (tidyT n t) v = hasT n t v := by
  induction t with
  | leaf c => intro v hv; rfl
  | one c a ih =>
    have h' : (isFront c && okT n a) = true := h
    rw [Bool.and_eq_true] at h'
    intro v hv
    show hasT n (if c = 33 then front33 (tidyT n a) else front45 n (tidyT n a)) v = (if c = 33 then !hasT n a v else hasT n a (neg n v))
    by_cases e : c = 33
    · rw [if_pos e, if_pos e, has_front33, ih h'.2 v hv]
    · rw [if_neg e, if_neg e, has_front45 n _ h1 h2 (ok_tidy n a h1 h2 h'.2) v hv, ih h'.2 _ (neg_lt n v h1)]
  | two c a b iha ihb =>
    have h' : (isMid c && okT n a && okT n b) = true := h
    rw [Bool.and_eq_true, Bool.and_eq_true] at h'
    intro v hv
    show hasT n (midT c (tidyT n a) (tidyT n b)) v = _
    rw [has_mid n c _ _ h1 h'.1.1 v hv]
    show (if c = 43 then hasT n (tidyT n a) v || hasT n (tidyT n b) v else if c = 38 then hasT n (tidyT n a) v && hasT n (tidyT n b) v else (List.range n).any fun w => hasT n (tidyT n a) w && hasT n (tidyT n b) (rest n ((v : Int) - (w : Int)))) = (if c = 43 then hasT n a v || hasT n b v else if c = 38 then hasT n a v && hasT n b v else (List.range n).any fun w => hasT n a w && hasT n b (rest n ((v : Int) - (w : Int))))
    rw [iha h'.1.2 v hv, ihb h'.2 v hv]
    split
    · rfl
    · split
      · rfl
      · rw [Bool.eq_iff_iff, List.any_eq_true, List.any_eq_true]
        constructor
        · rintro ⟨w, hw, hh⟩
          refine ⟨w, hw, ?_⟩
          rw [← iha h'.1.2 w (List.mem_range.1 hw), ← ihb h'.2 _ (rest_lt n _ h1)]; exact hh
        · rintro ⟨w, hw, hh⟩
          refine ⟨w, hw, ?_⟩
          rw [iha h'.1.2 w (List.mem_range.1 hw), ihb h'.2 _ (rest_lt n _ h1)]; exact hh
/-- A tidy term tells the same set. -/
theorem set_tidy (n : Nat) (t : Tm) (h1 : 1 ≤ n) (h2 : n ≤ 12) (h : okT n t = true) : setT n (tidyT n t) = setT n t := by
  have hs := set_lt n t h1 h
  have ho := ok_tidy n t h1 h2 h
  have hq := set_lt n _ h1 ho
  refine Nat.eq_of_testBit_eq fun v => ?_
  by_cases hv : v < n
  · rw [← has_set n _ h1 ho v hv, ← has_set n t h1 h v hv, has_tidy n t h1 h2 h v hv]
  · have hp : 2 ^ n ≤ 2 ^ v := Nat.pow_le_pow_right (by omega) (by omega)
    rw [Nat.testBit_lt_two_pow (by omega), Nat.testBit_lt_two_pow (by omega)]
end Go.Proofs.YtecjhkpldcmlaaaDoor
