/- Terms: their sets, and which places they have (the maths of chapter 11: P91, P92, P93, P94). -/
import Derived.Test.YtecjhkpldcmlaaaDoorTrmM
import Derived.Test.YtecjhkpldcmlaaaDoorStepQ
namespace Go.Proofs.YtecjhkpldcmlaaaDoor
set_option linter.unusedVariables false
/-- The set of a term. -/
def setT (n : Nat) : Tm → Nat
  | .leaf c => if c = 101 then 0 else 2 ^ (placeB c).toNat
  | .one c a => if c = 33 then lessN (2 ^ n - 1) (setT n a) else turnN n (setT n a) (-1)
  | .two c a b => if c = 43 then setT n a ||| setT n b else if c = 38 then setT n a &&& setT n b else sumN n (setT n a) (setT n b)
/-- Whether a term has a place. -/
def hasT (n : Nat) : Tm → Nat → Bool
  | .leaf c, v => if c = 101 then false else decide (placeB c = (v : Int))
  | .one c a, v => if c = 33 then !hasT n a v else hasT n a (neg n v)
  | .two c a b, v => if c = 43 then hasT n a v || hasT n b v else if c = 38 then hasT n a v && hasT n b v else (List.range n).any fun w => hasT n a w && hasT n b (rest n ((v : Int) - (w : Int)))
theorem less_lt (n a b : Nat) (ha : a < 2 ^ n) : lessN a b < 2 ^ n := by
  refine Nat.lt_pow_two_of_testBit _ fun i hi => ?_
  rw [lessN_bit, Nat.testBit_lt_two_pow (Nat.lt_of_lt_of_le ha (Nat.pow_le_pow_right (by omega) hi))]
  rfl
theorem less_full (n a i : Nat) (hi : i < n) : (lessN (2 ^ n - 1) a).testBit i = !a.testBit i := by
  rw [lessN_bit, Nat.testBit_two_pow_sub_one, decide_eq_true hi, Bool.true_and]
theorem less_is (n a : Nat) (ha : a < 2 ^ n) : lessN (2 ^ n - 1) a = 2 ^ n - 1 - a := by
  refine Nat.eq_of_testBit_eq fun i => ?_
  by_cases hi : i < n
  · rw [less_full n a i hi, compl_bit n a i ha hi]
  · have h1 := less_lt n (2 ^ n - 1) a (by have := Nat.two_pow_pos n; omega)
    have hp : 2 ^ n ≤ 2 ^ i := Nat.pow_le_pow_right (by omega) (by omega)
    rw [Nat.testBit_lt_two_pow (by omega), Nat.testBit_lt_two_pow (by omega)]
theorem set_lt (n : Nat) (t : Tm) (h1 : 1 ≤ n) (h : okT n t = true) : setT n t < 2 ^ n := by
  induction t with
  | leaf c =>
    show (if c = 101 then 0 else 2 ^ (placeB c).toNat) < 2 ^ n
    by_cases e : c = 101
    · rw [if_pos e]; exact Nat.two_pow_pos n
    · rw [if_neg e]
      have h' : isLeaf n c = true := h
      unfold isLeaf at h'
      rw [Bool.or_eq_true, Bool.and_eq_true, beq_iff_eq, decide_eq_true_eq, decide_eq_true_eq] at h'
      have := h'.resolve_left e
      exact Nat.pow_lt_pow_right (by omega) (by omega)
  | one c a ih =>
    have h' : (isFront c && okT n a) = true := h
    rw [Bool.and_eq_true] at h'
    show (if c = 33 then lessN (2 ^ n - 1) (setT n a) else turnN n (setT n a) (-1)) < 2 ^ n
    split
    · exact less_lt n _ _ (by have := Nat.two_pow_pos n; omega)
    · exact turnN_lt n _ _ h1
  | two c a b iha ihb =>
    have h' : (isMid c && okT n a && okT n b) = true := h
    rw [Bool.and_eq_true, Bool.and_eq_true] at h'
    show (if c = 43 then setT n a ||| setT n b else if c = 38 then setT n a &&& setT n b else sumN n (setT n a) (setT n b)) < 2 ^ n
    split
    · exact Nat.or_lt_two_pow (iha h'.1.2) (ihb h'.2)
    · split
      · exact Nat.and_lt_two_pow _ (ihb h'.2)
      · exact sumN_lt n _ _
theorem rest_back (n v w : Nat) (h1 : 1 ≤ n) (hv : v < n) : rest n ((((v + w) % n : Nat) : Int) - (w : Int)) = v := by
  unfold rest
  have : ((((v + w) % n : Nat) : Int) - (w : Int)) % (n : Int) = (v : Int) := by
    rw [Int.natCast_emod, Int.natCast_add, Int.emod_sub_emod, Int.add_sub_cancel, Int.emod_eq_of_lt (by omega) (by omega)]
  rw [this]; rfl
theorem rest_forth (n i w : Nat) (h1 : 1 ≤ n) (hi : i < n) : (rest n ((i : Int) - (w : Int)) + w) % n = i := by
  have hr : ((rest n ((i : Int) - (w : Int)) : Nat) : Int) = ((i : Int) - (w : Int)) % (n : Int) := by
    unfold rest
    exact Int.toNat_of_nonneg (Int.emod_nonneg _ (by omega))
  have : (((rest n ((i : Int) - (w : Int)) + w) % n : Nat) : Int) = (i : Int) := by
    rw [Int.natCast_emod, Int.natCast_add, hr, Int.emod_add_emod, Int.sub_add_cancel, Int.emod_eq_of_lt (by omega) (by omega)]
  omega
theorem sum_has (n a b v : Nat) (h1 : 1 ≤ n) (ha : a < 2 ^ n) (hv : v < n) : (sumN n a b).testBit v = (List.range n).any fun w => a.testBit w && b.testBit (rest n ((v : Int) - (w : Int))) := by
  rw [Bool.eq_iff_iff, sumN_bit n a b v h1 ha, List.any_eq_true]
  constructor
  · rintro ⟨x, w, hx, hb, hw, hab, e⟩
    refine ⟨w, List.mem_range.2 hw, ?_⟩
    rw [← e, rest_back n x w h1 hx, hab, hb]; rfl
  · rintro ⟨w, hw, h⟩
    rw [Bool.and_eq_true] at h
    exact ⟨rest n ((v : Int) - (w : Int)), w, rest_lt n _ h1, h.2, List.mem_range.1 hw, h.1, rest_forth n v w h1 hv⟩
/-- A term has just the places of its set. -/
theorem has_set (n : Nat) (t : Tm) (h1 : 1 ≤ n) (h : okT n t = true) : ∀ v, v < n → hasT n t v = (setT n t).testBit v := by
  induction t with
  | leaf c =>
    intro v hv
    show (if c = 101 then false else decide (placeB c = (v : Int))) = (if c = 101 then 0 else 2 ^ (placeB c).toNat).testBit v
    by_cases e : c = 101
    · rw [if_pos e, if_pos e, Nat.zero_testBit]
    · rw [if_neg e, if_neg e, Nat.testBit_two_pow]
      have h' : isLeaf n c = true := h
      unfold isLeaf at h'
      rw [Bool.or_eq_true, Bool.and_eq_true, beq_iff_eq, decide_eq_true_eq, decide_eq_true_eq] at h'
      have := h'.resolve_left e
      rw [decide_eq_decide]
      omega
  | one c a ih =>
    have h' : (isFront c && okT n a) = true := h
    rw [Bool.and_eq_true] at h'
    intro v hv
    show (if c = 33 then !hasT n a v else hasT n a (neg n v)) = (if c = 33 then lessN (2 ^ n - 1) (setT n a) else turnN n (setT n a) (-1)).testBit v
    by_cases e : c = 33
    · rw [if_pos e, if_pos e, less_full n _ v hv, ih h'.2 v hv]
    · rw [if_neg e, if_neg e, turn_neg_bit n _ v h1 (set_lt n a h1 h'.2) hv, ih h'.2 _ (neg_lt n v h1)]
  | two c a b iha ihb =>
    have h' : (isMid c && okT n a && okT n b) = true := h
    rw [Bool.and_eq_true, Bool.and_eq_true] at h'
    intro v hv
    show (if c = 43 then hasT n a v || hasT n b v else if c = 38 then hasT n a v && hasT n b v else (List.range n).any fun w => hasT n a w && hasT n b (rest n ((v : Int) - (w : Int)))) = (if c = 43 then setT n a ||| setT n b else if c = 38 then setT n a &&& setT n b else sumN n (setT n a) (setT n b)).testBit v
    by_cases e : c = 43
    · rw [if_pos e, if_pos e, Nat.testBit_or, iha h'.1.2 v hv, ihb h'.2 v hv]
    · by_cases e2 : c = 38
      · rw [if_neg e, if_neg e, if_pos e2, if_pos e2, Nat.testBit_and, iha h'.1.2 v hv, ihb h'.2 v hv]
      · rw [if_neg e, if_neg e, if_neg e2, if_neg e2, sum_has n _ _ v h1 (set_lt n a h1 h'.1.2) hv, Bool.eq_iff_iff, List.any_eq_true, List.any_eq_true]
        constructor
        · rintro ⟨w, hw, hh⟩
          refine ⟨w, hw, ?_⟩
          rw [← iha h'.1.2 w (List.mem_range.1 hw), ← ihb h'.2 _ (rest_lt n _ h1)]; exact hh
        · rintro ⟨w, hw, hh⟩
          refine ⟨w, hw, ?_⟩
          rw [iha h'.1.2 w (List.mem_range.1 hw), ihb h'.2 _ (rest_lt n _ h1)]; exact hh
/-- A term with a sign in front. -/
theorem term_front (n : Int) (xs : List UInt8) (t : Tm) (c : UInt8) (hc : isFront c = true) (h : termO n xs = some t) (h59 : xs.length ≤ 59) : termO n (c :: xs) = some (.one c t) := by
  obtain ⟨hn, hl, rfl, ho⟩ := (term_iff n xs t).1 h
  refine (term_iff n _ _).2 ⟨hn, by simp; omega, rfl, ?_⟩
  show (isFront c && okT n.toNat t) = true
  rw [hc, ho]; rfl
/-- Two terms with a sign between. -/
theorem term_mid (n : Int) (xs ys : List UInt8) (s t : Tm) (c : UInt8) (hc : isMid c = true) (h : termO n xs = some s) (h2 : termO n ys = some t) (h57 : xs.length + ys.length ≤ 57) : termO n (40 :: (xs ++ c :: (ys ++ [41]))) = some (.two c s t) := by
  obtain ⟨hn, hl, rfl, ho⟩ := (term_iff n xs s).1 h
  obtain ⟨_, hl2, rfl, ho2⟩ := (term_iff n ys t).1 h2
  refine (term_iff n _ _).2 ⟨hn, by simp; omega, rfl, ?_⟩
  show (isMid c && okT n.toNat s && okT n.toNat t) = true
  rw [hc, ho, ho2]; rfl
/-- Nothing can stand behind a term. -/
theorem term_behind (n : Int) (xs : List UInt8) (t : Tm) (z : UInt8) (h : termO n xs = some t) : termO n (xs ++ [z]) = none := by
  obtain ⟨hn, hl, rfl, ho⟩ := (term_iff n xs t).1 h
  cases e : termO n (showT t ++ [z]) with
  | none => rfl
  | some u =>
    obtain ⟨_, _, e1, ho2⟩ := (term_iff n _ u).1 e
    have a := show_read n.toNat t ((showT t).length + 1) [z] ho (by omega)
    have hlen : (showT u).length = (showT t).length + 1 := by rw [← e1]; simp
    have b := show_read n.toNat u ((showT t).length + 1) [] ho2 (by omega)
    rw [List.append_nil, ← e1, a] at b
    injection b with b
    injection b with _ b
    cases b
end Go.Proofs.YtecjhkpldcmlaaaDoor
