/- Terms: turned (the maths of chapter 11: P98). -/
import Derived.Test.YtecjhkpldcmlaaaDoorTrmS
namespace Go.Proofs.YtecjhkpldcmlaaaDoor
set_option linter.unusedVariables false
/-- The sign of a place. -/
def signB (v : Nat) : UInt8 := if v ≤ 9 then UInt8.ofNat (48 + v) else if v = 10 then 120 else 121
def turnB (n : Nat) (c : UInt8) : UInt8 := if 0 ≤ placeB c then signB (neg n (placeB c).toNat) else c
def turnT (n : Nat) : Tm → Tm
  | .leaf c => .leaf (turnB n c)
  | .one c a => .one c (turnT n a)
  | .two c a b => .two c (turnT n a) (turnT n b)
def signAll : Bool := (List.range 12).all fun v => decide (placeB (signB v) = (v : Int)) && decide (signB v ≠ 101)
theorem sign_all : signAll = true := by decide +kernel
theorem sign_place (v : Nat) (h : v < 12) : placeB (signB v) = (v : Int) ∧ signB v ≠ 101 := by
  have := List.all_eq_true.1 sign_all v (List.mem_range.2 h)
  rw [Bool.and_eq_true, decide_eq_true_eq, decide_eq_true_eq] at this
  exact this
def placeAll : Bool := (List.range 256).all fun k => !decide (0 ≤ placeB (UInt8.ofNat k)) || (decide (placeB (UInt8.ofNat k) < 12) && decide (signB (placeB (UInt8.ofNat k)).toNat = UInt8.ofNat k))
theorem place_all : placeAll = true := by decide +kernel
theorem place_sign (c : UInt8) (h : 0 ≤ placeB c) : placeB c < 12 ∧ signB (placeB c).toNat = c := by
  have := List.all_eq_true.1 place_all c.toNat (List.mem_range.2 c.toNat_lt)
  rw [UInt8.ofNat_toNat] at this
  rw [decide_eq_true h, Bool.not_true, Bool.false_or, Bool.and_eq_true, decide_eq_true_eq, decide_eq_true_eq] at this
  exact this
theorem turn_front (n : Nat) (c : UInt8) (h : isFront c = true) : turnB n c = c := by
  unfold isFront at h
  rw [Bool.or_eq_true, beq_iff_eq, beq_iff_eq] at h
  rcases h with rfl | rfl <;> rfl
theorem turn_mid (n : Nat) (c : UInt8) (h : isMid c = true) : turnB n c = c := by
  unfold isMid at h
  rw [Bool.or_eq_true, Bool.or_eq_true, beq_iff_eq, beq_iff_eq, beq_iff_eq] at h
  rcases h with (rfl | rfl) | rfl <;> rfl
theorem leaf_is (n : Nat) (c : UInt8) (h : isLeaf n c = true) : c = 101 ∨ (c ≠ 101 ∧ 0 ≤ placeB c ∧ placeB c < n) := by
  unfold isLeaf at h
  rw [Bool.or_eq_true, Bool.and_eq_true, beq_iff_eq, decide_eq_true_eq, decide_eq_true_eq] at h
  by_cases e : c = 101
  · exact .inl e
  · exact .inr ⟨e, h.resolve_left e⟩
/-- Turned letter by letter. -/
theorem show_turn (n : Nat) (t : Tm) (h : okT n t = true) : showT (turnT n t) = (showT t).map (turnB n) := by
  induction t with
  | leaf c => rfl
  | one c a ih =>
    have h' : (isFront c && okT n a) = true := h
    rw [Bool.and_eq_true] at h'
    show c :: showT (turnT n a) = turnB n c :: (showT a).map (turnB n)
    rw [ih h'.2, turn_front n c h'.1]
  | two c a b iha ihb =>
    have h' : (isMid c && okT n a && okT n b) = true := h
    rw [Bool.and_eq_true, Bool.and_eq_true] at h'
    show (40 : UInt8) :: (showT (turnT n a) ++ c :: (showT (turnT n b) ++ [41])) = ((40 : UInt8) :: (showT a ++ c :: (showT b ++ [41]))).map (turnB n)
    rw [iha h'.1.2, ihb h'.2, List.map_cons, List.map_append, List.map_cons, List.map_append, turn_mid n c h'.1.1]
    rfl
theorem ok_turnT (n : Nat) (t : Tm) (h1 : 1 ≤ n) (h2 : n ≤ 12) (h : okT n t = true) : okT n (turnT n t) = true := by
  induction t with
  | leaf c =>
    show isLeaf n (turnB n c) = true
    rcases leaf_is n c h with rfl | ⟨e, p0, p1⟩
    · rfl
    · have hl := neg_lt n (placeB c).toNat h1
      have hs := sign_place (neg n (placeB c).toNat) (by omega)
      unfold turnB isLeaf
      rw [if_pos p0, hs.1]
      simp
      exact .inr hl
  | one c a ih =>
    have h' : (isFront c && okT n a) = true := h
    rw [Bool.and_eq_true] at h'
    show (isFront c && okT n (turnT n a)) = true
    rw [h'.1, ih h'.2]; rfl
  | two c a b iha ihb =>
    have h' : (isMid c && okT n a && okT n b) = true := h
    rw [Bool.and_eq_true, Bool.and_eq_true] at h'
    show (isMid c && okT n (turnT n a) && okT n (turnT n b)) = true
    rw [h'.1.1, iha h'.1.2, ihb h'.2]; rfl
/-- Turned twice, a term is itself again. -/
theorem turn_turnT (n : Nat) (t : Tm) (h1 : 1 ≤ n) (h2 : n ≤ 12) (h : okT n t = true) : turnT n (turnT n t) = t := by
  induction t with
  | leaf c =>
    show Tm.leaf (turnB n (turnB n c)) = .leaf c
    rcases leaf_is n c h with rfl | ⟨e, p0, p1⟩
    · rfl
    · have hl := neg_lt n (placeB c).toNat h1
      have hs := sign_place (neg n (placeB c).toNat) (by omega)
      have hb : turnB n c = signB (neg n (placeB c).toNat) := by unfold turnB; rw [if_pos p0]
      rw [hb]
      unfold turnB
      rw [hs.1, if_pos (by omega), Int.toNat_natCast, neg_neg' n _ h1 (by omega), (place_sign c p0).2]
  | one c a ih =>
    have h' : (isFront c && okT n a) = true := h
    rw [Bool.and_eq_true] at h'
    show Tm.one c (turnT n (turnT n a)) = .one c a
    rw [ih h'.2]
  | two c a b iha ihb =>
    have h' : (isMid c && okT n a && okT n b) = true := h
    rw [Bool.and_eq_true, Bool.and_eq_true] at h'
    show Tm.two c (turnT n (turnT n a)) (turnT n (turnT n b)) = .two c a b
    rw [iha h'.1.2, ihb h'.2]
theorem rest_turn (n v w : Nat) (h1 : 1 ≤ n) (hv : v < n) : rest n (((neg n v : Nat) : Int) - ((neg n w : Nat) : Int)) = neg n (rest n ((v : Int) - (w : Int))) := by
  have e : ∀ x : Nat, ((neg n x : Nat) : Int) = (-(x : Int)) % (n : Int) := fun x => by
    unfold neg rest
    exact Int.toNat_of_nonneg (Int.emod_nonneg _ (by omega))
  have e2 : ∀ x : Int, ((rest n x : Nat) : Int) = x % (n : Int) := fun x => by
    unfold rest
    exact Int.toNat_of_nonneg (Int.emod_nonneg _ (by omega))
  have : ((rest n (((neg n v : Nat) : Int) - ((neg n w : Nat) : Int)) : Nat) : Int) = ((neg n (rest n ((v : Int) - (w : Int))) : Nat) : Int) := by
    rw [e2, e, e, e, e2, ← Int.sub_emod]
    have k : -(((v : Int) - (w : Int)) % (n : Int)) % (n : Int) = (0 - ((v : Int) - (w : Int)) % (n : Int)) % (n : Int) := by rw [Int.zero_sub]
    rw [k, Int.sub_emod_emod]
    congr 1
    omega
  omega
/-- A turned term has the turned places. -/
theorem has_turn (n : Nat) (t : Tm) (h1 : 1 ≤ n) (h2 : n ≤ 12) (h : okT n t = true) : ∀ v, v < n → hasT n (turnT n t) v = hasT n t (neg n v) := by
  induction t with
  | leaf c =>
    intro v hv
    show (if turnB n c = 101 then false else decide (placeB (turnB n c) = (v : Int))) = (if c = 101 then false else decide (placeB c = ((neg n v : Nat) : Int)))
    rcases leaf_is n c h with rfl | ⟨e, p0, p1⟩
    · rfl
    · have hl := neg_lt n (placeB c).toNat h1
      have hs := sign_place (neg n (placeB c).toNat) (by omega)
      have hb : turnB n c = signB (neg n (placeB c).toNat) := by unfold turnB; rw [if_pos p0]
      rw [hb, if_neg hs.2, if_neg e, hs.1, decide_eq_decide]
      constructor
      · intro q
        have q' : neg n (placeB c).toNat = v := by omega
        rw [← q', neg_neg' n _ h1 (by omega)]
        omega
      · intro q
        rw [q, Int.toNat_natCast, neg_neg' n v h1 hv]
  | one c a ih =>
    have h' : (isFront c && okT n a) = true := h
    rw [Bool.and_eq_true] at h'
    intro v hv
    show (if c = 33 then !hasT n (turnT n a) v else hasT n (turnT n a) (neg n v)) = (if c = 33 then !hasT n a (neg n v) else hasT n a (neg n (neg n v)))
    rw [ih h'.2 v hv, ih h'.2 _ (neg_lt n v h1)]
  | two c a b iha ihb =>
    have h' : (isMid c && okT n a && okT n b) = true := h
    rw [Bool.and_eq_true, Bool.and_eq_true] at h'
    intro v hv
    show (if c = 43 then hasT n (turnT n a) v || hasT n (turnT n b) v else if c = 38 then hasT n (turnT n a) v && hasT n (turnT n b) v else (List.range n).any fun w => hasT n (turnT n a) w && hasT n (turnT n b) (rest n ((v : Int) - (w : Int)))) = (if c = 43 then hasT n a (neg n v) || hasT n b (neg n v) else if c = 38 then hasT n a (neg n v) && hasT n b (neg n v) else (List.range n).any fun w => hasT n a w && hasT n b (rest n (((neg n v : Nat) : Int) - (w : Int))))
    rw [iha h'.1.2 v hv, ihb h'.2 v hv]
    split
    · rfl
    · split
      · rfl
      · rw [Bool.eq_iff_iff, List.any_eq_true, List.any_eq_true]
        constructor
        · rintro ⟨w, hw, hh⟩
          have hw' := List.mem_range.1 hw
          refine ⟨neg n w, List.mem_range.2 (neg_lt n w h1), ?_⟩
          rw [rest_turn n v w h1 hv, ← iha h'.1.2 w hw', ← ihb h'.2 _ (rest_lt n _ h1)]
          exact hh
        · rintro ⟨w, hw, hh⟩
          have hw' := List.mem_range.1 hw
          refine ⟨neg n w, List.mem_range.2 (neg_lt n w h1), ?_⟩
          rw [iha h'.1.2 _ (neg_lt n w h1), ihb h'.2 _ (rest_lt n _ h1), ← rest_turn n v _ h1 hv, neg_neg' n w h1 hw']
          exact hh
/-- A turned term tells the turned set. -/
theorem set_turnT (n : Nat) (t : Tm) (h1 : 1 ≤ n) (h2 : n ≤ 12) (h : okT n t = true) : setT n (turnT n t) = turnN n (setT n t) (-1) := by
  have hs := set_lt n t h1 h
  have hq := set_lt n _ h1 (ok_turnT n t h1 h2 h)
  have hr := turnN_lt n (setT n t) (-1) h1
  refine Nat.eq_of_testBit_eq fun v => ?_
  by_cases hv : v < n
  · rw [turn_neg_bit n _ v h1 hs hv, ← has_set n _ h1 (ok_turnT n t h1 h2 h) v hv, has_turn n t h1 h2 h v hv, has_set n t h1 h _ (neg_lt n v h1)]
  · have hp : 2 ^ n ≤ 2 ^ v := Nat.pow_le_pow_right (by omega) (by omega)
    rw [Nat.testBit_lt_two_pow (by omega), Nat.testBit_lt_two_pow (by omega)]
end Go.Proofs.YtecjhkpldcmlaaaDoor
