/- Terms: what the texts of trees look like, and reading without fuel (for the walks of chapter 11). -/
import Derived.Test.YtecjhkpldcmlaaaDoorTrmD
namespace Go.Proofs.YtecjhkpldcmlaaaDoor
set_option linter.unusedVariables false
/-- Reading, without fuel. -/
def readL (n : Nat) (xs : List UInt8) : Option (Tm × List UInt8) := readT n (xs.length + 1) xs
theorem read_fuel (n f : Nat) (xs : List UInt8) (hf : xs.length ≤ f) : readT n f xs = readL n xs := by
  unfold readL
  cases e : readT n f xs with
  | some p =>
    obtain ⟨t, r⟩ := p
    obtain ⟨e1, e2⟩ := read_show n f xs t r e
    have hl : (showT t).length ≤ xs.length + 1 := by rw [e1, List.length_append]; omega
    have := show_read n t (xs.length + 1) r e2 hl
    rw [← e1] at this
    exact this.symm
  | none =>
    cases e3 : readT n (xs.length + 1) xs with
    | none => rfl
    | some p =>
      obtain ⟨t, r⟩ := p
      obtain ⟨e1, e2⟩ := read_show n _ xs t r e3
      have hl : (showT t).length ≤ f := by
        have : xs.length = (showT t).length + r.length := by rw [e1, List.length_append]
        omega
      have := show_read n t f r e2 hl
      rw [← e1, e] at this
      cases this
theorem readL_nil (n : Nat) : readL n [] = none := rfl
theorem readL_leaf (n : Nat) (c : UInt8) (xs : List UInt8) (h : isLeaf n c = true) : readL n (c :: xs) = some (.leaf c, xs) := by
  show readT n (xs.length + 1 + 1) (c :: xs) = _
  unfold readT
  rw [if_pos h]
theorem readL_front (n : Nat) (c : UInt8) (xs : List UInt8) (h : isFront c = true) : readL n (c :: xs) = (readL n xs).map fun p => (.one c p.1, p.2) := by
  show readT n (xs.length + 1 + 1) (c :: xs) = _
  unfold readT
  rw [front_not_leaf n c h, if_neg Bool.false_ne_true, if_pos h]
  show (match readL n xs with | some (t, r) => some (Tm.one c t, r) | none => none) = _
  cases readL n xs with
  | none => rfl
  | some p => rfl
theorem readL_other (n : Nat) (c : UInt8) (xs : List UInt8) (h1 : isLeaf n c = false) (h2 : isFront c = false) (h3 : c ≠ 40) : readL n (c :: xs) = none := by
  show readT n (xs.length + 1 + 1) (c :: xs) = _
  unfold readT
  rw [h1, if_neg Bool.false_ne_true, h2, if_neg Bool.false_ne_true, if_neg h3]
theorem readL_less (n : Nat) (xs : List UInt8) (t : Tm) (r : List UInt8) (h : readL n xs = some (t, r)) : xs = showT t ++ r ∧ okT n t = true := read_show n _ xs t r h
theorem readL_show (n : Nat) (t : Tm) (r : List UInt8) (h : okT n t = true) : readL n (showT t ++ r) = some (t, r) :=
  show_read n t _ r h (by rw [List.length_append]; omega)
/-- What an opening bracket asks for: the first term none. -/
theorem readL_open_none (n : Nat) (xs : List UInt8) (h : readL n xs = none) : readL n (40 :: xs) = none := by
  show readT n (xs.length + 1 + 1) (40 :: xs) = _
  unfold readT
  rw [(open_not n).1, if_neg Bool.false_ne_true, (open_not n).2, if_neg Bool.false_ne_true, if_pos rfl]
  rw [show readT n (xs.length + 1) xs = none from h]
/-- Nothing behind the first term. -/
theorem readL_open_end (n : Nat) (xs : List UInt8) (a : Tm) (h : readL n xs = some (a, [])) : readL n (40 :: xs) = none := by
  show readT n (xs.length + 1 + 1) (40 :: xs) = _
  unfold readT
  rw [(open_not n).1, if_neg Bool.false_ne_true, (open_not n).2, if_neg Bool.false_ne_true, if_pos rfl]
  rw [show readT n (xs.length + 1) xs = some (a, []) from h]
/-- No sign between. -/
theorem readL_open_mid (n : Nat) (xs : List UInt8) (a : Tm) (m : UInt8) (r : List UInt8) (h : readL n xs = some (a, m :: r)) (hm : isMid m = false) : readL n (40 :: xs) = none := by
  show readT n (xs.length + 1 + 1) (40 :: xs) = _
  unfold readT
  rw [(open_not n).1, if_neg Bool.false_ne_true, (open_not n).2, if_neg Bool.false_ne_true, if_pos rfl]
  rw [show readT n (xs.length + 1) xs = some (a, m :: r) from h]
  simp only
  rw [hm, if_neg Bool.false_ne_true]
/-- A sign between: the second term decides. -/
theorem readL_open_two (n : Nat) (xs : List UInt8) (a : Tm) (m : UInt8) (r : List UInt8) (h : readL n xs = some (a, m :: r)) (hm : isMid m = true) : readL n (40 :: xs) = match readL n r with
    | some (b, e :: r2) => if e = 41 then some (.two m a b, r2) else none
    | _ => none := by
  have hl : r.length ≤ xs.length + 1 := by
    have := (readL_less n xs a _ h).1
    rw [this, List.length_append, List.length_cons]; omega
  show readT n (xs.length + 1 + 1) (40 :: xs) = _
  rw [← read_fuel n (xs.length + 1) r hl]
  conv => lhs; unfold readT
  rw [(open_not n).1, if_neg Bool.false_ne_true, (open_not n).2, if_neg Bool.false_ne_true, if_pos rfl]
  rw [show readT n (xs.length + 1) xs = some (a, m :: r) from h]
  simp only
  rw [if_pos hm]
  cases readT n (xs.length + 1) r with
  | none => rfl
  | some p =>
    obtain ⟨b, l⟩ := p
    cases l <;> rfl
/-- The first byte of a term. -/
def headT : Tm → UInt8
  | .leaf c => c
  | .one c _ => c
  | .two _ _ _ => 40
def tailT : Tm → List UInt8
  | .leaf _ => []
  | .one _ a => showT a
  | .two c a b => showT a ++ c :: (showT b ++ [41])
theorem show_head (t : Tm) : showT t = headT t :: tailT t := by cases t <;> rfl
/-- A term that begins with a sign in front is one. -/
theorem head_front (n : Nat) (t : Tm) (h : okT n t = true) (hf : isFront (headT t) = true) : ∃ a, t = .one (headT t) a := by
  cases t with
  | leaf c =>
    have := front_not_leaf n c hf
    have h' : isLeaf n c = true := h
    rw [h'] at this; cases this
  | one c a => exact ⟨a, rfl⟩
  | two c a b => cases hf
/-- A term of one byte is a leaf. -/
theorem len_one (t : Tm) : (showT t).length = 1 ↔ ∃ c, t = .leaf c := by
  cases t with
  | leaf c => exact ⟨fun _ => ⟨c, rfl⟩, fun _ => rfl⟩
  | one c a =>
    have := show_pos a
    constructor
    · intro h
      have h' : (showT a).length + 1 = 1 := h
      omega
    · rintro ⟨d, e⟩; cases e
  | two c a b =>
    constructor
    · intro h; rw [len_two] at h; omega
    · rintro ⟨d, e⟩; cases e
theorem show_eq (n : Nat) (s t : Tm) (hs : okT n s = true) (ht : okT n t = true) : showT s = showT t ↔ s = t := ⟨show_inj n s t hs ht, fun e => by rw [e]⟩
theorem show_leaf_eq (t : Tm) (c : UInt8) (h : c ≠ 40) : showT t = [c] ↔ t = .leaf c := by
  constructor
  · intro e
    obtain ⟨d, rfl⟩ := (len_one t).1 (by rw [e]; rfl)
    have e' : [d] = [c] := e
    injection e' with e'
    rw [e']
  · rintro rfl; rfl
/-- '!' in front, by the text. -/
theorem show_front33 (n : Nat) (a : Tm) (h : okT n a = true) : showT (front33 a) = if headT a = 33 then tailT a else 33 :: showT a := by
  cases a with
  | leaf c =>
    show [33, c] = if c = 33 then [] else [33, c]
    have h' : isLeaf n c = true := h
    rw [if_neg (fun e => by rw [e] at h'; cases h')]
  | one c b =>
    show showT (if c = 33 then b else .one 33 (.one c b)) = if c = 33 then showT b else 33 :: c :: showT b
    split <;> rfl
  | two c x y => rfl
/-- '-' in front, by the text. -/
theorem show_front45_head (n : Nat) (a : Tm) (h : okT n a = true) (h45 : headT a = 45) : showT (front45 n a) = tailT a := by
  obtain ⟨b, e⟩ := head_front n a h (by rw [h45]; rfl)
  rw [h45] at e
  rw [e]
  rfl
theorem front45_not (n : Nat) (b : Tm) : front45 n (.one 33 b) = front33 (front45 n b) := rfl
theorem front45_two (n : Nat) (c : UInt8) (x y : Tm) : front45 n (.two c x y) = .one 45 (.two c x y) := rfl
theorem front45_leaf (n : Nat) (c : UInt8) : front45 n (.leaf c) = .leaf (turnB n c) := rfl
theorem turn_e (n : Nat) : turnB n 101 = 101 := rfl
end Go.Proofs.YtecjhkpldcmlaaaDoor
