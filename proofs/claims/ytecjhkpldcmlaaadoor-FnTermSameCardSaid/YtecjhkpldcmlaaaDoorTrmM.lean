/- Terms: trees, their texts, and that reading turns the one into the other (the maths of chapter 11). -/
import Derived.Test.YtecjhkpldcmlaaaDoorGB
namespace Go.Proofs.YtecjhkpldcmlaaaDoor
set_option linter.unusedVariables false
/-- A term: a sign alone, one with a sign in front, two with a sign between. -/
inductive Tm where
  | leaf (c : UInt8)
  | one (c : UInt8) (a : Tm)
  | two (c : UInt8) (a b : Tm)
  deriving DecidableEq
/-- The place of a sign, or -1. -/
def placeB (c : UInt8) : Int := if 48 ≤ c.toNat ∧ c.toNat ≤ 57 then (c.toNat : Int) - 48 else if c = 120 then 10 else if c = 121 then 11 else -1
def isFront (c : UInt8) : Bool := c == 33 || c == 45
def isMid (c : UInt8) : Bool := c == 43 || c == 38 || c == 46
def isLeaf (n : Nat) (c : UInt8) : Bool := c == 101 || (decide (0 ≤ placeB c) && decide (placeB c < n))
def okT (n : Nat) : Tm → Bool
  | .leaf c => isLeaf n c
  | .one c a => isFront c && okT n a
  | .two c a b => isMid c && okT n a && okT n b
def showT : Tm → List UInt8
  | .leaf c => [c]
  | .one c a => c :: showT a
  | .two c a b => 40 :: (showT a ++ c :: (showT b ++ [41]))
/-- A term read from the front of a list of bytes, and what is behind it. -/
def readT (n : Nat) : Nat → List UInt8 → Option (Tm × List UInt8)
  | 0, _ => none
  | f + 1, [] => none
  | f + 1, c :: xs =>
    if isLeaf n c then some (.leaf c, xs)
    else if isFront c then
      match readT n f xs with
      | some (t, r) => some (.one c t, r)
      | none => none
    else if c = 40 then
      match readT n f xs with
      | some (a, m :: r) =>
        if isMid m then
          match readT n f r with
          | some (b, e :: r2) => if e = 41 then some (.two m a b, r2) else none
          | _ => none
        else none
      | _ => none
    else none
theorem front_not_leaf (n : Nat) (c : UInt8) (h : isFront c = true) : isLeaf n c = false := by
  unfold isFront at h
  rw [Bool.or_eq_true, beq_iff_eq, beq_iff_eq] at h
  rcases h with rfl | rfl <;> rfl
theorem open_not (n : Nat) : isLeaf n 40 = false ∧ isFront 40 = false := ⟨rfl, rfl⟩
theorem show_pos (t : Tm) : 1 ≤ (showT t).length := by cases t <;> simp [showT]
/-- Reading tells a term whose text is what was read. -/
theorem read_show (n : Nat) (f : Nat) : ∀ (xs : List UInt8) (t : Tm) (r : List UInt8), readT n f xs = some (t, r) → xs = showT t ++ r ∧ okT n t = true := by
  induction f with
  | zero => intro xs t r h; cases h
  | succ f ih =>
    intro xs t r h
    cases xs with
    | nil => cases h
    | cons c xs =>
      unfold readT at h
      by_cases hl : isLeaf n c = true
      · rw [if_pos hl] at h
        injection h with h
        injection h with h1 h2
        subst h1 h2
        exact ⟨rfl, hl⟩
      · rw [if_neg hl] at h
        by_cases hf : isFront c = true
        · rw [if_pos hf] at h
          cases e : readT n f xs with
          | none => rw [e] at h; cases h
          | some p =>
            obtain ⟨a, r'⟩ := p
            rw [e] at h
            injection h with h
            injection h with h1 h2
            subst h1 h2
            obtain ⟨e1, e2⟩ := ih xs a r' e
            refine ⟨by rw [e1]; rfl, ?_⟩
            show (isFront c && okT n a) = true
            rw [hf, e2]; rfl
        · rw [if_neg hf] at h
          by_cases hc : c = 40
          · rw [if_pos hc] at h
            subst hc
            cases e : readT n f xs with
            | none => rw [e] at h; cases h
            | some p =>
              obtain ⟨a, r'⟩ := p
              rw [e] at h
              cases r' with
              | nil => cases h
              | cons m r' =>
                obtain ⟨e1, e2⟩ := ih xs a _ e
                simp only at h
                by_cases hm : isMid m = true
                · rw [if_pos hm] at h
                  cases e9 : readT n f r' with
                  | none => rw [e9] at h; cases h
                  | some p =>
                    obtain ⟨b, r2⟩ := p
                    rw [e9] at h
                    cases r2 with
                    | nil => cases h
                    | cons z r2 =>
                      obtain ⟨e3, e4⟩ := ih r' b _ e9
                      simp only at h
                      by_cases hz : z = 41
                      · rw [if_pos hz] at h
                        injection h with h
                        injection h with h1 h2
                        subst h1 h2 hz
                        refine ⟨?_, ?_⟩
                        · rw [e1, e3]
                          show (40 : UInt8) :: (showT a ++ m :: (showT b ++ 41 :: r2)) = 40 :: (showT a ++ m :: (showT b ++ [41])) ++ r2
                          simp
                        · show (isMid m && okT n a && okT n b) = true
                          rw [hm, e2, e4]; rfl
                      · rw [if_neg hz] at h; cases h
                · rw [if_neg hm] at h; cases h
          · rw [if_neg hc] at h; cases h
/-- The text of a term reads as that term. -/
theorem show_read (n : Nat) (t : Tm) : ∀ (f : Nat) (r : List UInt8), okT n t = true → (showT t).length ≤ f → readT n f (showT t ++ r) = some (t, r) := by
  induction t with
  | leaf c =>
    intro f r h hf
    obtain ⟨f, rfl⟩ : ∃ k, f = k + 1 := ⟨f - 1, by have : 1 ≤ f := hf; omega⟩
    show readT n (f + 1) (c :: r) = _
    unfold readT
    rw [if_pos (show isLeaf n c = true from h)]
  | one c a ih =>
    intro f r h hf
    have h' : (isFront c && okT n a) = true := h
    rw [Bool.and_eq_true] at h'
    have hf' : (showT a).length + 1 ≤ f := hf
    obtain ⟨f, rfl⟩ : ∃ k, f = k + 1 := ⟨f - 1, by omega⟩
    show readT n (f + 1) (c :: (showT a ++ r)) = _
    unfold readT
    rw [front_not_leaf n c h'.1, if_neg Bool.false_ne_true, if_pos h'.1, ih f r h'.2 (by omega)]
  | two c a b iha ihb =>
    intro f r h hf
    have h' : (isMid c && okT n a && okT n b) = true := h
    rw [Bool.and_eq_true, Bool.and_eq_true] at h'
    have hf' : (showT a).length + ((showT b).length + 1 + 1) + 1 ≤ f := by
      have : (showT (.two c a b)).length = (showT a).length + ((showT b).length + 1 + 1) + 1 := by
        show ((40 : UInt8) :: (showT a ++ c :: (showT b ++ [41]))).length = _
        simp
      omega
    obtain ⟨f, rfl⟩ : ∃ k, f = k + 1 := ⟨f - 1, by omega⟩
    have e : showT (.two c a b) ++ r = 40 :: (showT a ++ c :: (showT b ++ 41 :: r)) := by
      show (40 : UInt8) :: (showT a ++ c :: (showT b ++ [41])) ++ r = _
      simp
    rw [e]
    unfold readT
    rw [(open_not n).1, if_neg Bool.false_ne_true, (open_not n).2, if_neg Bool.false_ne_true, if_pos rfl, iha f _ h'.1.2 (by omega)]
    simp only
    rw [if_pos h'.1.1, ihb f _ h'.2 (by omega)]
    simp only [if_true]
/-- The term of a whole text. -/
def termO (n : Int) (xs : List UInt8) : Option Tm :=
  if (1 ≤ n ∧ n ≤ 12) ∧ xs.length ≤ 60 then
    match readT n.toNat (xs.length + 1) xs with
    | some (t, []) => some t
    | _ => none
  else none
theorem term_iff (n : Int) (xs : List UInt8) (t : Tm) : termO n xs = some t ↔ (1 ≤ n ∧ n ≤ 12) ∧ xs.length ≤ 60 ∧ xs = showT t ∧ okT n.toNat t = true := by
  unfold termO
  constructor
  · intro h
    by_cases hc : (1 ≤ n ∧ n ≤ 12) ∧ xs.length ≤ 60
    · rw [if_pos hc] at h
      cases e : readT n.toNat (xs.length + 1) xs with
      | none => rw [e] at h; cases h
      | some p =>
        obtain ⟨a, r⟩ := p
        rw [e] at h
        cases r with
        | cons z r => cases h
        | nil =>
          injection h with h
          subst h
          obtain ⟨e1, e2⟩ := read_show _ _ _ _ _ e
          rw [List.append_nil] at e1
          exact ⟨hc.1, hc.2, e1, e2⟩
    · rw [if_neg hc] at h; cases h
  · rintro ⟨hn, hl, rfl, ho⟩
    rw [if_pos ⟨hn, hl⟩]
    have := show_read n.toNat t ((showT t).length + 1) [] ho (by omega)
    rw [List.append_nil] at this
    rw [this]
/-- A text has one term at most. -/
theorem show_inj (n : Nat) (s t : Tm) (hs : okT n s = true) (ht : okT n t = true) (h : showT s = showT t) : s = t := by
  have h1 := show_read n s ((showT s).length) [] hs (Nat.le_refl _)
  have h2 := show_read n t ((showT s).length) [] ht (by rw [h]; exact Nat.le_refl _)
  rw [h] at h1 h2
  rw [h1] at h2
  injection h2 with h2
  injection h2
end Go.Proofs.YtecjhkpldcmlaaaDoor
