/- Fair colours on every ring of at most 8 places by all steps, gone through one by one: what is computed, and what it says. -/
import Derived.Test.YtmombdahabimbaaFreH
import Derived.Test.YtmombdahabimbaaGI
namespace Go.Proofs.Ytmombdahabimbaa
set_option linter.unusedVariables false
/-- The places ahead of v that are joined with it. -/
def nbN (q v : Nat) : Nat → Nat
  | 0 => 0
  | w + 1 => if Nat.beq ((q >>> (v - w)) % 2) 1 then nbN q v w ||| 2 ^ w else nbN q v w
def okM (M c nb : Nat) : Bool := Nat.beq ((M >>> (8 * c)) &&& nb) 0
def withN (f : Nat → Nat) (x : Nat) : Nat := match x with
  | 0 => f 0
  | p + 1 => f (p + 1)
theorem withN_eq (f : Nat → Nat) (x : Nat) : withN f x = f x := by cases x <;> rfl
def withB (f : Nat → Bool) (x : Nat) : Bool := match x with
  | 0 => f 0
  | p + 1 => f (p + 1)
theorem withB_eq (f : Nat → Bool) (x : Nat) : withB f x = f x := by cases x <;> rfl
def waysM (q k : Nat) : Nat → Nat → Nat → Nat
  | 0, _, _ => 1
  | m + 1, v, M => withN (fun nb => sumTo (fun c => if okM M c nb then withN (waysM q k m (v + 1)) (M ||| 2 ^ (8 * c + v)) else 0) k) (nbN q v v)
def canM (q k : Nat) : Nat → Nat → Nat → Nat → Bool
  | 0, _, _, _ => true
  | m + 1, v, M, used => withB (fun nb => anyN (fun c => okM M c nb && withB (fun M' => canM q k m (v + 1) M' (max used (c + 1))) (M ||| 2 ^ (8 * c + v))) (min k (used + 1))) (nbN q v v)
theorem nbN_bit (q v j w : Nat) (hj : j ≤ v) : (nbN q v j).testBit w = true ↔ w < j ∧ q.testBit (v - w) = true := by
  induction j with
  | zero =>
    constructor
    · intro h; simp [nbN] at h
    · rintro ⟨h, _⟩; omega
  | succ j ih =>
    have ih := ih (by omega)
    show (if Nat.beq ((q >>> (v - j)) % 2) 1 then nbN q v j ||| 2 ^ j else nbN q v j).testBit w = true ↔ _
    rw [beq_bitF]
    cases hb : q.testBit (v - j)
    · rw [if_neg (by simp), ih]
      constructor
      · rintro ⟨a, b⟩; exact ⟨by omega, b⟩
      · rintro ⟨a, b⟩
        have : w ≠ j := fun c => by rw [c, hb] at b; cases b
        exact ⟨by omega, b⟩
    · rw [if_pos rfl, Nat.testBit_or, Nat.testBit_two_pow, Bool.or_eq_true, decide_eq_true_iff, ih]
      constructor
      · rintro (⟨a, b⟩ | a)
        · exact ⟨by omega, b⟩
        · subst a; exact ⟨by omega, hb⟩
      · rintro ⟨a, b⟩
        by_cases c : w = j
        · exact .inr c.symm
        · exact .inl ⟨by omega, b⟩
/-- M tells the colours xs. -/
def Rep (M : Nat) (xs : List Int) : Prop := ∀ c w, w < 8 → (M.testBit (8 * c + w) = true ↔ w < xs.length ∧ xs.getD w 0 = (c : Int))
theorem rep_nil : Rep 0 [] := fun c w hw => by
  rw [Nat.zero_testBit]
  constructor
  · intro h; cases h
  · rintro ⟨h, _⟩; simp at h
theorem rep_snoc {M : Nat} {xs : List Int} (h : Rep M xs) (hl : xs.length < 8) (c : Nat) : Rep (M ||| 2 ^ (8 * c + xs.length)) (xs ++ [(c : Int)]) := fun d w hw => by
  rw [Nat.testBit_or, Nat.testBit_two_pow, Bool.or_eq_true, decide_eq_true_iff, h d w hw, List.length_append, List.length_singleton]
  constructor
  · rintro (⟨a, b⟩ | a)
    · refine ⟨by omega, ?_⟩
      rw [List.getD_eq_getElem?_getD, List.getElem?_append_left a, ← List.getD_eq_getElem?_getD]
      exact b
    · have e1 : c = d := by omega
      have e2 : xs.length = w := by omega
      subst e1; subst e2
      refine ⟨by omega, ?_⟩
      rw [List.getD_eq_getElem?_getD, List.getElem?_append_right (Nat.le_refl _), Nat.sub_self]
      rfl
  · rintro ⟨a, b⟩
    by_cases e : w < xs.length
    · rw [List.getD_eq_getElem?_getD, List.getElem?_append_left e, ← List.getD_eq_getElem?_getD] at b
      exact .inl ⟨e, b⟩
    · obtain rfl : w = xs.length := by omega
      rw [List.getD_eq_getElem?_getD, List.getElem?_append_right (Nat.le_refl _), Nat.sub_self] at b
      have b' : (c : Int) = (d : Int) := b
      have : c = d := Int.ofNat.inj b'
      exact .inr (by rw [this])
theorem okTo_iff (q : Nat) (xs : List Int) (c j : Nat) : okTo q xs c j = true ↔ ∀ w, w < j → ¬ (q.testBit (xs.length - w) = true ∧ xs.getD w 0 = (c : Int)) := by
  induction j with
  | zero => exact ⟨fun _ w hw => absurd hw (by omega), fun _ => rfl⟩
  | succ j ih =>
    show (okTo q xs c j && (!q.testBit (xs.length - j) || !decide (xs.getD j 0 = (c : Int)))) = true ↔ _
    rw [Bool.and_eq_true, ih]
    constructor
    · rintro ⟨a, b⟩ w hw ⟨c1, c2⟩
      by_cases e : w = j
      · subst e
        rw [c1, decide_eq_true c2] at b
        cases b
      · exact a w (by omega) ⟨c1, c2⟩
    · intro h
      refine ⟨fun w hw => h w (by omega), ?_⟩
      cases hb : q.testBit (xs.length - j)
      · rfl
      · have := h j (by omega)
        rw [decide_eq_false (fun e => this ⟨hb, e⟩)]
        rfl
theorem okM_eq (q M c : Nat) (xs : List Int) (h : Rep M xs) (hl : xs.length < 8) : okM M c (nbN q xs.length xs.length) = okTo q xs c xs.length := by
  have key : okM M c (nbN q xs.length xs.length) = true ↔ okTo q xs c xs.length = true := by
    rw [okTo_iff]
    unfold okM
    constructor
    · intro hb w hw ⟨c1, c2⟩
      have h0 := Nat.eq_of_beq_eq_true hb
      have e : ((M >>> (8 * c)) &&& nbN q xs.length xs.length).testBit w = true := by
        rw [Nat.testBit_and, Nat.testBit_shiftRight, (h c w (by omega)).2 ⟨hw, c2⟩, (nbN_bit q xs.length xs.length w (Nat.le_refl _)).2 ⟨hw, c1⟩]
        rfl
      rw [h0, Nat.zero_testBit] at e
      cases e
    · intro hall
      have h0 : (M >>> (8 * c)) &&& nbN q xs.length xs.length = 0 := Nat.eq_of_testBit_eq fun w => by
        rw [Nat.zero_testBit, Nat.testBit_and, Nat.testBit_shiftRight]
        cases ha : M.testBit (8 * c + w)
        · rfl
        · cases hb : (nbN q xs.length xs.length).testBit w
          · rfl
          · obtain ⟨hw, c1⟩ := (nbN_bit q xs.length xs.length w (Nat.le_refl _)).1 hb
            obtain ⟨_, c2⟩ := (h c w (by omega)).1 ha
            exact absurd ⟨c1, c2⟩ (hall w hw)
      rw [h0]; rfl
  cases ha : okM M c (nbN q xs.length xs.length) <;> cases hc : okTo q xs c xs.length
  · rfl
  · rw [key.2 hc] at ha; cases ha
  · rw [key.1 ha] at hc; cases hc
  · rfl
theorem ways_M (q k m M : Nat) (xs : List Int) (h : Rep M xs) (hl : xs.length + m ≤ 8) : waysM q k m xs.length M = waysN q k m xs := by
  induction m generalizing M xs with
  | zero => rfl
  | succ m ih =>
    show withN (fun nb => sumTo (fun c => if okM M c nb then withN (waysM q k m (xs.length + 1)) (M ||| 2 ^ (8 * c + xs.length)) else 0) k) (nbN q xs.length xs.length) = sumTo (fun c => if okTo q xs c xs.length then waysN q k m (xs ++ [(c : Int)]) else 0) k
    rw [withN_eq]
    refine sumTo_congr _ _ _ fun c hc => ?_
    show (if okM M c (nbN q xs.length xs.length) then withN (waysM q k m (xs.length + 1)) (M ||| 2 ^ (8 * c + xs.length)) else 0) = _
    rw [okM_eq q M c xs h (by omega), withN_eq]
    have := ih (M ||| 2 ^ (8 * c + xs.length)) (xs ++ [(c : Int)]) (rep_snoc h (by omega) c) (by rw [List.length_append, List.length_singleton]; omega)
    rw [List.length_append, List.length_singleton] at this
    rw [this]
theorem anyN_congr (f g : Nat → Bool) (k : Nat) (h : ∀ c, c < k → f c = g c) : anyN f k = anyN g k := by
  cases hf : anyN f k <;> cases hg : anyN g k
  · rfl
  · exfalso
    have : ∀ c, c < k → g c = false := fun c hc => by
      cases hgc : g c
      · rfl
      · rw [anyN_true f k c hc (by rw [h c hc, hgc])] at hf; cases hf
    rw [anyN_false g k this] at hg; cases hg
  · exfalso
    have : ∀ c, c < k → f c = false := fun c hc => by
      cases hfc : f c
      · rfl
      · rw [anyN_true g k c hc (by rw [← h c hc, hfc])] at hg; cases hg
    rw [anyN_false f k this] at hf; cases hf
  · rfl
theorem can_M (q k m M used : Nat) (xs : List Int) (h : Rep M xs) (hl : xs.length + m ≤ 8) : canM q k m xs.length M used = canN q k m xs used := by
  induction m generalizing M xs used with
  | zero => rfl
  | succ m ih =>
    show withB (fun nb => anyN (fun c => okM M c nb && withB (fun M' => canM q k m (xs.length + 1) M' (max used (c + 1))) (M ||| 2 ^ (8 * c + xs.length))) (min k (used + 1))) (nbN q xs.length xs.length) = anyN (fun c => okTo q xs c xs.length && canN q k m (xs ++ [(c : Int)]) (max used (c + 1))) (min k (used + 1))
    rw [withB_eq]
    refine anyN_congr _ _ _ fun c hc => ?_
    show (okM M c (nbN q xs.length xs.length) && withB (fun M' => canM q k m (xs.length + 1) M' (max used (c + 1))) (M ||| 2 ^ (8 * c + xs.length))) = _
    rw [okM_eq q M c xs h (by omega), withB_eq]
    have := ih (M ||| 2 ^ (8 * c + xs.length)) (max used (c + 1)) (xs ++ [(c : Int)]) (rep_snoc h (by omega) c) (by rw [List.length_append, List.length_singleton]; omega)
    rw [List.length_append, List.length_singleton] at this
    show (okTo q xs c xs.length && canM q k m (xs.length + 1) (M ||| 2 ^ (8 * c + xs.length)) (max used (c + 1))) = _
    rw [this]
theorem waysF_M (n s k : Nat) (h2 : n ≤ 8) : waysM (bothN n s) k n 0 0 = waysF n s k := ways_M (bothN n s) k n 0 [] rep_nil (by simpa using h2)
theorem canF_M (n s k : Nat) (h2 : n ≤ 8) : canM (bothN n s) k n 0 0 0 = canF n s k := can_M (bothN n s) k n 0 0 [] rep_nil (by simpa using h2)
/-- The least number of colours, and what holds of it. -/
def colM (n q : Nat) : Nat := leastK (fun k => canM q k n 0 0 0) 8 1
theorem colM_eq (n s : Nat) (h2 : n ≤ 8) : colM n (bothN n s) = colF n s := by
  unfold colM colF
  congr 1
  funext k
  exact canF_M n s k h2
def wayC (n q K : Nat) : Nat → Bool
  | 0 => true
  | j + 1 => withB (fun y => (Nat.beq y 0 == Nat.blt j K) && (Nat.beq j 0 || Nat.beq (y % j) 0)) (waysM q j n 0 0) && wayC n q K j
def factC (n s q K mc m' : Nat) : Bool := Nat.ble (m' % 16) K && Nat.ble n (K * (mc % 16)) && Nat.ble K (popF n q + 1) && (Nat.ble K 2 == halvesN n s)
def endC (n s q o K : Nat) : Bool := collX q (fun ds => collX o (fun es => twoX (factC n s q K) (foldR (mcG n ds) n 0 0) (foldR (mcG n es) n 0 0)) n []) n [] && (if Nat.beq s q then wayC n q K 5 else true)
theorem endC_eq (n s q o K : Nat) : endC n s q o K = (factC n s q K (foldR (mcG n (bitsL q n [])) n 0 0) (foldR (mcG n (bitsL o n [])) n 0 0) && (if Nat.beq s q then wayC n q K 5 else true)) := by
  unfold endC
  rw [collX_eq]
  show (collX o (fun es => twoX (factC n s q K) (foldR (mcG n (bitsL q n [])) n 0 0) (foldR (mcG n es) n 0 0)) n [] && _) = _
  rw [collX_eq]
  show (twoX (factC n s q K) (foldR (mcG n (bitsL q n [])) n 0 0) (foldR (mcG n (bitsL o n [])) n 0 0) && _) = _
  rw [twoX_eq]
def thirdC (n s q o : Nat) : Bool := withB (endC n s q o) (colM n q)
def secondC (n s q : Nat) : Bool := withB (thirdC n s q) (otherN n q)
def oneC (n s : Nat) : Bool := withB (fun s => withB (secondC n s) (bothN n s)) s
theorem oneC_eq (n s : Nat) : oneC n s = endC n s (bothN n s) (otherN n (bothN n s)) (colM n (bothN n s)) := by
  unfold oneC
  rw [withB_eq, withB_eq]
  unfold secondC
  rw [withB_eq]
  unfold thirdC
  rw [withB_eq]
def spanC (n : Nat) : Nat → Bool
  | 0 => true
  | k + 1 => oneC n (2 * k) && spanC n k
theorem spanC_ok (n k : Nat) (h : spanC n k = true) (b : Nat) (h2 : b < k) : oneC n (2 * b) = true := by
  induction k with
  | zero => omega
  | succ k ih =>
    have h' : (oneC n (2 * k) && spanC n k) = true := h
    rw [Bool.and_eq_true] at h'
    by_cases e : b = k
    · rw [e]; exact h'.1
    · exact ih h'.2 (by omega)
end Go.Proofs.Ytmombdahabimbaa
