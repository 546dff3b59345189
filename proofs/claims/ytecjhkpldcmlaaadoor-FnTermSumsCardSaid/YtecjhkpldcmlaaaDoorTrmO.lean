/- Terms: the term of a set (the maths of chapter 11: P96). -/
import Derived.Test.YtecjhkpldcmlaaaDoorTrmD
namespace Go.Proofs.YtecjhkpldcmlaaaDoor
set_option linter.unusedVariables false
def placesL (n s : Nat) : List Nat := (List.range n).filter fun v => s.testBit v
/-- Places as a term. -/
def placesT : List Nat → Tm
  | [] => .leaf 101
  | [v] => .leaf (signB v)
  | v :: w :: l => .two 43 (.leaf (signB v)) (placesT (w :: l))
def writeT (n s : Nat) : Tm := placesT (placesL n s)
theorem places_lt (n s : Nat) : ∀ v ∈ placesL n s, v < n ∧ s.testBit v = true := fun v hv => by
  obtain ⟨a, b⟩ := List.mem_filter.1 hv
  exact ⟨List.mem_range.1 a, b⟩
theorem places_len (n s : Nat) : (placesL n s).length ≤ n := by
  have := List.length_filter_le (fun v => s.testBit v) (List.range n)
  rw [List.length_range] at this
  exact this
theorem places_nodup (n s : Nat) : (placesL n s).Nodup := by
  rw [List.nodup_iff_pairwise_ne]
  exact (List.nodup_iff_pairwise_ne.1 List.nodup_range).filter _
theorem ok_places (n : Nat) (l : List Nat) (h2 : n ≤ 12) (h : ∀ v ∈ l, v < n) : okT n (placesT l) = true := by
  have one : ∀ v, v < n → isLeaf n (signB v) = true := fun v hv => by
    have := (sign_place v (by omega)).1
    unfold isLeaf
    rw [this]
    simp
    exact .inr hv
  induction l with
  | nil => rfl
  | cons v l ih =>
    cases l with
    | nil => exact one v (h v (List.mem_cons_self ..))
    | cons w l =>
      show (isMid 43 && isLeaf n (signB v) && okT n (placesT (w :: l))) = true
      rw [one v (h v (List.mem_cons_self ..)), ih (fun x hx => h x (List.mem_cons_of_mem _ hx))]
      rfl
theorem has_places (n : Nat) (l : List Nat) (h2 : n ≤ 12) (h : ∀ v ∈ l, v < n) (x : Nat) : hasT n (placesT l) x = decide (x ∈ l) := by
  have one : ∀ v, v < n → hasT n (.leaf (signB v)) x = decide (x = v) := fun v hv => by
    have hs := sign_place v (by omega)
    show (if signB v = 101 then false else decide (placeB (signB v) = (x : Int))) = _
    rw [if_neg hs.2, hs.1, decide_eq_decide]
    omega
  induction l with
  | nil => simp [placesT, hasT]
  | cons v l ih =>
    cases l with
    | nil =>
      rw [show placesT [v] = .leaf (signB v) from rfl, one v (h v (List.mem_cons_self ..)), decide_eq_decide]
      simp
    | cons w l =>
      show (hasT n (.leaf (signB v)) x || hasT n (placesT (w :: l)) x) = _
      rw [one v (h v (List.mem_cons_self ..)), ih (fun y hy => h y (List.mem_cons_of_mem _ hy)), ← Bool.decide_or, decide_eq_decide]
      simp
/-- The term of a set tells that set. -/
theorem set_write (n s : Nat) (h1 : 1 ≤ n) (h2 : n ≤ 12) (hs : s < 2 ^ n) : okT n (writeT n s) = true ∧ setT n (writeT n s) = s := by
  have ho := ok_places n (placesL n s) h2 (fun v hv => (places_lt n s v hv).1)
  have hq := set_lt n _ h1 ho
  refine ⟨ho, Nat.eq_of_testBit_eq fun v => ?_⟩
  show (setT n (placesT (placesL n s))).testBit v = s.testBit v
  by_cases hv : v < n
  · rw [← has_set n _ h1 ho v hv, has_places n _ h2 (fun v hv => (places_lt n s v hv).1), Bool.eq_iff_iff, decide_eq_true_eq]
    constructor
    · intro h; exact (places_lt n s v h).2
    · intro h; exact List.mem_filter.2 ⟨List.mem_range.2 hv, h⟩
  · have hp : 2 ^ n ≤ 2 ^ v := Nat.pow_le_pow_right (by omega) (by omega)
    rw [Nat.testBit_lt_two_pow (by omega), Nat.testBit_lt_two_pow (by omega)]
theorem sign_inj (v w : Nat) (hv : v < 12) (hw : w < 12) (h : signB v = signB w) : v = w := by
  have a := (sign_place v hv).1
  have b := (sign_place w hw).1
  rw [h, b] at a
  omega
theorem nf_places (l : List Nat) (h : ∀ v ∈ l, v < 12) (hn : l.Nodup) : nfT (placesT l) := by
  induction l with
  | nil => exact trivial
  | cons v l ih =>
    cases l with
    | nil => exact trivial
    | cons w l =>
      rw [List.nodup_cons] at hn
      have hi := ih (fun x hx => h x (List.mem_cons_of_mem _ hx)) hn.2
      have hv := sign_place v (h v (List.mem_cons_self ..))
      have hw := sign_place w (h w (List.mem_cons_of_mem _ (List.mem_cons_self ..)))
      refine ⟨trivial, hi, ?_⟩
      have n1 : ¬ (Tm.leaf (signB v) = .leaf 101) := fun e => by injection e with e; exact hv.2 e
      have n2 : ¬ (placesT (w :: l) = .leaf 101) := fun e => by
        cases l with
        | nil =>
          have e' : Tm.leaf (signB w) = .leaf 101 := e
          injection e' with e'
          exact hw.2 e'
        | cons x l => cases e
      have n3 : ¬ (Tm.leaf (signB v) = placesT (w :: l)) := fun e => by
        cases l with
        | nil =>
          have e' : Tm.leaf (signB v) = .leaf (signB w) := e
          injection e' with e'
          have := sign_inj v w (h v (List.mem_cons_self ..)) (h w (List.mem_cons_of_mem _ (List.mem_cons_self ..))) e'
          subst this
          exact hn.1 (List.mem_cons_self ..)
        | cons x l => cases e
      unfold midT
      rw [if_neg (fun q => q.1 rfl), if_neg (fun q => n1 q.2), if_neg (fun q => n2 q.2), if_neg (fun q => n3 q.2)]
/-- It is tidy. -/
theorem tidy_write (n s : Nat) (h2 : n ≤ 12) : tidyT n (writeT n s) = writeT n s :=
  tidy_nf n _ (nf_places _ (fun v hv => by have := (places_lt n s v hv).1; omega) (places_nodup n s))
theorem len_places (l : List Nat) : (showT (placesT l)).length ≤ 4 * l.length + 1 := by
  induction l with
  | nil => exact Nat.le_refl _
  | cons v l ih =>
    cases l with
    | nil => show 1 ≤ 5; omega
    | cons w l =>
      rw [show placesT (v :: w :: l) = .two 43 (.leaf (signB v)) (placesT (w :: l)) from rfl, len_two, show (showT (.leaf (signB v))).length = 1 from rfl, List.length_cons]
      omega
theorem len_write (n s : Nat) (h2 : n ≤ 12) : (showT (writeT n s)).length ≤ 49 := by
  have := len_places (placesL n s)
  have := places_len n s
  show (showT (placesT (placesL n s))).length ≤ 49
  omega
/-- P96: the term of a set is a term, tells the set, and is tidy. -/
theorem p_termOf (n s : Nat) (h1 : 1 ≤ n) (h2 : n ≤ 12) (hs : s < 2 ^ n) : termO (n : Int) (showT (writeT n s)) = some (writeT n s) ∧ setT n (writeT n s) = s ∧ tidyT n (writeT n s) = writeT n s := by
  obtain ⟨a, b⟩ := set_write n s h1 h2 hs
  have := len_write n s h2
  exact ⟨(term_iff _ _ _).2 ⟨⟨by omega, by omega⟩, by omega, rfl, by rw [Int.toNat_natCast]; exact a⟩, b, tidy_write n s h2⟩
end Go.Proofs.YtecjhkpldcmlaaaDoor
