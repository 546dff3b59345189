/- Texts of mine, laid together: WrdO WrdW WrdP WrdQ. -/
import Derived.Test.YtgcfgegbbfbaaaaGV
import Derived.Test.YtgcfgegbbfbaaaaGD
/- Words: counts in order, a sort by swaps, sorted lists are told by their members (the maths of chapter 10). -/
namespace Go.Proofs.Ytgcfgegbbfbaaaa
set_option linter.unusedVariables false
def lessC : List Int → List Int → Bool
  | a :: s, b :: t => if a ≠ b then decide (a < b) else lessC s t
  | _, _ => false
theorem lessC_cons (a b : Int) (s t : List Int) : lessC (a :: s) (b :: t) = true ↔ a < b ∨ (a = b ∧ lessC s t = true) := by
  show (if a ≠ b then decide (a < b) else lessC s t) = true ↔ _
  by_cases h : a = b
  · subst h
    rw [if_neg (by omega)]
    constructor
    · exact fun e => .inr ⟨rfl, e⟩
    · rintro (e | e)
      · omega
      · exact e.2
  · rw [if_pos h, decide_eq_true_eq]
    constructor
    · exact fun e => .inl e
    · rintro (e | e)
      · exact e
      · exact absurd e.1 h
theorem less_irrefl (a : List Int) : lessC a a = false := by
  induction a with
  | nil => rfl
  | cons x a ih =>
    cases h : lessC (x :: a) (x :: a) with
    | false => rfl
    | true =>
      rcases (lessC_cons x x a a).1 h with e | e
      · omega
      · rw [ih] at e
        exact absurd e.2 (by decide)
theorem less_trans (a b c : List Int) (h1 : lessC a b = true) (h2 : lessC b c = true) : lessC a c = true := by
  induction a generalizing b c with
  | nil => cases h1
  | cons x a ih =>
    cases b with
    | nil => cases h1
    | cons y b =>
      cases c with
      | nil => cases h2
      | cons z c =>
        rw [lessC_cons] at *
        rcases h1 with e | ⟨e, e'⟩ <;> rcases h2 with f | ⟨f, f'⟩
        · exact .inl (by omega)
        · exact .inl (by omega)
        · exact .inl (by omega)
        · exact .inr ⟨by omega, ih b c e' f'⟩
theorem less_total (a b : List Int) (h : a.length = b.length) : a = b ∨ lessC a b = true ∨ lessC b a = true := by
  induction a generalizing b with
  | nil => exact .inl (List.eq_nil_of_length_eq_zero h.symm).symm
  | cons x a ih =>
    cases b with
    | nil => cases h
    | cons y b =>
      rw [lessC_cons, lessC_cons]
      rcases Int.lt_trichotomy x y with e | e | e
      · exact .inr (.inl (.inl e))
      · subst e
        rcases ih b (by simpa using h) with f | f | f
        · exact .inl (by rw [f])
        · exact .inr (.inl (.inr ⟨rfl, f⟩))
        · exact .inr (.inr (.inr ⟨rfl, f⟩))
      · exact .inr (.inr (.inl e))
/-- Two lists in strict order with the same members are one. -/
theorem sorted_eq (x y : List (List Int)) (hx : x.Pairwise fun a b => lessC a b = true) (hy : y.Pairwise fun a b => lessC a b = true) (h : ∀ a, a ∈ x ↔ a ∈ y) : x = y := by
  induction x generalizing y with
  | nil =>
    cases y with
    | nil => rfl
    | cons b y => exact absurd ((h b).2 (List.mem_cons_self ..)) (by simp)
  | cons a x ih =>
    cases y with
    | nil => exact absurd ((h a).1 (List.mem_cons_self ..)) (by simp)
    | cons b y =>
      rw [List.pairwise_cons] at hx hy
      have hab : a = b := by
        rcases List.mem_cons.1 ((h a).1 (List.mem_cons_self ..)) with e | e
        · exact e
        · rcases List.mem_cons.1 ((h b).2 (List.mem_cons_self ..)) with f | f
          · exact f.symm
          · have := less_trans a b a (hx.1 b f) (hy.1 a e)
            rw [less_irrefl] at this
            cases this
      subst hab
      rw [ih y hx.2 hy.2 fun c => ?_]
      constructor
      · intro hc
        rcases List.mem_cons.1 ((h c).1 (List.mem_cons_of_mem _ hc)) with e | e
        · subst e
          have := hx.1 c hc
          rw [less_irrefl] at this
          cases this
        · exact e
      · intro hc
        rcases List.mem_cons.1 ((h c).2 (List.mem_cons_of_mem _ hc)) with e | e
        · subst e
          have := hy.1 c hc
          rw [less_irrefl] at this
          cases this
        · exact e
/-- The model's sort: place i against each later one. -/
def swapAt (x : List (List Int)) (i j : Nat) : List (List Int) := if lessC (x.getD j []) (x.getD i []) then (x.set i (x.getD j [])).set j (x.getD i []) else x
def innerS (x : List (List Int)) (i : Nat) : Nat → List (List Int)
  | 0 => x
  | t + 1 => swapAt (innerS x i t) i (i + 1 + t)
def outerS (x : List (List Int)) : Nat → List (List Int)
  | 0 => x
  | i + 1 => innerS (outerS x i) i (x.length - (i + 1))
def sortS (x : List (List Int)) : List (List Int) := outerS x x.length
theorem swap_len (x : List (List Int)) (i j : Nat) : (swapAt x i j).length = x.length := by
  unfold swapAt
  split <;> simp
theorem inner_len (x : List (List Int)) (i t : Nat) : (innerS x i t).length = x.length := by
  induction t with
  | zero => rfl
  | succ t ih => exact (swap_len _ _ _).trans ih
theorem outer_len (x : List (List Int)) (i : Nat) : (outerS x i).length = x.length := by
  induction i with
  | zero => rfl
  | succ i ih => exact (inner_len _ _ _).trans ih
theorem swap_get (x : List (List Int)) (i j q : Nat) (hij : i < j) (hj : j < x.length) (hq : q < x.length) :
    (swapAt x i j).getD q [] = if lessC (x.getD j []) (x.getD i []) = true then (if q = j then x.getD i [] else if q = i then x.getD j [] else x.getD q []) else x.getD q [] := by
  unfold swapAt
  by_cases h : lessC (x.getD j []) (x.getD i []) = true
  · rw [if_pos h, if_pos h]
    simp only [List.getD_eq_getElem?_getD, List.getElem?_set, List.length_set]
    by_cases h1 : q = j
    · subst h1
      rw [if_pos rfl, if_pos hq, if_pos rfl]
      rfl
    · rw [if_neg (fun e => h1 e.symm), if_neg h1]
      by_cases h2 : q = i
      · subst h2
        rw [if_pos rfl, if_pos hq, if_pos rfl]
        rfl
      · rw [if_neg (fun e => h2 e.symm), if_neg h2]
  · rw [if_neg h, if_neg h]
/-- What holds of all pairs apart goes on to hold; members stay. -/
theorem swap_perm (x : List (List Int)) (i j : Nat) (hij : i < j) (hj : j < x.length) :
    ∃ f : Nat → Nat, (∀ q, q < x.length → f q < x.length ∧ (swapAt x i j).getD q [] = x.getD (f q) []) ∧ (∀ p q, f p = f q → p = q) ∧ (∀ q, f (f q) = q) ∧ (∀ q, q < i → f q = q) ∧ (∀ q, i ≤ q → i ≤ f q) := by
  by_cases h : lessC (x.getD j []) (x.getD i []) = true
  · refine ⟨fun q => if q = j then i else if q = i then j else q, ?_, ?_, ?_, ?_, ?_⟩
    · intro q hq
      refine ⟨by dsimp only; split <;> (try split) <;> omega, ?_⟩
      rw [swap_get x i j q hij hj hq, if_pos h]
      dsimp only
      by_cases h1 : q = j
      · rw [if_pos h1, if_pos h1]
      · rw [if_neg h1, if_neg h1]
        by_cases h2 : q = i
        · rw [if_pos h2, if_pos h2]
        · rw [if_neg h2, if_neg h2]
    · intro p q e
      dsimp only at e
      split at e <;> split at e <;> (try split at e) <;> (try split at e) <;> omega
    · intro q
      dsimp only
      by_cases h1 : q = j
      · rw [if_pos h1, if_neg (by omega), if_pos rfl, h1]
      · rw [if_neg h1]
        by_cases h2 : q = i
        · rw [if_pos h2, if_pos rfl, h2]
        · rw [if_neg h2, if_neg h1, if_neg h2]
    · intro q hq
      dsimp only
      rw [if_neg (by omega), if_neg (by omega)]
    · intro q hq
      dsimp only
      split <;> (try split) <;> omega
  · exact ⟨fun q => q, fun q hq => ⟨hq, by rw [swap_get x i j q hij hj hq, if_neg h]⟩, fun p q e => e, fun q => rfl, fun q _ => rfl, fun q hq => hq⟩
/-- Places apart hold lists apart, of one length. -/
structure Apart (m : Nat) (x : List (List Int)) : Prop where
  apart : ∀ p q, p < x.length → q < x.length → p ≠ q → x.getD p [] ≠ x.getD q []
  len : ∀ p, p < x.length → (x.getD p []).length = m
theorem swap_apart (m : Nat) (x : List (List Int)) (i j : Nat) (hij : i < j) (hj : j < x.length) (h : Apart m x) : Apart m (swapAt x i j) := by
  obtain ⟨f, h1, h2, h3, h4, h5⟩ := swap_perm x i j hij hj
  constructor
  · intro p q hp hq hpq
    rw [swap_len] at hp hq
    rw [(h1 p hp).2, (h1 q hq).2]
    exact h.apart _ _ (h1 p hp).1 (h1 q hq).1 fun e => hpq (h2 p q e)
  · intro p hp
    rw [swap_len] at hp
    rw [(h1 p hp).2]
    exact h.len _ (h1 p hp).1
theorem mem_getD (x : List (List Int)) (a : List Int) : a ∈ x ↔ ∃ q, q < x.length ∧ x.getD q [] = a := by
  rw [List.mem_iff_getElem]
  constructor
  · rintro ⟨q, hq, e⟩
    exact ⟨q, hq, by rw [List.getD_eq_getElem?_getD, List.getElem?_eq_getElem hq]; exact e⟩
  · rintro ⟨q, hq, e⟩
    exact ⟨q, hq, by rw [List.getD_eq_getElem?_getD, List.getElem?_eq_getElem hq] at e; exact e⟩
theorem swap_mem (x : List (List Int)) (i j : Nat) (hij : i < j) (hj : j < x.length) (a : List Int) : a ∈ swapAt x i j ↔ a ∈ x := by
  obtain ⟨f, h1, h2, h3, h4, h5⟩ := swap_perm x i j hij hj
  rw [mem_getD, mem_getD, swap_len]
  constructor
  · rintro ⟨q, hq, e⟩
    exact ⟨f q, (h1 q hq).1, by rw [← (h1 q hq).2, e]⟩
  · rintro ⟨q, hq, e⟩
    refine ⟨f q, (h1 q hq).1, ?_⟩
    rw [(h1 _ (h1 q hq).1).2, h3, e]
/-- The first i places hold the least ones in order. -/
def Least (x : List (List Int)) (i : Nat) : Prop := ∀ p q, p < i → p < q → q < x.length → lessC (x.getD q []) (x.getD p []) = false
structure InnerS (m : Nat) (x y : List (List Int)) (i t : Nat) : Prop where
  len : y.length = x.length
  apart : Apart m y
  mem : ∀ a, a ∈ y ↔ a ∈ x
  least : Least y i
  here : ∀ q, i < q → q < i + 1 + t → lessC (y.getD q []) (y.getD i []) = false
theorem inner_step (m : Nat) (x y : List (List Int)) (i t : Nat) (h : InnerS m x y i t) (ht : i + 1 + t < x.length) : InnerS m x (swapAt y i (i + 1 + t)) i (t + 1) := by
  have hj : i + 1 + t < y.length := by rw [h.len]; exact ht
  have hij : i < i + 1 + t := by omega
  obtain ⟨f, h1, h2, h3, h4, h5⟩ := swap_perm y i (i + 1 + t) hij hj
  refine ⟨(swap_len _ _ _).trans h.len, swap_apart m y _ _ hij hj h.apart, fun a => (swap_mem y _ _ hij hj a).trans (h.mem a), ?_, ?_⟩
  · intro p q hp hpq hq
    rw [swap_len] at hq
    rw [(h1 q hq).2, (h1 p (by omega)).2, h4 p hp]
    by_cases hqi : q < i
    · rw [h4 q hqi]
      exact h.least p q hp hpq hq
    · have := h5 q (by omega)
      exact h.least p (f q) hp (by omega) (h1 q hq).1
  · intro q hq1 hq2
    have hql : q < y.length := by omega
    rw [swap_get y i _ q hij hj hql, swap_get y i _ i hij hj (by omega)]
    by_cases hl : lessC (y.getD (i + 1 + t) []) (y.getD i []) = true
    · rw [if_pos hl, if_pos hl, if_neg (show ¬ i = i + 1 + t by omega), if_pos rfl]
      by_cases hqe : q = i + 1 + t
      · rw [if_pos hqe]
        cases hx : lessC (y.getD i []) (y.getD (i + 1 + t) []) with
        | false => rfl
        | true =>
          have := less_trans _ _ _ hx hl
          rw [less_irrefl] at this
          cases this
      · rw [if_neg hqe, if_neg (show ¬ q = i by omega)]
        cases hx : lessC (y.getD q []) (y.getD (i + 1 + t) []) with
        | false => rfl
        | true =>
          have := less_trans _ _ _ hx hl
          rw [h.here q hq1 (by omega)] at this
          cases this
    · rw [if_neg hl, if_neg hl]
      by_cases hqe : q = i + 1 + t
      · rw [hqe]
        exact Bool.eq_false_iff.2 hl
      · exact h.here q hq1 (by omega)
theorem inner_all (m : Nat) (x y : List (List Int)) (i t : Nat) (h : InnerS m x y i 0) (ht : i + t < x.length) : InnerS m x (innerS y i t) i t := by
  induction t with
  | zero => exact h
  | succ t ih => exact inner_step m x _ i t (ih (by omega)) (by omega)
structure OuterS (m : Nat) (x y : List (List Int)) (i : Nat) : Prop where
  len : y.length = x.length
  apart : Apart m y
  mem : ∀ a, a ∈ y ↔ a ∈ x
  least : Least y i
theorem outer_all (m : Nat) (x : List (List Int)) (h : Apart m x) (i : Nat) (hi : i ≤ x.length) : OuterS m x (outerS x i) i := by
  induction i with
  | zero => exact ⟨rfl, h, fun a => Iff.rfl, fun p q hp => absurd hp (Nat.not_lt_zero _)⟩
  | succ i ih =>
    have o := ih (by omega)
    have k := inner_all m x (outerS x i) i (x.length - (i + 1)) ⟨o.len, o.apart, o.mem, o.least, fun q a b => by omega⟩ (by omega)
    refine ⟨k.len, k.apart, k.mem, fun p q hp hpq hq => ?_⟩
    by_cases e : p = i
    · subst e
      have hq' : q < x.length := by rw [← k.len]; exact hq
      exact k.here q hpq (by omega)
    · exact k.least p q (by omega) hpq hq
theorem sort_sorted (m : Nat) (x : List (List Int)) (h : Apart m x) : (sortS x).Pairwise fun a b => lessC a b = true := by
  have o : OuterS m x (sortS x) x.length := outer_all m x h x.length (Nat.le_refl _)
  rw [List.pairwise_iff_getElem]
  intro p q hp hq hpq
  have hgp : (sortS x)[p] = (sortS x).getD p [] := by rw [List.getD_eq_getElem?_getD, List.getElem?_eq_getElem hp]; rfl
  have hgq : (sortS x)[q] = (sortS x).getD q [] := by rw [List.getD_eq_getElem?_getD, List.getElem?_eq_getElem hq]; rfl
  rw [hgp, hgq]
  have hpx : p < x.length := by rw [← o.len]; exact hp
  rcases less_total ((sortS x).getD p []) ((sortS x).getD q []) (by rw [o.apart.len p hp, o.apart.len q hq]) with e | e | e
  · exact absurd e (o.apart.apart p q hp hq (by omega))
  · exact e
  · have := o.least p q hpx hpq hq
    rw [this] at e
    cases e
theorem sort_mem (m : Nat) (x : List (List Int)) (h : Apart m x) (a : List Int) : a ∈ sortS x ↔ a ∈ x := (outer_all m x h x.length (Nat.le_refl _)).mem a
end Go.Proofs.Ytgcfgegbbfbaaaa

/- Words: the least laws, as the model finds them and told by themselves (the maths of chapter 10). -/
namespace Go.Proofs.Ytgcfgegbbfbaaaa
set_option linter.unusedVariables false
/-- No number is greater (as far as both go). -/
def partC : List Int → List Int → Bool
  | a :: s, b :: t => decide (a ≤ b) && partC s t
  | _, _ => true
def signC (cs : List Int) : Bool := cs.all fun c => decide (0 ≤ c)
/-- A law: small letters alone, the end 0. -/
def zeroC (n : Nat) (ls : List Nat) (cs : List Int) : Bool := (endW n ls cs == 0) && signC cs
def enumE (m k : Nat) : List (List Int) := (List.range k).flatMap fun L => allC m (L + 1)
theorem enum_mem (m k : Nat) (cs : List Int) : cs ∈ enumE m k ↔ cs.length = m ∧ 1 ≤ absL cs ∧ absL cs ≤ k := by
  unfold enumE
  rw [List.mem_flatMap]
  constructor
  · rintro ⟨L, hL, hc⟩
    obtain ⟨a, b⟩ := (all_mem _ _ _).1 hc
    have := List.mem_range.1 hL
    exact ⟨a, by omega, by omega⟩
  · rintro ⟨a, b, c⟩
    exact ⟨absL cs - 1, List.mem_range.2 (by omega), (all_mem _ _ _).2 ⟨a, by omega⟩⟩
/-- A law that has no other one as a part. -/
def minB (n : Nat) (ls : List Nat) (m : Nat) (cs : List Int) : Bool := zeroC n ls cs && (enumE m (absL cs)).all fun ds => !(zeroC n ls ds && partC ds cs) || ds == cs
theorem min_iff (n : Nat) (ls : List Nat) (m : Nat) (cs : List Int) : minB n ls m cs = true ↔ zeroC n ls cs = true ∧ ∀ ds : List Int, ds.length = m → 1 ≤ absL ds → absL ds ≤ absL cs → zeroC n ls ds = true → partC ds cs = true → ds = cs := by
  unfold minB
  rw [Bool.and_eq_true, List.all_eq_true]
  constructor
  · rintro ⟨a, b⟩
    refine ⟨a, fun ds p q r s t => ?_⟩
    have := b ds ((enum_mem _ _ _).2 ⟨p, q, r⟩)
    rw [s, t] at this
    simpa using this
  · rintro ⟨a, b⟩
    refine ⟨a, fun ds hd => ?_⟩
    obtain ⟨p, q, r⟩ := (enum_mem _ _ _).1 hd
    cases hz : zeroC n ls ds
    · rfl
    · cases hp : partC ds cs
      · rfl
      · rw [b ds p q r hz hp]
        simp
theorem part_refl (a : List Int) : partC a a = true := by
  induction a with
  | nil => rfl
  | cons x a ih =>
    show (decide (x ≤ x) && partC a a) = true
    rw [ih]
    simp
theorem part_trans (a b c : List Int) (h : b.length = a.length) (h1 : partC a b = true) (h2 : partC b c = true) : partC a c = true := by
  induction a generalizing b c with
  | nil => cases c <;> rfl
  | cons x a ih =>
    cases b with
    | nil => cases h
    | cons y b =>
      cases c with
      | nil => rfl
      | cons z c =>
        have h1' : (decide (x ≤ y) && partC a b) = true := h1
        have h2' : (decide (y ≤ z) && partC b c) = true := h2
        rw [Bool.and_eq_true, decide_eq_true_eq] at h1' h2'
        show (decide (x ≤ z) && partC a c) = true
        rw [Bool.and_eq_true, decide_eq_true_eq]
        exact ⟨by omega, ih b c (by simpa using h) h1'.2 h2'.2⟩
theorem part_abs (a b : List Int) (h : a.length = b.length) (hs : signC a = true) (hp : partC a b = true) : absL a ≤ absL b ∧ (absL a = absL b → a = b) := by
  induction a generalizing b with
  | nil =>
    cases b with
    | nil => exact ⟨Nat.le_refl _, fun _ => rfl⟩
    | cons y b => cases h
  | cons x a ih =>
    cases b with
    | nil => cases h
    | cons y b =>
      have hp' : (decide (x ≤ y) && partC a b) = true := hp
      have hs' : (decide (0 ≤ x) && signC a) = true := hs
      rw [Bool.and_eq_true, decide_eq_true_eq] at hp' hs'
      obtain ⟨p, q⟩ := ih b (by simpa using h) hs'.2 hp'.2
      show x.natAbs + absL a ≤ y.natAbs + absL b ∧ (x.natAbs + absL a = y.natAbs + absL b → x :: a = y :: b)
      refine ⟨by omega, fun e => ?_⟩
      rw [q (by omega), show x = y by omega]
theorem zero_sign (n : Nat) (ls : List Nat) (cs : List Int) (h : zeroC n ls cs = true) : signC cs = true := by
  unfold zeroC at h
  rw [Bool.and_eq_true] at h
  exact h.2
/-- Each law has a least one as a part. -/
theorem min_below (n : Nat) (ls : List Nat) (m : Nat) (k : Nat) : ∀ cs : List Int, absL cs ≤ k → cs.length = m → 1 ≤ absL cs → zeroC n ls cs = true → ∃ ds : List Int, ds.length = m ∧ 1 ≤ absL ds ∧ minB n ls m ds = true ∧ partC ds cs = true := by
  induction k with
  | zero => intro cs h1 h2 h3 h4; omega
  | succ k ih =>
    intro cs h1 h2 h3 h4
    by_cases hm : minB n ls m cs = true
    · exact ⟨cs, h2, h3, hm, part_refl cs⟩
    · have hx : ¬ ∀ ds : List Int, ds.length = m → 1 ≤ absL ds → absL ds ≤ absL cs → zeroC n ls ds = true → partC ds cs = true → ds = cs := fun e => hm ((min_iff _ _ _ _).2 ⟨h4, e⟩)
      simp only [Classical.not_forall] at hx
      obtain ⟨ds, a, b, c, d, e, f⟩ := hx
      have g := part_abs ds cs (by omega) (zero_sign _ _ _ d) e
      have hlt : absL ds < absL cs := by
        rcases Nat.lt_or_ge (absL ds) (absL cs) with x | x
        · exact x
        · exact absurd (g.2 (by omega)) f
      obtain ⟨es, p, q, r, s⟩ := ih ds (by omega) a b d
      exact ⟨es, p, q, r, part_trans es ds cs (by omega) s e⟩
/-- What the model does with the next counts. -/
def lawStep (n : Nat) (ls : List Nat) (laws : List (List Int)) (cs : List Int) : List (List Int) := if zeroC n ls cs && !(laws.any fun l => partC l cs) then laws ++ [cs] else laws
theorem law_fold (n : Nat) (ls : List Nat) (m : Nat) (E : List (List Int)) (hE : ∀ cs ∈ E, cs.length = m ∧ 1 ≤ absL cs) (hN : E.Nodup) (hS : E.Pairwise fun a b => absL a ≤ absL b)
    (hC : ∀ cs ∈ E, ∀ ds : List Int, ds.length = m → 1 ≤ absL ds → absL ds ≤ absL cs → ds ∈ E) : ∀ (R P : List (List Int)), E = P ++ R → R.foldl (lawStep n ls) (P.filter (minB n ls m)) = E.filter (minB n ls m) := by
  intro R
  induction R with
  | nil =>
    intro P h
    rw [h, List.append_nil]
    rfl
  | cons cs R ih =>
    intro P h
    have hmem : cs ∈ E := by rw [h]; simp
    obtain ⟨hl, h1⟩ := hE cs hmem
    rw [h] at hN hS
    rw [List.nodup_append] at hN
    rw [List.pairwise_append] at hS
    have hR : ∀ x ∈ R, absL cs ≤ absL x := (List.pairwise_cons.1 hS.2.1).1
    have hstep : lawStep n ls (P.filter (minB n ls m)) cs = (P ++ [cs]).filter (minB n ls m) := by
      rw [List.filter_append]
      unfold lawStep
      by_cases hm : minB n ls m cs = true
      · obtain ⟨hz, hu⟩ := (min_iff _ _ _ _).1 hm
        have hany : ((P.filter (minB n ls m)).any fun l => partC l cs) = false := by
          rw [List.any_eq_false]
          intro l hlm hp
          rw [List.mem_filter] at hlm
          have hlE : l ∈ E := by rw [h]; exact List.mem_append_left _ hlm.1
          obtain ⟨a, b⟩ := hE l hlE
          obtain ⟨z, _⟩ := (min_iff _ _ _ _).1 hlm.2
          have := hu l a b (part_abs l cs (by omega) (zero_sign _ _ _ z) hp).1 z hp
          exact hN.2.2 l hlm.1 cs (List.mem_cons_self ..) this
        rw [hz, hany, show [cs].filter (minB n ls m) = [cs] by simp [hm]]
        rfl
      · rw [show [cs].filter (minB n ls m) = [] by simp [hm], List.append_nil]
        by_cases hz : zeroC n ls cs = true
        · obtain ⟨ds, a, b, c, d⟩ := min_below n ls m _ cs (Nat.le_refl _) hl h1 hz
          have hz' := ((min_iff _ _ _ _).1 c).1
          have g := part_abs ds cs (by omega) (zero_sign _ _ _ hz') d
          have hne : ds ≠ cs := by
            intro e
            subst e
            exact hm c
          have hlt : absL ds < absL cs := by
            rcases Nat.lt_or_ge (absL ds) (absL cs) with x | x
            · exact x
            · exact absurd (g.2 (by omega)) hne
          have hdE := hC cs hmem ds a b (by omega)
          have hdP : ds ∈ P := by
            rw [h, List.mem_append] at hdE
            rcases hdE with e | e
            · exact e
            · rcases List.mem_cons.1 e with e | e
              · exact absurd e hne
              · have := hR ds e
                omega
          have hany : ((P.filter (minB n ls m)).any fun l => partC l cs) = true := List.any_eq_true.2 ⟨ds, List.mem_filter.2 ⟨hdP, c⟩, d⟩
          rw [hz, hany]
          rfl
        · rw [Bool.eq_false_iff.2 hz]
          rfl
    rw [List.foldl_cons, hstep]
    exact ih (P ++ [cs]) (by rw [h, List.append_assoc]; rfl)
theorem down_nodup (L : Nat) : (downL L).Nodup := by
  unfold downL
  rw [List.nodup_iff_pairwise_ne, List.pairwise_map]
  exact (List.nodup_iff_pairwise_ne.1 List.nodup_range).imp fun h e => h (by omega)
theorem flat_nodup {α β : Type} (x : List α) (f : α → List β) (hx : x.Nodup) (hf : ∀ a ∈ x, (f a).Nodup) (hd : ∀ a ∈ x, ∀ b ∈ x, a ≠ b → ∀ c, c ∈ f a → c ∈ f b → False) : (x.flatMap f).Nodup := by
  induction x with
  | nil => exact List.nodup_nil
  | cons a x ih =>
    rw [List.nodup_cons] at hx
    rw [List.flatMap_cons, List.nodup_append]
    refine ⟨hf a (List.mem_cons_self ..), ih hx.2 (fun b hb => hf b (List.mem_cons_of_mem _ hb)) (fun b hb c hc => hd b (List.mem_cons_of_mem _ hb) c (List.mem_cons_of_mem _ hc)), ?_⟩
    intro c hc d hd' e
    subst e
    obtain ⟨b, hb, hcb⟩ := List.mem_flatMap.1 hd'
    exact hd a (List.mem_cons_self ..) b (List.mem_cons_of_mem _ hb) (fun e => hx.1 (e ▸ hb)) c hc hcb
theorem all_nodup (m L : Nat) : (allC m L).Nodup := by
  induction m generalizing L with
  | zero =>
    unfold allC
    split
    · simp
    · exact List.nodup_nil
  | succ m ih =>
    unfold allC
    refine flat_nodup _ _ (down_nodup L) (fun x _ => ?_) fun x _ y _ hxy c hc hd => ?_
    · rw [List.nodup_iff_pairwise_ne, List.pairwise_map]
      exact (List.nodup_iff_pairwise_ne.1 (ih _)).imp fun h e => h (List.cons.inj e).2
    · obtain ⟨a, _, e⟩ := List.mem_map.1 hc
      obtain ⟨b, _, f⟩ := List.mem_map.1 hd
      rw [← f] at e
      exact hxy (List.cons.inj e).1
theorem enum_nodup (m k : Nat) : (enumE m k).Nodup := by
  unfold enumE
  refine flat_nodup _ _ List.nodup_range (fun L _ => all_nodup m _) fun x _ y _ hxy c hc hd => ?_
  have a := ((all_mem _ _ _).1 hc).2
  have b := ((all_mem _ _ _).1 hd).2
  omega
theorem enum_sorted (m k : Nat) : (enumE m k).Pairwise fun a b => absL a ≤ absL b := by
  induction k with
  | zero => exact List.Pairwise.nil
  | succ k ih =>
    unfold enumE at ih ⊢
    rw [List.range_succ, List.flatMap_append, List.pairwise_append]
    refine ⟨ih, ?_, ?_⟩
    · show (List.flatMap _ [k]).Pairwise _
      rw [List.flatMap_cons, List.flatMap_nil, List.append_nil]
      rw [List.pairwise_iff_getElem]
      intro i j hi hj _
      have a := ((all_mem _ _ _).1 (List.getElem_mem hi)).2
      have b := ((all_mem _ _ _).1 (List.getElem_mem hj)).2
      omega
    · intro a ha b hb
      obtain ⟨_, _, x⟩ := (enum_mem m k a).1 ha
      rw [List.flatMap_cons, List.flatMap_nil, List.append_nil] at hb
      have y := ((all_mem _ _ _).1 hb).2
      omega
/-- Counts of small letters alone, at most k, in ascending order. -/
def lexC : Nat → Nat → List (List Int)
  | 0, _ => [[]]
  | m + 1, k => (List.range (k + 1)).flatMap fun x => (lexC m (k - x)).map (((x : Nat) : Int) :: ·)
theorem lex_mem (m k : Nat) (cs : List Int) : cs ∈ lexC m k ↔ cs.length = m ∧ signC cs = true ∧ absL cs ≤ k := by
  induction m generalizing k cs with
  | zero =>
    unfold lexC
    rw [List.mem_singleton]
    constructor
    · rintro rfl
      exact ⟨rfl, rfl, Nat.zero_le _⟩
    · exact fun h => List.eq_nil_of_length_eq_zero h.1
  | succ m ih =>
    unfold lexC
    rw [List.mem_flatMap]
    constructor
    · rintro ⟨x, hx, hc⟩
      obtain ⟨ds, hd, e⟩ := List.mem_map.1 hc
      obtain ⟨a, b, c⟩ := (ih _ ds).1 hd
      have := List.mem_range.1 hx
      subst e
      refine ⟨by simp [a], ?_, ?_⟩
      · show (decide ((0 : Int) ≤ ((x : Nat) : Int)) && signC ds) = true
        rw [b, Bool.and_true, decide_eq_true_eq]
        omega
      · show ((x : Nat) : Int).natAbs + absL ds ≤ k
        omega
    · rintro ⟨a, b, c⟩
      cases cs with
      | nil => cases a
      | cons y cs =>
        have c' : y.natAbs + absL cs ≤ k := c
        have b' : (decide (0 ≤ y) && signC cs) = true := b
        rw [Bool.and_eq_true, decide_eq_true_eq] at b'
        refine ⟨y.natAbs, List.mem_range.2 (by omega), List.mem_map.2 ⟨cs, (ih _ cs).2 ⟨by simpa using a, b'.2, by omega⟩, ?_⟩⟩
        show ((y.natAbs : Nat) : Int) :: cs = y :: cs
        rw [show ((y.natAbs : Nat) : Int) = y by omega]
theorem lex_sorted (m k : Nat) : (lexC m k).Pairwise fun a b => lessC a b = true := by
  induction m generalizing k with
  | zero => exact List.pairwise_singleton _ _
  | succ m ih =>
    unfold lexC
    rw [List.pairwise_flatMap]
    refine ⟨fun x _ => ?_, ?_⟩
    · rw [List.pairwise_map]
      exact (ih _).imp fun h => (lessC_cons _ _ _ _).2 (.inr ⟨rfl, h⟩)
    · refine List.pairwise_lt_range.imp fun {x y} h a ha b hb => ?_
      obtain ⟨s, _, e⟩ := List.mem_map.1 ha
      obtain ⟨t, _, f⟩ := List.mem_map.1 hb
      rw [← e, ← f]
      exact (lessC_cons _ _ _ _).2 (.inl (by omega))
/-- The laws of letters, at most k letters each, in order. -/
def lawsN (n : Nat) (ls : List Nat) (k : Nat) : List (List Int) := (lexC ls.length k).filter fun cs => decide (1 ≤ absL cs) && minB n ls ls.length cs
theorem laws_mem (n : Nat) (ls : List Nat) (k : Nat) (cs : List Int) : cs ∈ lawsN n ls k ↔ cs.length = ls.length ∧ 1 ≤ absL cs ∧ absL cs ≤ k ∧ minB n ls ls.length cs = true := by
  unfold lawsN
  rw [List.mem_filter, lex_mem, Bool.and_eq_true, decide_eq_true_eq]
  constructor
  · rintro ⟨⟨a, b, c⟩, d, e⟩
    exact ⟨a, d, c, e⟩
  · rintro ⟨a, b, c, d⟩
    exact ⟨⟨a, zero_sign _ _ _ ((min_iff _ _ _ _).1 d).1, c⟩, b, d⟩
theorem enum_fold (n : Nat) (ls : List Nat) (k : Nat) : (enumE ls.length k).foldl (lawStep n ls) [] = (enumE ls.length k).filter (minB n ls ls.length) :=
  law_fold n ls ls.length (enumE ls.length k) (fun cs h => ⟨((enum_mem _ _ _).1 h).1, ((enum_mem _ _ _).1 h).2.1⟩) (enum_nodup _ _) (enum_sorted _ _)
    (fun cs h ds a b c => (enum_mem _ _ _).2 ⟨a, b, Nat.le_trans c ((enum_mem _ _ _).1 h).2.2⟩) _ [] rfl
theorem apart_of (m : Nat) (x : List (List Int)) (h : x.Nodup) (hl : ∀ a ∈ x, a.length = m) : Apart m x := by
  constructor
  · intro p q hp hq hpq e
    have hgp : x.getD p [] = x[p] := by rw [List.getD_eq_getElem?_getD, List.getElem?_eq_getElem hp]; rfl
    have hgq : x.getD q [] = x[q] := by rw [List.getD_eq_getElem?_getD, List.getElem?_eq_getElem hq]; rfl
    rw [hgp, hgq] at e
    have hP := List.pairwise_iff_getElem.1 (List.nodup_iff_pairwise_ne.1 h)
    rcases Nat.lt_or_ge p q with f | f
    · exact hP p q hp hq f e
    · exact hP q p hq hp (by omega) e.symm
  · intro p hp
    exact hl _ ((mem_getD x _).2 ⟨p, hp, rfl⟩)
/-- The model's laws, sorted by swaps, are these. -/
theorem laws_sort (n : Nat) (ls : List Nat) (k : Nat) : sortS ((enumE ls.length k).foldl (lawStep n ls) []) = lawsN n ls k := by
  rw [enum_fold]
  have hA : Apart ls.length ((enumE ls.length k).filter (minB n ls ls.length)) :=
    apart_of _ _ ((enum_nodup _ _).filter _) fun a ha => ((enum_mem _ _ _).1 (List.mem_filter.1 ha).1).1
  refine sorted_eq _ _ (sort_sorted _ _ hA) ((lex_sorted _ _).filter _) fun a => ?_
  rw [sort_mem _ _ hA, laws_mem, List.mem_filter, enum_mem]
  constructor
  · rintro ⟨⟨a, b, c⟩, d⟩
    exact ⟨a, b, c, d⟩
  · rintro ⟨a, b, c, d⟩
    exact ⟨⟨a, b, c⟩, d⟩
/-- One letter: one law at most. -/
theorem laws_one (n : Nat) (ls : List Nat) (k : Nat) (h : ls.length ≤ 1) : (lawsN n ls k).length ≤ 1 := by
  have key : ∀ a ∈ lawsN n ls k, ∀ b ∈ lawsN n ls k, absL a ≤ absL b → a = b := by
    intro a ha b hb hab
    obtain ⟨a1, a2, a3, a4⟩ := (laws_mem _ _ _ _).1 ha
    obtain ⟨b1, b2, b3, b4⟩ := (laws_mem _ _ _ _).1 hb
    have za := ((min_iff _ _ _ _).1 a4).1
    have zb := (min_iff _ _ _ _).1 b4
    refine zb.2 a a1 a2 hab za ?_
    match a, b, a1, b1 with
    | [], _, _, _ => rfl
    | _ :: _, [], _, _ => rfl
    | [x], [y], _, _ =>
      have sa := zero_sign _ _ _ za
      have sb := zero_sign _ _ _ zb.1
      have hx : 0 ≤ x := by simpa [signC] using sa
      have hy : 0 ≤ y := by simpa [signC] using sb
      have hab' : x.natAbs + 0 ≤ y.natAbs + 0 := hab
      show (decide (x ≤ y) && true) = true
      rw [Bool.and_true, decide_eq_true_eq]
      omega
    | _ :: _ :: _, _ :: _, e, _ => simp at e; omega
    | [_], _ :: _ :: _, _, e => simp at e; omega
  have hs : (lawsN n ls k).Pairwise fun a b => lessC a b = true := (lex_sorted _ _).filter _
  match hx : lawsN n ls k with
  | [] => exact Nat.zero_le _
  | [_] => exact Nat.le_refl _
  | a :: b :: r =>
    rw [hx] at hs key
    have hl := (List.pairwise_cons.1 hs).1 b (List.mem_cons_self ..)
    have ha := List.mem_cons_self (a := a) (l := b :: r)
    have hb : b ∈ a :: b :: r := List.mem_cons_of_mem _ (List.mem_cons_self ..)
    have e : a = b := by
      rcases Nat.le_total (absL a) (absL b) with f | f
      · exact key a ha b hb f
      · exact (key b hb a ha f).symm
    rw [e, less_irrefl] at hl
    cases hl
end Go.Proofs.Ytgcfgegbbfbaaaa

/- Words: the model compares counts. -/
namespace Go.Proofs.Ytgcfgegbbfbaaaa
open Go.RowKit Go.Shelf
set_option linter.unusedVariables false
theorem part_yes (a b : List Int) (h : ∀ k, k < a.length → k < b.length → a.getD k 0 ≤ b.getD k 0) : partC a b = true := by
  induction a generalizing b with
  | nil => cases b <;> rfl
  | cons x a ih =>
    cases b with
    | nil => rfl
    | cons y b =>
      have h0 := h 0 (by simp) (by simp)
      have h0' : x ≤ y := h0
      show (decide (x ≤ y) && partC a b) = true
      rw [decide_eq_true h0', ih b (fun k h1 h2 => h (k + 1) (by simpa using h1) (by simpa using h2))]
      rfl
theorem part_no (a b : List Int) (k : Nat) (ha : k < a.length) (hb : k < b.length) (h : b.getD k 0 < a.getD k 0) : partC a b = false := by
  induction a generalizing b k with
  | nil => exact absurd ha (Nat.not_lt_zero _)
  | cons x a ih =>
    cases b with
    | nil => exact absurd hb (Nat.not_lt_zero _)
    | cons y b =>
      show (decide (x ≤ y) && partC a b) = false
      cases k with
      | zero =>
        have h' : y < x := h
        rw [decide_eq_false (by omega)]; rfl
      | succ k => rw [ih b k (by simpa using ha) (by simpa using hb) h, Bool.and_false]
theorem less_at (a b : List Int) (k : Nat) (ha : k < a.length) (hb : k < b.length) (he : ∀ j, j < k → a.getD j 0 = b.getD j 0) (h : a.getD k 0 ≠ b.getD k 0) : lessC a b = decide (a.getD k 0 < b.getD k 0) := by
  induction a generalizing b k with
  | nil => exact absurd ha (Nat.not_lt_zero _)
  | cons x a ih =>
    cases b with
    | nil => exact absurd hb (Nat.not_lt_zero _)
    | cons y b =>
      show (if x ≠ y then decide (x < y) else lessC a b) = _
      cases k with
      | zero =>
        have h' : x ≠ y := h
        rw [if_pos h']; rfl
      | succ k =>
        have h' : x = y := he 0 (by omega)
        rw [if_neg (fun e => e h')]
        exact ih b k (by simpa using ha) (by simpa using hb) (fun j hj => he (j + 1) (by omega)) h
theorem less_same (a b : List Int) (he : ∀ j, j < a.length → j < b.length → a.getD j 0 = b.getD j 0) : lessC a b = false := by
  induction a generalizing b with
  | nil => cases b <;> rfl
  | cons x a ih =>
    cases b with
    | nil => rfl
    | cons y b =>
      show (if x ≠ y then decide (x < y) else lessC a b) = _
      have h' : x = y := he 0 (by simp) (by simp)
      rw [if_neg (fun e => e h')]
      exact ih b (fun j h1 h2 => he (j + 1) (by simpa using h1) (by simpa using h2))
set_option maxHeartbeats 1000000 in
theorem l10Part_any (av bv : Value) (xs ys : List Int) (b c : Nat) (w : World) (h3 : xs.length ≤ 3) (hlen : ys.length = xs.length) (hI : IsInts w b av xs) (hJ : IsInts w c bv ys) :
    Calls Try.prog 40 #[av, bv] w fun e w' => e = .returned (.bool (partC xs ys)) ∧ Below w.heap.size w w' := by
  obtain ⟨aa, ac, rfl⟩ := ints_slice hI
  obtain ⟨ba, bc, rfl⟩ := ints_slice hJ
  have HY : Hid ((∀ k, k < xs.length → xs.getD k 0 ≤ ys.getD k 0) → partC xs ys = true) := Lib.hid (fun h => part_yes xs ys (fun k h1 _ => h k h1))
  have HN : Hid (∀ k, k < xs.length → ys.getD k 0 < xs.getD k 0 → partC xs ys = false) := Lib.hid (fun k hk h => part_no xs ys k hk (by omega) h)
  have HI := Lib.hid hI
  have HJ := Lib.hid hJ
  have HL := Lib.hid hlen
  clear hI hJ
  generalize partC xs ys = P at *
  go_enter Try.func40, Try.ntmps40
  go_wp2
  go_loopw [5] (fun u wr => ∃ k : Nat, k ≤ xs.length ∧ u = .int .i64 (k : Int) ∧ Hid (∀ j, j < k → xs.getD j 0 ≤ ys.getD j 0) ∧ Hid (Below w.heap.size w wr)) (fun u _ => xs.length - (intOf u).toNat)
  case atStart => exact ⟨0, Nat.zero_le _, rfl, Lib.hid (fun j hj => absurd hj (Nat.not_lt_zero _)), Lib.hid (Below.refl _ _)⟩
  case round =>
    obtain ⟨k, hk, rfl, HA, HB⟩ := hrel
    by_cases hlt : k < xs.length
    · have hIw := HI.out.belowAll HB.out
      have hJw := HJ.out.belowAll HB.out
      obtain ⟨g, rfl⟩ : ∃ g, aa = some ⟨g, 0, none⟩ := by
        rcases hIw.shape with ⟨e, e2⟩ | ⟨g, cap2, e, _⟩
        · rw [e2] at hlt; exact absurd hlt (Nat.not_lt_zero _)
        · injection e with e1; exact ⟨g, e1⟩
      obtain ⟨g2, rfl⟩ : ∃ g, ba = some ⟨g, 0, none⟩ := by
        rcases hJw.shape with ⟨e, e2⟩ | ⟨g, cap2, e, _⟩
        · rw [e2] at hlen; simp at hlen; omega
        · injection e with e1; exact ⟨g, e1⟩
      have c1 := hIw.cell (i := k) hlt
      have c2 := hJw.cell (i := k) (by omega)
      have HA2 : Hid (xs.getD k 0 ≤ ys.getD k 0 → ∀ j, j < k + 1 → xs.getD j 0 ≤ ys.getD j 0) := Lib.hid (fun h j hj => by
        by_cases e : j = k
        · rw [e]; exact h
        · exact HA.out j (by omega))
      have HNk := Lib.hid (HN.out k hlt)
      have i1 : (0 : Int) ≤ (k : Int) := by omega
      have i2 : (k : Int) < (xs.length : Int) := by omega
      have i3 : (k : Int) < (ys.length : Int) := by omega
      have i4 : k < ys.length := by omega
      clear hIw hJw hlen
      generalize xs.getD k 0 = x at *
      generalize ys.getD k 0 = y at *
      by_cases hxy : y < x
      · have HNo := Lib.hid (HNk.out hxy)
        have k1 : x > y := hxy
        clear HNk HA2
        clear HY HN
        go_wp2
        try go_region
        try go_wp2
        go_ret
        exact ⟨by rw [HNo.out]; rfl, by first | exact HB.out | exact HB.out.drew⟩
      · have HAk := Lib.hid (HA2.out (by omega))
        have k1 : ¬ x > y := hxy
        clear HNk HA2
        go_wp2
        try go_region
        try go_wp2
        go_roundw
        case rel => exact ⟨k + 1, by omega, by go_num, HAk, Lib.hid (by first | exact HB.out | exact HB.out.drew)⟩
        case measure => simp [intOf]; omega
    · obtain rfl : k = xs.length := by omega
      have HP := Lib.hid (HY.out HA.out)
      clear hlt hk HY HN
      go_wp2
      go_ret
      exact ⟨by rw [HP.out]; rfl, HB.out⟩
set_option maxHeartbeats 1000000 in
theorem l10Less_any (av bv : Value) (xs ys : List Int) (b c : Nat) (w : World) (h3 : xs.length ≤ 3) (hlen : ys.length = xs.length) (hI : IsInts w b av xs) (hJ : IsInts w c bv ys) :
    Calls Try.prog 41 #[av, bv] w fun e w' => e = .returned (.bool (lessC xs ys)) ∧ Below w.heap.size w w' := by
  obtain ⟨aa, ac, rfl⟩ := ints_slice hI
  obtain ⟨ba, bc, rfl⟩ := ints_slice hJ
  have HY : Hid ((∀ k, k < xs.length → xs.getD k 0 = ys.getD k 0) → lessC xs ys = false) := Lib.hid (fun h => less_same xs ys (fun k h1 _ => h k h1))
  have HN : Hid (∀ k, k < xs.length → (∀ j, j < k → xs.getD j 0 = ys.getD j 0) → xs.getD k 0 ≠ ys.getD k 0 → lessC xs ys = decide (xs.getD k 0 < ys.getD k 0)) := Lib.hid (fun k hk h1 h => less_at xs ys k hk (by omega) h1 h)
  have HI := Lib.hid hI
  have HJ := Lib.hid hJ
  have HL := Lib.hid hlen
  clear hI hJ
  generalize lessC xs ys = P at *
  go_enter Try.func41, Try.ntmps41
  go_wp2
  go_loopw [5] (fun u wr => ∃ k : Nat, k ≤ xs.length ∧ u = .int .i64 (k : Int) ∧ Hid (∀ j, j < k → xs.getD j 0 = ys.getD j 0) ∧ Hid (Below w.heap.size w wr)) (fun u _ => xs.length - (intOf u).toNat)
  case atStart => exact ⟨0, Nat.zero_le _, rfl, Lib.hid (fun j hj => absurd hj (Nat.not_lt_zero _)), Lib.hid (Below.refl _ _)⟩
  case round =>
    obtain ⟨k, hk, rfl, HA, HB⟩ := hrel
    by_cases hlt : k < xs.length
    · have hIw := HI.out.belowAll HB.out
      have hJw := HJ.out.belowAll HB.out
      obtain ⟨g, rfl⟩ : ∃ g, aa = some ⟨g, 0, none⟩ := by
        rcases hIw.shape with ⟨e, e2⟩ | ⟨g, cap2, e, _⟩
        · rw [e2] at hlt; exact absurd hlt (Nat.not_lt_zero _)
        · injection e with e1; exact ⟨g, e1⟩
      obtain ⟨g2, rfl⟩ : ∃ g, ba = some ⟨g, 0, none⟩ := by
        rcases hJw.shape with ⟨e, e2⟩ | ⟨g, cap2, e, _⟩
        · rw [e2] at hlen; simp at hlen; omega
        · injection e with e1; exact ⟨g, e1⟩
      have c1 := hIw.cell (i := k) hlt
      have c2 := hJw.cell (i := k) (by omega)
      have HA2 : Hid (xs.getD k 0 = ys.getD k 0 → ∀ j, j < k + 1 → xs.getD j 0 = ys.getD j 0) := Lib.hid (fun h j hj => by
        by_cases e : j = k
        · rw [e]; exact h
        · exact HA.out j (by omega))
      have HNk := Lib.hid (HN.out k hlt HA.out)
      have i1 : (0 : Int) ≤ (k : Int) := by omega
      have i2 : (k : Int) < (xs.length : Int) := by omega
      have i3 : (k : Int) < (ys.length : Int) := by omega
      have i4 : k < ys.length := by omega
      clear hIw hJw hlen
      generalize xs.getD k 0 = x at *
      generalize ys.getD k 0 = y at *
      by_cases hxy : x = y
      · have HAk := Lib.hid (HA2.out hxy)
        subst hxy
        have k1 : (x == x) = true := by simp
        have k2 : (x != x) = false := by simp
        clear HNk HA2
        go_wp2
        try go_region
        try go_wp2
        go_roundw
        case rel => exact ⟨k + 1, by omega, by go_num, HAk, Lib.hid (by first | exact HB.out | exact HB.out.drew)⟩
        case measure => simp [intOf]; omega
      · have HNo := Lib.hid (HNk.out hxy)
        have k1 : (x == y) = false := by simp [hxy]
        have k2 : (x != y) = true := by simp [hxy]
        clear HNk HA2
        clear HY HN
        by_cases hd : x < y
        · have HD := Lib.hid (HNo.out.trans (decide_eq_true hd))
          have d1 : decide (x < y) = true := decide_eq_true hd
          go_wp2
          try go_region
          try go_wp2
          try go_region
          try go_wp2
          go_ret
          exact ⟨by rw [HD.out]; rfl, by first | exact HB.out | exact HB.out.drew | exact HB.out.drew.drew⟩
        · have HD := Lib.hid (HNo.out.trans (decide_eq_false hd))
          have d1 : decide (x < y) = false := decide_eq_false hd
          go_wp2
          try go_region
          try go_wp2
          try go_region
          try go_wp2
          go_ret
          exact ⟨by rw [HD.out]; rfl, by first | exact HB.out | exact HB.out.drew | exact HB.out.drew.drew⟩
    · obtain rfl : k = xs.length := by omega
      have HP := Lib.hid (HY.out HA.out)
      clear hlt hk HY HN
      go_wp2
      go_ret
      exact ⟨by rw [HP.out]; rfl, HB.out⟩
end Go.Proofs.Ytgcfgegbbfbaaaa

/- Words: lists of texts in memory, rows put in place, the model's search for laws as a fold. -/
namespace Go.Proofs.Ytgcfgegbbfbaaaa
open Go.RowKit Go.Shelf
set_option linter.unusedVariables false
/-- v reads as a list of texts, in memory from block N on. -/
def IsStrs (W : World) (N : Nat) (v : Value) (ss : List ByteArray) : Prop := W.ownsRow N 9 1 v ss.length (ss.map Value.string)
theorem Try.infoStr : (Try.prog.info? 9).map (fun i => (i.zero, i.size, i.bytes)) = some (some (.string ⟨#[]⟩), 1, 16) := by kernel_rfl
theorem nil_strs (w : World) (N : Nat) (h : N ≤ w.heap.size) : IsStrs (w.alloc (.cells #[] 9)) N (.slice (some ⟨w.heap.size, 0, none⟩) 0 0) [] := World.ownsRow_made w #[] 0 h (by simp [maxLen]) rfl
theorem strs_below {W W' : World} {b : Nat} {v : Value} {ss : List ByteArray} (h : IsStrs W b v ss) {N : Nat} (hN : ∀ g, v.ownBlock = some g → g < N) (hb : Below N W W') : IsStrs W' b v ss := by
  refine ⟨h.1, ?_⟩
  rcases h.2 with hn | ⟨g, cap, cur, rfl, h1, hgg, rest⟩
  · exact .inl hn
  · exact .inr ⟨g, cap, cur, rfl, h1, (hb.block g (hN g rfl)).trans hgg, rest⟩
theorem strs_belowAll {W W' : World} {b : Nat} {v : Value} {ss : List ByteArray} (h : IsStrs W b v ss) (hb : Below W.heap.size W W') : IsStrs W' b v ss :=
  strs_below h (fun g hg => (World.ownsRow.lt h g hg).2) hb
theorem own_apartW {W : World} {N N' k k' : Nat} {e e' : TypeId} {u v : Value} {xs ys : List Value} (h : W.ownsRow N e 1 u k xs) (h2 : W.ownsRow N' e' 1 v k' ys) (he : e ≠ e') : u.ownBlock = none ∨ u.ownBlock ≠ v.ownBlock := by
  rcases h.2 with ⟨rfl, _⟩ | ⟨g1, cap, cur, rfl, _, hg, _⟩
  · exact .inl rfl
  · refine .inr fun eq => ?_
    rcases h2.2 with ⟨rfl, _⟩ | ⟨g2, cap2, cur2, rfl, _, hg2, _⟩
    · cases eq
    · have e1 : g1 = g2 := by injection eq
      subst e1
      rw [hg] at hg2
      injection hg2 with hg2
      injection hg2 with _ h5 _
      exact he h5
/-- A list of texts has grown: the rows of counts stay. -/
theorem Cts.keptS {W W' : World} {N M k : Nat} {u A : Value} {vs xs : List Value} {css : List (List Int)} (h : Cts W N u vs css) (hg : W.grownBy W' A.ownBlock) (hA : W.ownsRow M 9 1 A k xs) : Cts W' N u vs css := by
  refine ⟨World.ownsRow.kept h.own hg (own_apartW h.own hA (by decide)), fun i hi => ?_⟩
  obtain ⟨g, c, h1, h2⟩ := h.row i hi
  exact ⟨g, c, h1, World.ownsRow.kept h2 hg (own_apartW h2 hA (by decide))⟩
theorem wp_append_text {o : Oper} {act : Act} {K : Act → World → Prop} {Q : Exit → Act → World → Prop} (s x : Operand) (ho : o.op = .call { callee := .builtin .append, args := #[s, x], argTypes := #[33, 33] })
    (A : Value) (ss : List ByteArray) (r : ByteArray) (W : World) (N : Nat) (hs : act.eval s = A) (hx : act.eval x = .slice (some ⟨W.heap.size, 0, none⟩) 1 1) (hO : IsStrs W N A ss) (hl : ss.length ≤ 100000) (hN : N ≤ W.heap.size)
    (h : ∀ (A' : Value) (w1 : World), IsStrs w1 N A' (ss ++ [r]) → (∀ (R : Value) (vr : List Value) (crs : List (List Int)) (N' : Nat), Cts W N' R vr crs → Cts w1 N' R vr crs) →
      (∀ (B : Nat) (w0 : World), B ≤ N → Below B w0 W → Below B w0 w1) → K (act.put o.dst A') w1) : o.wp Try.prog act (W.alloc (.cells #[.string r] 9)) K Q := by
  obtain ⟨i0, hi, hz0, hz1, hz2⟩ := info_parts Try.infoStr
  have hb0 : Below W.heap.size W (W.alloc (.cells #[.string r] 9)) := (Below.refl _ _).alloc (Nat.le_refl _) _
  have hO2 : (W.alloc (.cells #[.string r] 9)).ownsRow N 9 1 A ss.length (ss.map Value.string) := World.ownsRow.alloc hO _
  have hc2 : ∀ u ∈ [Value.string r], u.oneCell' = true := by intro u hu; simp at hu; subst hu; rfl
  have hc3 : ss.length + 1 ≤ maxLen := by unfold maxLen; omega
  have hc4 : N ≤ (W.alloc (.cells #[.string r] 9)).heap.size := by simp; omega
  have hbs : ∀ k, A.ownBlock = some k → N ≤ k := fun k hk => (World.ownsRow.lt hO k hk).1
  refine wp_append_own (W.alloc (.cells #[.string r] 9)) s x 33 ho N 9 i0 (.string ⟨#[]⟩) 1 16 Try.underlying33 hi hz0 hz1 hz2 rfl (by decide) A ss.length _ hs hO2 ⟨W.heap.size, 0, none⟩ 1 1 [.string r] hx rfl (cell_one_new _ _ _) hc2 hc3 (by omega) hc4 fun v' w1 hown' hgrow hiff => ?_
  refine h v' w1 ?_ (fun R vr crs N' hR => (hR.below hb0).keptS hgrow hO2) (fun B w0 hB hb => (hb.alloc (Nat.le_trans hB hN) _).grown hgrow (by simp; omega) (fun k hk => Nat.le_trans hB (hbs k hk)))
  unfold IsStrs
  rw [List.length_append, List.map_append]
  exact hown'
/-- A row put in another's place. -/
theorem Cts.put {W : World} {N g cap len g' c i : Nat} {vs : List Value} {css : List (List Int)} {cs : List Int} (h : Cts W N (.slice (some ⟨g, 0, none⟩) len cap) vs css) (hl : css.length = len) (hi : i < len) (hI : IsInts W N (.slice (some ⟨g', 0, none⟩) cs.length c) cs) :
    Cts (W.setCell ⟨g, i, none⟩ (.slice (some ⟨g', 0, none⟩) cs.length c)) N (.slice (some ⟨g, 0, none⟩) len cap) (vs.set i (.slice (some ⟨g', 0, none⟩) cs.length c)) (css.set i cs) := by
  subst hl
  have hv := h.len
  have keep : ∀ g2 c2 (ys : List Int), IsInts W N (.slice (some ⟨g2, 0, none⟩) ys.length c2) ys → IsInts (W.setCell ⟨g, i, none⟩ (.slice (some ⟨g', 0, none⟩) cs.length c)) N (.slice (some ⟨g2, 0, none⟩) ys.length c2) ys := fun g2 c2 ys hy =>
    hy.aside (fun e => rows_apartW h.own hy (by rw [e]; rfl)) i _
  refine ⟨?_, fun j hj => ?_⟩
  · rw [List.length_set]
    exact (World.ownsRow.stored h.own i _).1
  · rw [List.length_set] at hj
    by_cases e : j = i
    · subst e
      have e1 : (css.set j cs).getD j [] = cs := by rw [List.getD_eq_getElem?_getD, List.getElem?_set_self hj]; rfl
      rw [e1]
      exact ⟨g', c, by rw [List.getElem?_set_self (by omega)], keep _ _ _ hI⟩
    · have e1 : (css.set i cs).getD j [] = css.getD j [] := by rw [List.getD_eq_getElem?_getD, List.getD_eq_getElem?_getD, List.getElem?_set_ne (fun h => e h.symm)]
      obtain ⟨g1, c1, h1, h2⟩ := h.row j hj
      rw [e1]
      exact ⟨g1, c1, by rw [List.getElem?_set_ne (fun h => e h.symm)]; exact h1, keep _ _ _ h2⟩
/-- The laws found among the lengths up to L and the first i of the next. -/
def foldC (n : Nat) (ls : List Nat) (m L i : Nat) : List (List Int) := (enumE m L ++ (allC m (L + 1)).take i).foldl (lawStep n ls) []
theorem enum_succ (m L : Nat) : enumE m (L + 1) = enumE m L ++ allC m (L + 1) := by
  unfold enumE
  rw [List.range_succ, List.flatMap_append]
  simp
theorem fold_next (n : Nat) (ls : List Nat) (m L i : Nat) (hi : i < (allC m (L + 1)).length) : foldC n ls m L (i + 1) = lawStep n ls (foldC n ls m L i) ((allC m (L + 1)).getD i []) := by
  unfold foldC
  rw [List.take_add_one, List.getElem?_eq_getElem hi, ← List.append_assoc, List.foldl_append, List.getD_eq_getElem?_getD, List.getElem?_eq_getElem hi]
  rfl
theorem fold_full (n : Nat) (ls : List Nat) (m L : Nat) : foldC n ls m L (allC m (L + 1)).length = foldC n ls m (L + 1) 0 := by
  unfold foldC
  rw [List.take_length, enum_succ m L, List.take_zero, List.append_nil]
theorem step_sub (n : Nat) (ls : List Nat) (E : List (List Int)) (acc : List (List Int)) : (E.foldl (lawStep n ls) acc).length ≤ acc.length + E.length ∧ ∀ cs ∈ E.foldl (lawStep n ls) acc, cs ∈ acc ∨ cs ∈ E := by
  induction E generalizing acc with
  | nil => exact ⟨Nat.le_refl _, fun cs h => .inl h⟩
  | cons c E ih =>
    obtain ⟨a, b⟩ := ih (lawStep n ls acc c)
    have hl : (lawStep n ls acc c).length ≤ acc.length + 1 ∧ ∀ cs ∈ lawStep n ls acc c, cs ∈ acc ∨ cs = c := by
      unfold lawStep
      split
      · refine ⟨by simp, fun cs h => ?_⟩
        rcases List.mem_append.1 h with h | h
        · exact .inl h
        · exact .inr (List.mem_singleton.1 h)
      · exact ⟨by omega, fun cs h => .inl h⟩
    refine ⟨by rw [List.foldl_cons, List.length_cons]; omega, fun cs h => ?_⟩
    rcases b cs h with h | h
    · rcases hl.2 cs h with h | h
      · exact .inl h
      · exact .inr (by rw [h]; exact List.mem_cons_self ..)
    · exact .inr (List.mem_cons_of_mem _ h)
theorem enum_len (m : Nat) (hm : m ≤ 3) (L : Nat) (hL : L ≤ 12) : (enumE m L).length ≤ 1000 * L := by
  induction L with
  | zero => exact Nat.le_refl _
  | succ L ih =>
    have := ih (by omega)
    have := all_few m hm (L + 1) hL
    rw [enum_succ, List.length_append]
    omega
theorem fold_facts (n : Nat) (ls : List Nat) (m L i : Nat) (hm : m ≤ 3) (hL : L ≤ 6) : (foldC n ls m L i).length ≤ 7000 ∧ ∀ cs ∈ foldC n ls m L i, cs.length = m ∧ absL cs ≤ 7 := by
  obtain ⟨a, b⟩ := step_sub n ls (enumE m L ++ (allC m (L + 1)).take i) []
  have h1 := enum_len m hm L (by omega)
  have h2 := all_few m hm (L + 1) (by omega)
  refine ⟨?_, fun cs h => ?_⟩
  · unfold foldC
    rw [List.length_append] at a
    have h3 : ((allC m (L + 1)).take i).length ≤ (allC m (L + 1)).length := by rw [List.length_take]; omega
    have h4 : ([] : List (List Int)).length = 0 := rfl
    omega
  · rcases b cs h with h | h
    · cases h
    · rcases List.mem_append.1 h with h | h
      · have := (enum_mem m L cs).1 h
        exact ⟨this.1, by omega⟩
      · have := (all_mem m (L + 1) cs).1 (List.mem_of_mem_take h)
        exact ⟨this.1, by omega⟩
/-- The test of one row, so far. -/
def testA (e : Bool) (cr : List Int) (j : Nat) : Bool := e && (List.range j).all fun i => decide (0 ≤ cr.getD i 0)
def testB (e : Bool) (laws : List (List Int)) (cr : List Int) (j : Nat) : Bool := e && (List.range j).all fun i => !partC (laws.getD i []) cr
theorem testA_zero (e : Bool) (cr : List Int) : testA e cr 0 = e := by unfold testA; simp
theorem testB_zero (e : Bool) (laws : List (List Int)) (cr : List Int) : testB e laws cr 0 = e := by unfold testB; simp
theorem testA_succ (e : Bool) (cr : List Int) (j : Nat) : testA e cr (j + 1) = (testA e cr j && decide (0 ≤ cr.getD j 0)) := by
  unfold testA
  rw [List.range_succ, List.all_append, Bool.and_assoc]
  simp
theorem testB_succ (e : Bool) (laws : List (List Int)) (cr : List Int) (j : Nat) : testB e laws cr (j + 1) = (testB e laws cr j && !partC (laws.getD j []) cr) := by
  unfold testB
  rw [List.range_succ, List.all_append, Bool.and_assoc]
  simp
theorem all_rangeI (cr : List Int) (p : Int → Bool) : ((List.range cr.length).all fun i => p (cr.getD i 0)) = cr.all p := by
  rw [Bool.eq_iff_iff, List.all_eq_true, List.all_eq_true]
  constructor
  · intro h x hx
    obtain ⟨i, hi, e⟩ := mem_getI cr x hx
    have := h i (List.mem_range.2 hi)
    rwa [e] at this
  · intro h i hi
    exact h _ (getD_memI cr i (List.mem_range.1 hi))
theorem any_rangeC (laws : List (List Int)) (p : List Int → Bool) : ((List.range laws.length).all fun i => !p (laws.getD i [])) = !(laws.any p) := by
  rw [Bool.eq_iff_iff, List.all_eq_true, Bool.not_eq_true', List.any_eq_false]
  constructor
  · intro h x hx
    obtain ⟨i, hi, e⟩ := (mem_getD laws x).1 hx
    have := h i (List.mem_range.2 hi)
    rw [e] at this
    simpa using this
  · intro h i hi
    have := h _ ((mem_getD laws _).2 ⟨i, List.mem_range.1 hi, rfl⟩)
    simpa using this
theorem testA_end (n : Nat) (ls : List Nat) (cr : List Int) : testA (endW n ls cr == 0) cr cr.length = zeroC n ls cr := by
  unfold testA zeroC signC
  rw [all_rangeI cr (fun c => decide (0 ≤ c))]
theorem testB_end (n : Nat) (ls : List Nat) (laws : List (List Int)) (cr : List Int) : lawStep n ls laws cr = if testB (zeroC n ls cr) laws cr laws.length then laws ++ [cr] else laws := by
  unfold testB lawStep
  rw [any_rangeC laws (fun l => partC l cr)]
end Go.Proofs.Ytgcfgegbbfbaaaa
