/- Rows, the program's side: the order in which choices come, what loops over them make, and the most parts by least choices alone. -/
import Derived.Test.YtkdgbnjpjkhopaaZerS
import Derived.Test.YtkdgbnjpjkhopaaGJ
namespace Go.Proofs.Ytkdgbnjpjkhopaa
set_option linter.unusedVariables false
/-- The values of a row at the positions of c below k. -/
def atC (xs : List Int) (c : Nat) : Nat → List Int
  | 0 => []
  | k + 1 => if c.testBit k then atC xs c k ++ [xs.getD k 0] else atC xs c k
/-- The choices that begin with hi (its values being T), of the first o positions, as the search yields them. -/
def chO (xs : List Int) : Nat → Nat → List Int → List (Nat × List Int)
  | 0, hi, T => [(hi, T)]
  | o + 1, hi, T => chO xs o hi T ++ chO xs o (hi + 2 ^ o) (xs.getD o 0 :: T)
theorem atC_lo (xs : List Int) (c k : Nat) (hc : c < 2 ^ k) : atC xs c (k + 1) = atC xs c k := by
  have e : atC xs c (k + 1) = if c.testBit k then atC xs c k ++ [xs.getD k 0] else atC xs c k := rfl
  rw [e, Nat.testBit_lt_two_pow hc]
  rfl
theorem atC_congr (xs : List Int) (c d k : Nat) (h : ∀ i, i < k → c.testBit i = d.testBit i) : atC xs c k = atC xs d k := by
  induction k with
  | zero => rfl
  | succ k ih =>
    show (if c.testBit k then atC xs c k ++ [xs.getD k 0] else atC xs c k) = (if d.testBit k then atC xs d k ++ [xs.getD k 0] else atC xs d k)
    rw [h k (by omega), ih (fun i hi => h i (by omega))]
theorem atC_hi (xs : List Int) (c k : Nat) (hc : c < 2 ^ k) : atC xs (2 ^ k + c) (k + 1) = atC xs c k ++ [xs.getD k 0] := by
  have e : atC xs (2 ^ k + c) (k + 1) = if (2 ^ k + c).testBit k then atC xs (2 ^ k + c) k ++ [xs.getD k 0] else atC xs (2 ^ k + c) k := rfl
  have e1 : (2 ^ k + c).testBit k = true := by
    rw [Nat.testBit_two_pow_add_eq, Nat.testBit_lt_two_pow hc]; rfl
  rw [e, e1, if_pos rfl]
  congr 1
  exact atC_congr xs _ _ k fun i hi => by rw [Nat.testBit_two_pow_add_gt hi]
theorem chO_is (xs : List Int) (o hi : Nat) (T : List Int) : chO xs o hi T = (List.range (2 ^ o)).map fun c => (hi + c, atC xs c o ++ T) := by
  induction o generalizing hi T with
  | zero => rfl
  | succ o ih =>
    have hp := Nat.two_pow_pos o
    show chO xs o hi T ++ chO xs o (hi + 2 ^ o) (xs.getD o 0 :: T) = _
    rw [ih, ih, show 2 ^ (o + 1) = 2 ^ o + 2 ^ o by rw [Nat.pow_succ, Nat.mul_two], List.range_add, List.map_append, List.map_map]
    congr 1
    · refine List.map_congr_left fun c hc => ?_
      rw [atC_lo xs c o (List.mem_range.1 hc)]
    · refine List.map_congr_left fun c hc => ?_
      show (hi + 2 ^ o + c, atC xs c o ++ xs.getD o 0 :: T) = (hi + (2 ^ o + c), atC xs (2 ^ o + c) (o + 1) ++ T)
      rw [atC_hi xs c o (List.mem_range.1 hc), Nat.add_assoc, List.append_assoc]
      rfl
theorem chO_len (xs : List Int) (o hi : Nat) (T : List Int) : (chO xs o hi T).length = 2 ^ o := by rw [chO_is, List.length_map, List.length_range]
/-- All choices of a row, each with its values. -/
def allCh (xs : List Int) : List (Nat × List Int) := (List.range (2 ^ xs.length)).map fun c => (c, atC xs c xs.length)
theorem chO_all (xs : List Int) : chO xs xs.length 0 [] = allCh xs := by
  rw [chO_is]
  refine List.map_congr_left fun c _ => ?_
  rw [Nat.zero_add, List.append_nil]
theorem getD_snoc (l : List Int) (z : Int) (i : Nat) : (l ++ [z]).getD i 0 = if i < l.length then l.getD i 0 else if i = l.length then z else 0 := by
  rw [List.getD_eq_getElem?_getD, List.getD_eq_getElem?_getD]
  by_cases h : i < l.length
  · rw [if_pos h, List.getElem?_append_left h]
  · rw [if_neg h, List.getElem?_append_right (by omega)]
    by_cases e : i = l.length
    · subst e; rw [if_pos rfl, Nat.sub_self]; rfl
    · rw [if_neg e, List.getElem?_eq_none (by simp; omega)]; rfl
theorem sum_snoc (l : List Int) (z : Int) : sumTo (rowZ (l ++ [z])) (l ++ [z]).length = sumTo (rowZ l) l.length + z.toNat := by
  rw [List.length_append, List.length_singleton]
  show sumTo (rowZ (l ++ [z])) l.length + rowZ (l ++ [z]) l.length = _
  congr 1
  · refine sumTo_congr _ _ _ fun i hi => ?_
    unfold rowZ
    rw [getD_snoc, if_pos hi]
  · unfold rowZ
    rw [getD_snoc, if_neg (by omega), if_pos rfl]
/-- The sum of the values of a choice. -/
theorem atC_sum (xs : List Int) (c k : Nat) : sumTo (rowZ (atC xs c k)) (atC xs c k).length = sumC (rowZ xs) c k := by
  induction k with
  | zero => rfl
  | succ k ih =>
    have e : atC xs c (k + 1) = if c.testBit k then atC xs c k ++ [xs.getD k 0] else atC xs c k := rfl
    have e2 : sumC (rowZ xs) c (k + 1) = sumC (rowZ xs) c k + b2n (c.testBit k) * rowZ xs k := rfl
    rw [e2]
    cases hb : c.testBit k
    · rw [e, hb, if_neg (by simp), ih]; simp [b2n]
    · rw [e, hb, if_pos rfl, sum_snoc, ih]
      simp [b2n, rowZ]
theorem atC_len (xs : List Int) (c k : Nat) : (atC xs c k).length ≤ k := by
  induction k with
  | zero => exact Nat.le_refl _
  | succ k ih =>
    show (if c.testBit k then atC xs c k ++ [xs.getD k 0] else atC xs c k).length ≤ k + 1
    split
    · simp; omega
    · omega
theorem atC_all (xs : List Int) (k : Nat) (hk : k ≤ xs.length) : atC xs (2 ^ xs.length - 1) k = xs.take k := by
  induction k with
  | zero => rfl
  | succ k ih =>
    have e : atC xs (2 ^ xs.length - 1) (k + 1) = if (2 ^ xs.length - 1).testBit k then atC xs (2 ^ xs.length - 1) k ++ [xs.getD k 0] else atC xs (2 ^ xs.length - 1) k := rfl
    have e1 : (2 ^ xs.length - 1).testBit k = true := by rw [Nat.testBit_two_pow_sub_one]; simp; omega
    rw [e, e1, if_pos rfl, ih (by omega), List.take_add_one, List.getElem?_eq_getElem (by omega), List.getD_eq_getElem?_getD, List.getElem?_eq_getElem (by omega)]
    rfl
/-- A choice that is not empty and has the sum 0. -/
def zq (n : Nat) (xs : List Int) (c : Nat) : Bool := !Nat.beq c 0 && zeroP n (rowZ xs) xs.length c
theorem zq_iff (n : Nat) (xs : List Int) (c : Nat) : zq n xs c = true ↔ c ≠ 0 ∧ zsum n (rowZ xs) xs.length c = 0 := by
  unfold zq
  rw [Bool.and_eq_true, zeroP_iff]
  constructor
  · rintro ⟨a, b⟩
    exact ⟨fun e => by subst e; simp at a, b⟩
  · rintro ⟨a, b⟩
    refine ⟨?_, b⟩
    cases hc : Nat.beq c 0
    · rfl
    · exact absurd (Nat.eq_of_beq_eq_true hc) a
/-- Those of some choices that p lets by. -/
def passC {β : Type} (p : Nat → Bool) (N : Nat) (pre : List (Nat × β)) : List (Fin N) := pre.filterMap fun x => if h : x.1 < N then (if p x.1 then some ⟨x.1, h⟩ else none) else none
theorem pass_snoc {β : Type} (p : Nat → Bool) (N : Nat) (pre : List (Nat × β)) (x : Nat × β) (h : x.1 < N) : passC p N (pre ++ [x]) = if p x.1 then passC p N pre ++ [⟨x.1, h⟩] else passC p N pre := by
  unfold passC
  rw [List.filterMap_append]
  cases hp : p x.1
  · simp [h, hp]
  · simp [h, hp]
theorem pass_len {β : Type} (p : Nat → Bool) (N : Nat) (pre : List (Nat × β)) : (passC p N pre).length ≤ pre.length := List.length_filterMap_le _ _
theorem pass_prefix {β : Type} (p : Nat → Bool) (N : Nat) {a b : List (Nat × β)} (h : a <+: b) : passC p N a <+: passC p N b := by
  obtain ⟨r, rfl⟩ := h
  unfold passC
  rw [List.filterMap_append]
  exact List.prefix_append _ _
theorem pass_range (p : Nat → Bool) (N k : Nat) (f : Nat → List Int) (hk : k ≤ N) : passC p N ((List.range k).map fun c => (c, f c)) = comeP p N k := by
  induction k with
  | zero => rfl
  | succ k ih =>
    rw [List.range_succ, List.map_append, List.map_cons, List.map_nil, pass_snoc p N _ _ (show k < N by omega), ih (by omega)]
    cases hp : p k
    · rw [comeP_no hp]; rfl
    · rw [comeP_yes (show k < N by omega) hp]; rfl
theorem pass_all (n : Nat) (xs : List Int) : passC (zq n xs) (2 ^ xs.length) (allCh xs) = comeP (zq n xs) (2 ^ xs.length) (2 ^ xs.length) := pass_range _ _ _ _ (Nat.le_refl _)
/-- The first that comes is the least. -/
theorem come_first (p : Nat → Bool) (N k : Nat) (hk : k ≤ N) (h0 : p 0 = false) : (∀ x q, comeP p N k = x :: q → x.val = firstP p k ∧ firstP p k ≠ 0) ∧ (comeP p N k = [] → firstP p k = 0) := by
  induction k with
  | zero => exact ⟨fun x q h => by simp [comeP] at h, fun _ => rfl⟩
  | succ k ih =>
    obtain ⟨a, b⟩ := ih (by omega)
    have e : firstP p (k + 1) = if firstP p k = 0 then (if p k then k else 0) else firstP p k := rfl
    cases hp : p k
    · rw [comeP_no hp]
      have e2 : firstP p (k + 1) = firstP p k := by
        rw [e, hp]
        by_cases hf : firstP p k = 0
        · rw [if_pos hf, hf]; rfl
        · rw [if_neg hf]
      rw [e2]
      exact ⟨a, b⟩
    · rw [comeP_yes (show k < N by omega) hp]
      have hk0 : k ≠ 0 := fun c => by subst c; rw [h0] at hp; cases hp
      refine ⟨fun x q h => ?_, fun h => by simp at h⟩
      cases hc : comeP p N k with
      | nil =>
        rw [hc] at h
        have hx : (⟨k, by omega⟩ : Fin N) = x := by simpa using (List.cons.inj h).1
        have hf := b hc
        rw [e, if_pos hf, hp, if_pos rfl, ← hx]
        exact ⟨rfl, hk0⟩
      | cons y r =>
        rw [hc] at h
        have hx : y = x := (List.cons.inj h).1
        obtain ⟨h1, h2⟩ := a y r hc
        rw [e, if_neg h2, ← hx]
        exact ⟨h1, h2⟩
theorem firstP_congr (p q : Nat → Bool) (k : Nat) (h : ∀ i, i < k → i ≠ 0 → p i = q i) : firstP p k = firstP q k := by
  induction k with
  | zero => rfl
  | succ k ih =>
    show (if firstP p k = 0 then (if p k then k else 0) else firstP p k) = (if firstP q k = 0 then (if q k then k else 0) else firstP q k)
    rw [ih fun i hi h0 => h i (by omega) h0]
    by_cases hk : k = 0
    · subst hk; split
      · cases p 0 <;> cases q 0 <;> rfl
      · rfl
    · rw [h k (by omega) hk]
theorem zq_ne (n : Nat) (xs : List Int) (c : Nat) (h : c ≠ 0) : zq n xs c = zeroP n (rowZ xs) xs.length c := by
  have e : Nat.beq c 0 = false := by
    cases hc : Nat.beq c 0
    · rfl
    · exact absurd (Nat.eq_of_beq_eq_true hc) h
  unfold zq; rw [e]; rfl
theorem first_zq (n : Nat) (xs : List Int) : firstP (zq n xs) (2 ^ xs.length) = zfirst n (rowZ xs) xs.length := firstP_congr _ _ _ fun i _ h => zq_ne n xs i h
/-- The first one of a size that comes. -/
theorem come_find (n : Nat) (xs : List Int) (m N k : Nat) (hk : k ≤ N) (hm : 1 ≤ m) :
    (∀ A x q, comeP (zq n xs) N k = A ++ x :: q → (∀ y, y ∈ A → sizeN y.val ≠ m) → sizeN x.val = m → x.val = firstP (fun c => Nat.beq (sizeN c) m && zeroP n (rowZ xs) xs.length c) k ∧ x.val ≠ 0) ∧
    ((∀ y, y ∈ comeP (zq n xs) N k → sizeN y.val ≠ m) → firstP (fun c => Nat.beq (sizeN c) m && zeroP n (rowZ xs) xs.length c) k = 0) := by
  have hz0 : sizeN 0 ≠ m := by
    have : sizeN 0 = 0 := by decide
    omega
  induction k with
  | zero => exact ⟨fun A x q h => by simp [comeP] at h, fun _ => rfl⟩
  | succ k ih =>
    obtain ⟨a, b⟩ := ih (by omega)
    obtain ⟨p, hpd⟩ : ∃ p : Nat → Bool, p = fun c => Nat.beq (sizeN c) m && zeroP n (rowZ xs) xs.length c := ⟨_, rfl⟩
    rw [← hpd] at a b ⊢
    have e : firstP p (k + 1) = if firstP p k = 0 then (if p k then k else 0) else firstP p k := rfl
    have stay : p k = false → firstP p (k + 1) = firstP p k := fun h => by
      rw [e, h]
      by_cases hf : firstP p k = 0
      · rw [if_pos hf, hf]; rfl
      · rw [if_neg hf]
    cases hp : zq n xs k
    · have hpk : p k = false := by
        by_cases hk0 : k = 0
        · subst hk0; rw [hpd]
          show (Nat.beq (sizeN 0) m && _) = false
          cases hb : Nat.beq (sizeN 0) m
          · rfl
          · exact absurd (Nat.eq_of_beq_eq_true hb) hz0
        · rw [zq_ne n xs k hk0] at hp
          rw [hpd]
          show (_ && zeroP n (rowZ xs) xs.length k) = false
          rw [hp, Bool.and_false]
      rw [comeP_no hp, stay hpk]
      exact ⟨a, b⟩
    · obtain ⟨hk0, hzk⟩ := (zq_iff n xs k).1 hp
      rw [comeP_yes (show k < N by omega) hp]
      have hpv : p k = Nat.beq (sizeN k) m := by
        rw [hpd]
        show (_ && zeroP n (rowZ xs) xs.length k) = _
        rw [(zeroP_iff _ _ _ _).2 hzk, Bool.and_true]
      constructor
      · intro A x q h hA hx
        by_cases hq : q = []
        · subst hq
          have h1 : comeP (zq n xs) N k = A ∧ (⟨k, by omega⟩ : Fin N) = x := by
            have := List.append_inj' h rfl
            exact ⟨this.1, by simpa using this.2⟩
          have hf := b (by rw [h1.1]; exact hA)
          have hxk : x.val = k := by rw [← h1.2]
          have hpk : p k = true := by rw [hpv, ← hxk, hx]; exact Nat.beq_refl m
          rw [e, if_pos hf, hpk, if_pos rfl, hxk]
          exact ⟨rfl, hk0⟩
        · obtain ⟨q', z, rfl⟩ : ∃ q' z, q = q' ++ [z] := ⟨q.dropLast, q.getLast hq, (List.dropLast_concat_getLast hq).symm⟩
          have h1 : comeP (zq n xs) N k = A ++ x :: q' := by
            have h' : comeP (zq n xs) N k ++ [⟨k, by omega⟩] = (A ++ x :: q') ++ [z] := by rw [h]; simp
            exact (List.append_inj' h' rfl).1
          obtain ⟨h2, h3⟩ := a A x q' h1 hA hx
          rw [e, ← h2, if_neg h3]
          exact ⟨rfl, h3⟩
      · intro hA
        have hf := b (fun y hy => hA y (List.mem_append_left _ hy))
        have hpk : p k = false := by
          rw [hpv]
          cases hb : Nat.beq (sizeN k) m
          · rfl
          · exact absurd (Nat.eq_of_beq_eq_true hb) (hA ⟨k, by omega⟩ (by simp))
        rw [stay hpk, hf]
/-- A list with one choice more, unless one in it is a part of it. -/
def putL (acc : List Int) (c : Nat) : List Int := if acc.any fun d => Nat.beq (lessN d.toNat c) 0 then acc else acc ++ [(c : Int)]
theorem less_none (d c : Nat) : Nat.beq (lessN d c) 0 = true ↔ SubM d c := by
  constructor
  · intro h i hi
    have e := Nat.eq_of_beq_eq_true h
    have hb := lessN_bit d c i
    rw [e, Nat.zero_testBit, hi] at hb
    simpa using hb.symm
  · intro h
    have e : lessN d c = 0 := Nat.eq_of_testBit_eq fun i => by
      rw [lessN_bit, Nat.zero_testBit]
      cases hd : d.testBit i
      · rfl
      · rw [h i hd]; rfl
    rw [e]; rfl
theorem least_in (n : Nat) (r : Nat → Nat) (k d : Nat) (h0 : d ≠ 0) (hz : zsum n r k d = 0) : ∃ e, leastC n r k e = true ∧ SubM e d ∧ e ≤ d := by
  induction d using Nat.strongRecOn with
  | ind d ih =>
    cases hl : leastC n r k d
    · have : ∃ e, e < d ∧ e ≠ 0 ∧ SubM e d ∧ zsum n r k e = 0 := by
        refine Classical.byContradiction fun hn => ?_
        have := (least_what n r k d).2 ⟨h0, hz, fun e h1 h2 h3 h4 => hn ⟨e, h1, h2, h3, h4⟩⟩
        rw [hl] at this; cases this
      obtain ⟨e, h1, h2, h3, h4⟩ := this
      obtain ⟨f, g1, g2, g3⟩ := ih e h1 h2 h4
      exact ⟨f, g1, g2.trans h3, by omega⟩
    · exact ⟨d, hl, SubM.refl d, Nat.le_refl _⟩
theorem put_step (n : Nat) (xs : List Int) (k : Nat) (hz : zq n xs k = true) : putL (pickL (leastC n (rowZ xs) xs.length) k) k = pickL (leastC n (rowZ xs) xs.length) (k + 1) := by
  obtain ⟨h0, hs⟩ := (zq_iff n xs k).1 hz
  have e : pickL (leastC n (rowZ xs) xs.length) (k + 1) = if leastC n (rowZ xs) xs.length k then pickL (leastC n (rowZ xs) xs.length) k ++ [(k : Int)] else pickL (leastC n (rowZ xs) xs.length) k := rfl
  rw [e]
  unfold putL
  have hiff : ((pickL (leastC n (rowZ xs) xs.length) k).any fun d => Nat.beq (lessN d.toNat k) 0) = !leastC n (rowZ xs) xs.length k := by
    cases hl : leastC n (rowZ xs) xs.length k
    · have : ∃ e, e < k ∧ e ≠ 0 ∧ SubM e k ∧ zsum n (rowZ xs) xs.length e = 0 := by
        refine Classical.byContradiction fun hn => ?_
        have := (least_what n (rowZ xs) xs.length k).2 ⟨h0, hs, fun e h1 h2 h3 h4 => hn ⟨e, h1, h2, h3, h4⟩⟩
        rw [hl] at this; cases this
      obtain ⟨d, h1, h2, h3, h4⟩ := this
      obtain ⟨f, g1, g2, g3⟩ := least_in n (rowZ xs) xs.length d h2 h4
      refine List.any_eq_true.2 ⟨(f : Int), (pick_mem _ _ _).2 ⟨f, rfl, by omega, g1⟩, ?_⟩
      exact (less_none _ _).2 (g2.trans h3)
    · show _ = false
      refine Bool.eq_false_iff.2 fun hc => ?_
      obtain ⟨z, hm, hb⟩ := List.any_eq_true.1 hc
      obtain ⟨x, rfl, hx, hlx⟩ := (pick_mem _ _ _).1 hm
      have hsub := (less_none _ _).1 hb
      obtain ⟨a, b, _⟩ := (least_what n _ _ x).1 hlx
      exact ((least_what n _ _ k).1 hl).2.2 x hx a hsub b
  rw [hiff]
  cases leastC n (rowZ xs) xs.length k <;> rfl
theorem put_skip (n : Nat) (xs : List Int) (k : Nat) (hz : zq n xs k = false) : pickL (leastC n (rowZ xs) xs.length) (k + 1) = pickL (leastC n (rowZ xs) xs.length) k := by
  have e : pickL (leastC n (rowZ xs) xs.length) (k + 1) = if leastC n (rowZ xs) xs.length k then pickL (leastC n (rowZ xs) xs.length) k ++ [(k : Int)] else pickL (leastC n (rowZ xs) xs.length) k := rfl
  rw [e]
  cases hl : leastC n (rowZ xs) xs.length k
  · rfl
  · obtain ⟨a, b, _⟩ := (least_what n _ _ k).1 hl
    rw [(zq_iff n xs k).2 ⟨a, b⟩] at hz; cases hz
theorem put_all (n : Nat) (xs : List Int) (k : Nat) : runP putL (zq n xs) [] k = pickL (leastC n (rowZ xs) xs.length) k := by
  induction k with
  | zero => rfl
  | succ k ih =>
    show (if zq n xs k then putL (runP putL (zq n xs) [] k) k else runP putL (zq n xs) [] k) = _
    rw [ih]
    cases hz : zq n xs k
    · exact (put_skip n xs k hz).symm
    · exact put_step n xs k hz
theorem fold_put (n : Nat) (xs : List Int) : foldP putL [] (vals (comeP (zq n xs) (2 ^ xs.length) (2 ^ xs.length))) = leastL n (rowZ xs) xs.length := by
  rw [foldP_come putL [] _ _ _ (Nat.le_refl _), put_all]
  rfl
theorem put_len (acc : List Int) (c : Nat) : (putL acc c).length ≤ acc.length + 1 := by
  unfold putL
  split
  · omega
  · simp
/-- The most of some choices, no two with a common position, and none with a taken one. -/
def mA : List Int → Nat → Nat
  | [], _ => 0
  | c :: cs, t => Nat.max (if Nat.beq (c.toNat &&& t) 0 then 1 + mA cs (t ||| c.toNat) else 0) (mA cs t)
theorem mA_le (l : List Int) (t : Nat) : mA l t ≤ l.length := by
  induction l generalizing t with
  | nil => exact Nat.le_refl _
  | cons c cs ih =>
    have h1 := ih (t ||| c.toNat)
    have h2 := ih t
    show Nat.max _ _ ≤ cs.length + 1
    refine Nat.max_le.2 ⟨?_, by omega⟩
    split <;> omega
def Off (c t : Nat) : Prop := ∀ i, c.testBit i = true → t.testBit i = false
theorem off_iff (c t : Nat) : Nat.beq (c &&& t) 0 = true ↔ Off c t := by
  constructor
  · intro h i hi
    have e := Nat.eq_of_beq_eq_true h
    have hb : (c &&& t).testBit i = false := by rw [e, Nat.zero_testBit]
    rw [Nat.testBit_and, hi, Bool.true_and] at hb
    exact hb
  · intro h
    have e : c &&& t = 0 := Nat.eq_of_testBit_eq fun i => by
      rw [Nat.testBit_and, Nat.zero_testBit]
      cases hc : c.testBit i
      · rfl
      · rw [h i hc]; rfl
    rw [e]; rfl
theorem Off.symm {c t : Nat} (h : Off c t) : Off t c := fun i hi => by
  cases hc : c.testBit i
  · rfl
  · rw [h i hc] at hi; cases hi
theorem off_or (d t c : Nat) : Off d (t ||| c) ↔ Off d t ∧ Off d c := by
  constructor
  · intro h
    refine ⟨fun i hi => ?_, fun i hi => ?_⟩ <;> (have := h i hi; rw [Nat.testBit_or] at this; simp at this; simp [this])
  · rintro ⟨a, b⟩ i hi
    rw [Nat.testBit_or, a i hi, b i hi]; rfl
/-- No disjoint members are more. -/
theorem mA_ub (l : List Int) (t : Nat) (F : List Nat) (hm : ∀ d, d ∈ F → d ≠ 0 ∧ (d : Int) ∈ l ∧ Off d t) (hp : F.Pairwise Off) : F.length ≤ mA l t := by
  induction l generalizing t F with
  | nil =>
    cases F with
    | nil => exact Nat.le_refl _
    | cons d F => exact absurd (hm d (by simp)).2.1 (by simp)
  | cons c cs ih =>
    have e : mA (c :: cs) t = Nat.max (if Nat.beq (c.toNat &&& t) 0 then 1 + mA cs (t ||| c.toNat) else 0) (mA cs t) := rfl
    by_cases hc : c.toNat ∈ F ∧ ((c.toNat : Nat) : Int) = c
    · obtain ⟨A, B, rfl⟩ := List.append_of_mem hc.1
      rw [List.pairwise_append] at hp
      obtain ⟨p1, p2, p3⟩ := hp
      obtain ⟨p4, p5⟩ := List.pairwise_cons.1 p2
      have hct := (off_iff c.toNat t).2 (hm c.toNat (by simp)).2.2
      have hx := ih (t ||| c.toNat) (A ++ B) (fun d hd => ?_) (List.pairwise_append.2 ⟨p1, p5, fun a ha b hb => p3 a ha b (List.mem_cons_of_mem _ hb)⟩)
      · rw [e, hct, if_pos rfl]
        refine Nat.le_trans ?_ (Nat.le_max_left _ _)
        rw [List.length_append] at hx
        rw [List.length_append, List.length_cons]
        omega
      · have hdm : d ∈ A ++ c.toNat :: B := by
          rcases List.mem_append.1 hd with h | h
          · exact List.mem_append_left _ h
          · exact List.mem_append_right _ (List.mem_cons_of_mem _ h)
        obtain ⟨a, b, o⟩ := hm d hdm
        have hoff : Off d c.toNat := by
          rcases List.mem_append.1 hd with h | h
          · exact p3 d h c.toNat (by simp)
          · exact (p4 d h).symm
        refine ⟨a, ?_, (off_or d t c.toNat).2 ⟨o, hoff⟩⟩
        rcases List.mem_cons.1 b with h | h
        · exfalso
          obtain ⟨i, hi⟩ := some_bit d a
          have hdc : d = c.toNat := by omega
          have := hoff i hi
          rw [← hdc, hi] at this; cases this
        · exact h
    · have hx := ih t F (fun d hd => ?_) hp
      · rw [e]; exact Nat.le_trans hx (Nat.le_max_right _ _)
      · obtain ⟨a, b, o⟩ := hm d hd
        refine ⟨a, ?_, o⟩
        rcases List.mem_cons.1 b with h | h
        · exfalso
          have hdc : d = c.toNat := by omega
          exact hc ⟨hdc ▸ hd, by omega⟩
        · exact h
/-- Some are as many. -/
theorem mA_is (l : List Int) (t : Nat) : ∃ F : List Nat, (∀ d, d ∈ F → (∃ z, z ∈ l ∧ d = z.toNat) ∧ Off d t) ∧ F.Pairwise Off ∧ F.length = mA l t := by
  induction l generalizing t with
  | nil => exact ⟨[], fun d hd => by simp at hd, List.Pairwise.nil, rfl⟩
  | cons c cs ih =>
    have e : mA (c :: cs) t = Nat.max (if Nat.beq (c.toNat &&& t) 0 then 1 + mA cs (t ||| c.toNat) else 0) (mA cs t) := rfl
    obtain ⟨G, g1, g2, g3⟩ := ih t
    have low : mA (c :: cs) t = mA cs t → ∃ F : List Nat, (∀ d, d ∈ F → (∃ z, z ∈ c :: cs ∧ d = z.toNat) ∧ Off d t) ∧ F.Pairwise Off ∧ F.length = mA (c :: cs) t := fun h =>
      ⟨G, fun d hd => ⟨(g1 d hd).1.imp fun z hz => ⟨List.mem_cons_of_mem _ hz.1, hz.2⟩, (g1 d hd).2⟩, g2, by rw [h]; exact g3⟩
    cases hb : Nat.beq (c.toNat &&& t) 0
    · refine low ?_
      rw [e, hb]
      exact Nat.max_eq_right (Nat.zero_le _)
    · rw [hb, if_pos rfl] at e
      rcases Nat.le_total (1 + mA cs (t ||| c.toNat)) (mA cs t) with h | h
      · exact low (by rw [e]; exact Nat.max_eq_right h)
      · obtain ⟨F, f1, f2, f3⟩ := ih (t ||| c.toNat)
        refine ⟨c.toNat :: F, fun d hd => ?_, List.pairwise_cons.2 ⟨fun d hd => ?_, f2⟩, ?_⟩
        · rcases List.mem_cons.1 hd with rfl | hd
          · exact ⟨⟨c, by simp, rfl⟩, (off_iff _ _).1 hb⟩
          · exact ⟨(f1 d hd).1.imp fun z hz => ⟨List.mem_cons_of_mem _ hz.1, hz.2⟩, ((off_or d t c.toNat).1 (f1 d hd).2).1⟩
        · exact ((off_or d t c.toNat).1 (f1 d hd).2).2.symm
        · rw [e, List.length_cons, f3, Nat.add_comm]
          exact (Nat.max_eq_left h).symm
/-- The most of the least choices are the most of all. -/
theorem mA_least (n : Nat) (r : Nat → Nat) (k : Nat) : mA (leastL n r k) 0 = partsZ n r k := by
  have hp := Nat.two_pow_pos k
  refine Nat.le_antisymm ?_ ?_
  · obtain ⟨F, f1, f2, f3⟩ := mA_is (leastL n r k) 0
    rw [← f3]
    refine best_ub n r k (2 ^ k) (2 ^ k - 1) (by omega) F ⟨fun d hd => ?_, f2⟩
    obtain ⟨⟨z, hz, rfl⟩, _⟩ := f1 d hd
    obtain ⟨x, rfl, hx, hl⟩ := (pick_mem _ _ _).1 hz
    obtain ⟨a, b, _⟩ := (least_what n r k x).1 hl
    refine ⟨a, fun i hi => ?_, b⟩
    have hi' : x.testBit i = true := hi
    rw [Nat.testBit_two_pow_sub_one]
    by_cases hik : i < k
    · simpa using hik
    · rw [Nat.testBit_lt_two_pow (Nat.lt_of_lt_of_le hx (Nat.pow_le_pow_right (by omega) (by omega)))] at hi'
      cases hi'
  · obtain ⟨F, hF, hl⟩ := bestF_is n r k (2 ^ k) (2 ^ k - 1) (by omega)
    have hpart : partsZ n r k = F.length := hl.symm
    rw [hpart]
    have hex : ∀ d, d ∈ F → ∃ e, leastC n r k e = true ∧ SubM e d ∧ e ≤ d := fun d hd => least_in n r k d (hF.each d hd).1 (hF.each d hd).2.2
    obtain ⟨f, hf⟩ : ∃ f : Nat → Nat, ∀ d, d ∈ F → leastC n r k (f d) = true ∧ SubM (f d) d ∧ f d ≤ d :=
      ⟨fun d => if h : d ∈ F then (hex d h).choose else 0, fun d hd => by
        have e : (if h : d ∈ F then (hex d h).choose else 0) = (hex d hd).choose := dif_pos hd
        show leastC n r k (if h : d ∈ F then (hex d h).choose else 0) = true ∧ SubM (if h : d ∈ F then (hex d h).choose else 0) d ∧ (if h : d ∈ F then (hex d h).choose else 0) ≤ d
        rw [e]; exact (hex d hd).choose_spec⟩
    have h := mA_ub (leastL n r k) 0 (F.map f) (fun d hd => ?_) ?_
    · rwa [List.length_map] at h
    · obtain ⟨x, hx, rfl⟩ := List.mem_map.1 hd
      obtain ⟨a, b, c⟩ := hf x hx
      have hle := ((hF.each x hx).2.1).le
      exact ⟨((least_what n r k _).1 a).1, (pick_mem _ _ _).2 ⟨f x, rfl, by omega, a⟩, fun i _ => Nat.zero_testBit i⟩
    · rw [List.pairwise_map]
      refine List.Pairwise.imp_of_mem (fun {a b} ha hb hab => ?_) hF.apart
      intro i hi
      have hai := hab i ((hf a ha).2.1 i hi)
      cases hc : (f b).testBit i
      · rfl
      · rw [(hf b hb).2.1 i hc] at hai; cases hai
/-- How many of some choices have a sum. -/
def cntOf (n : Nat) (r : Nat → Nat) (k : Nat) (v : Nat) : List (Nat × List Int) → Nat
  | [] => 0
  | x :: l => b2n (Nat.beq (zsum n r k x.1) v) + cntOf n r k v l
theorem cntOf_snoc (n : Nat) (r : Nat → Nat) (k v : Nat) (l : List (Nat × List Int)) (x : Nat × List Int) : cntOf n r k v (l ++ [x]) = cntOf n r k v l + b2n (Nat.beq (zsum n r k x.1) v) := by
  induction l with
  | nil => simp [cntOf]
  | cons y l ih => show b2n _ + cntOf n r k v (l ++ [x]) = b2n _ + cntOf n r k v l + _; rw [ih, Nat.add_assoc]
theorem cntOf_le (n : Nat) (r : Nat → Nat) (k v : Nat) (l : List (Nat × List Int)) : cntOf n r k v l ≤ l.length := by
  induction l with
  | nil => exact Nat.le_refl _
  | cons y l ih =>
    show b2n _ + cntOf n r k v l ≤ l.length + 1
    have : b2n (Nat.beq (zsum n r k y.1) v) ≤ 1 := by unfold b2n; split <;> omega
    omega
theorem cntOf_all (n : Nat) (xs : List Int) (v : Nat) : cntOf n (rowZ xs) xs.length v (allCh xs) = countN n (rowZ xs) xs.length v := by
  unfold allCh countN
  generalize 2 ^ xs.length = N
  induction N with
  | zero => rfl
  | succ N ih =>
    rw [List.range_succ, List.map_append, List.map_cons, List.map_nil, cntOf_snoc, ih]
    show _ = if Nat.beq (zsum n (rowZ xs) xs.length N) v then cntP _ N + 1 else cntP _ N
    cases Nat.beq (zsum n (rowZ xs) xs.length N) v <;> rfl
/-- The counts of some choices. -/
def cntsL (n : Nat) (r : Nat → Nat) (k : Nat) (pre : List (Nat × List Int)) : List Int := tabI n fun v => ((cntOf n r k v pre : Nat) : Int)
theorem cntsL_len (n : Nat) (r : Nat → Nat) (k : Nat) (pre : List (Nat × List Int)) : (cntsL n r k pre).length = n := tabI_len n _
theorem cntsL_get (n : Nat) (r : Nat → Nat) (k : Nat) (pre : List (Nat × List Int)) (v : Nat) (hv : v < n) : (cntsL n r k pre).getD v 0 = ((cntOf n r k v pre : Nat) : Int) := tabI_get n _ v hv
theorem cntsL_nil (n : Nat) (r : Nat → Nat) (k : Nat) : cntsL n r k [] = List.replicate n 0 := by
  refine List.ext_getElem (by simp [cntsL, tabI]) fun j h1 h2 => ?_
  simp [cntsL, tabI, cntOf]
theorem cntsL_snoc (n : Nat) (r : Nat → Nat) (k : Nat) (pre : List (Nat × List Int)) (x : Nat × List Int) :
    cntsL n r k (pre ++ [x]) = (cntsL n r k pre).set (zsum n r k x.1) ((cntOf n r k (zsum n r k x.1) pre + 1 : Nat) : Int) := by
  unfold cntsL
  rw [tabI_set]
  refine tabI_congr n _ _ fun v hv => ?_
  rw [cntOf_snoc]
  by_cases e : v = zsum n r k x.1
  · rw [if_pos e, e, Nat.beq_refl]; rfl
  · have hb : Nat.beq (zsum n r k x.1) v = false := by
      cases hc : Nat.beq (zsum n r k x.1) v
      · rfl
      · exact absurd (Nat.eq_of_beq_eq_true hc).symm e
    rw [if_neg e, hb]; rfl
theorem cntsL_all (n : Nat) (xs : List Int) : cntsL n (rowZ xs) xs.length (allCh xs) = cntL n (rowZ xs) xs.length := tabI_congr n _ _ fun v hv => by rw [cntOf_all]
end Go.Proofs.Ytkdgbnjpjkhopaa
