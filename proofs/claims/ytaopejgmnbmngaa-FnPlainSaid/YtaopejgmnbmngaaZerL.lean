/- Rows of places: least choices and parts (promises 82 and 83). -/
import Derived.Test.YtaopejgmnbmngaaZerM
namespace Go.Proofs.Ytaopejgmnbmngaa
set_option linter.unusedVariables false
/-- d has positions of c alone. -/
def SubM (d c : Nat) : Prop := ∀ i, d.testBit i = true → c.testBit i = true
theorem sub_iff (d c : Nat) : SubM d c ↔ d &&& c = d := by
  constructor
  · intro h
    refine Nat.eq_of_testBit_eq fun i => ?_
    rw [Nat.testBit_and]
    cases hd : d.testBit i
    · rfl
    · rw [h i hd]; rfl
  · intro h i hi
    rw [← h, Nat.testBit_and, Bool.and_eq_true] at hi
    exact hi.2
theorem SubM.le {d c : Nat} (h : SubM d c) : d ≤ c := by
  rw [sub_iff] at h
  rw [← h]; exact Nat.and_le_right
theorem SubM.trans {a b c : Nat} (h : SubM a b) (k : SubM b c) : SubM a c := fun i hi => k i (h i hi)
theorem SubM.refl (a : Nat) : SubM a a := fun _ h => h
theorem and_mod2 (a b : Nat) : (a &&& b) % 2 = a % 2 * (b % 2) := by
  have h := Nat.testBit_and a b 0
  rw [Nat.testBit_zero, Nat.testBit_zero, Nat.testBit_zero] at h
  rcases Nat.mod_two_eq_zero_or_one a with ha | ha <;> rcases Nat.mod_two_eq_zero_or_one b with hb | hb <;> rcases Nat.mod_two_eq_zero_or_one (a &&& b) with hc | hc <;> simp [ha, hb, hc] at h ⊢
/-- Behind a part of c the next one is found by taking 1 away. -/
theorem sub_next (c p q : Nat) (hp : p &&& c = p) (h0 : 0 < p) (hq : q &&& c = q) (hlt : q < p) : q ≤ (p - 1) &&& c := by
  induction p using Nat.strongRecOn generalizing c q with
  | ind p ih =>
    have p1 := congrArg (· / 2) hp
    have p2 := congrArg (· % 2) hp
    have q1 := congrArg (· / 2) hq
    have q2 := congrArg (· % 2) hq
    simp only [Nat.and_div_two, and_mod2] at p1 p2 q1 q2
    have hx := and_mod2 (p - 1) c
    have hy : ((p - 1) &&& c) / 2 = (p - 1) / 2 &&& c / 2 := Nat.and_div_two
    by_cases hb : p % 2 = 1
    · have e1 : (p - 1) / 2 = p / 2 := by omega
      have e2 : (p - 1) % 2 = 0 := by omega
      rw [e1, p1] at hy
      rw [e2, Nat.zero_mul] at hx
      omega
    · have hb : p % 2 = 0 := by omega
      have e1 : (p - 1) / 2 = p / 2 - 1 := by omega
      have e2 : (p - 1) % 2 = 1 := by omega
      have hi := ih (p / 2) (by omega) (c / 2) (q / 2) p1 (by omega) q1 (by omega)
      rw [e1] at hy
      rw [e2, Nat.one_mul] at hx
      have hqc : q % 2 ≤ c % 2 := by
        rcases Nat.mod_two_eq_zero_or_one c with h | h
        · rw [h, Nat.mul_zero] at q2; omega
        · omega
      omega
/-- How many positions below k a part has: no more than the whole. -/
theorem cntB_sub (d c k : Nat) (h : SubM d c) : cntB d k ≤ cntB c k := by
  rw [← popF_cnt, ← popF_cnt]
  exact popF_mono k d c h
theorem cntB_all (c j k : Nat) (hc : c < 2 ^ j) (hjk : j ≤ k) : cntB c k = cntB c j := by
  induction k with
  | zero => obtain rfl : j = 0 := by omega
            rfl
  | succ k ih =>
    by_cases e : j = k + 1
    · rw [e]
    · rw [cntB_step, Nat.testBit_lt_two_pow (Nat.lt_of_lt_of_le hc (Nat.pow_le_pow_right (by omega) (by omega))), ih (by omega)]
      rfl
theorem cntB_reach (c k n : Nat) (h : n ≤ cntB c k) : ∃ i, i ≤ k ∧ cntB c i = n := by
  induction k with
  | zero => exact ⟨0, Nat.le_refl _, by have : cntB c 0 = 0 := rfl
                                        omega⟩
  | succ k ih =>
    rw [cntB_step] at h
    by_cases e : n ≤ cntB c k
    · obtain ⟨i, hi, he⟩ := ih e
      exact ⟨i, by omega, he⟩
    · refine ⟨k + 1, Nat.le_refl _, ?_⟩
      rw [cntB_step]
      split at h <;> split <;> omega
/-- A choice of n positions or more has a part of at most n that has the sum 0. -/
theorem small_zero (n : Nat) (r : Nat → Nat) (m k : Nat) (h1 : 1 ≤ n) (h2 : n ≤ 12) (hr : ∀ i, r i < n) (hm : n ≤ cntB m k) :
    ∃ c, c < 2 ^ k ∧ c ≠ 0 ∧ SubM c m ∧ cntB c k ≤ n ∧ zsum n r k c = 0 := by
  obtain ⟨i, hi, he⟩ := cntB_reach m k n hm
  obtain ⟨c, hc, h0, hs, hz⟩ := row_zero n r m i h1 h2 hr (by omega)
  refine ⟨c, Nat.lt_of_lt_of_le hc (Nat.pow_le_pow_right (by omega) hi), h0, hs, ?_, ?_⟩
  · rw [cntB_all c i k hc hi, ← he]
    exact cntB_sub c m i hs
  · unfold zsum at hz ⊢
    rw [sumC_far r c i k hc hi]; exact hz
/-- A choice that is not empty, has the sum 0, and no smaller part that does. -/
def leastC (n : Nat) (r : Nat → Nat) (k c : Nat) : Bool := !Nat.beq c 0 && (zeroP n r k c && (List.range c).all fun d => Nat.beq d 0 || (!Nat.beq (d &&& c) d || !zeroP n r k d))
theorem least_what (n : Nat) (r : Nat → Nat) (k c : Nat) : leastC n r k c = true ↔ c ≠ 0 ∧ zsum n r k c = 0 ∧ ∀ d, d < c → d ≠ 0 → SubM d c → zsum n r k d ≠ 0 := by
  unfold leastC
  rw [Bool.and_eq_true, Bool.and_eq_true, zeroP_iff, List.all_eq_true]
  constructor
  · rintro ⟨a, b, h⟩
    refine ⟨fun e => by subst e; simp at a, b, fun d hd h0 hs hz => ?_⟩
    have e := h d (List.mem_range.2 hd)
    have e1 : Nat.beq d 0 = false := by
      cases hc : Nat.beq d 0
      · rfl
      · exact absurd (Nat.eq_of_beq_eq_true hc) h0
    have e2 : Nat.beq (d &&& c) d = true := by rw [(sub_iff d c).1 hs]; exact Nat.beq_refl d
    rw [e1, e2, (zeroP_iff n r k d).2 hz] at e
    cases e
  · rintro ⟨a, b, h⟩
    refine ⟨?_, b, fun d hd => ?_⟩
    · cases hc : Nat.beq c 0
      · rfl
      · exact absurd (Nat.eq_of_beq_eq_true hc) a
    · cases e1 : Nat.beq d 0
      · cases e2 : Nat.beq (d &&& c) d
        · rfl
        · cases e3 : zeroP n r k d
          · rfl
          · exact absurd ((zeroP_iff n r k d).1 e3) (h d (List.mem_range.1 hd) (fun e => by subst e; cases e1) ((sub_iff d c).2 (Nat.eq_of_beq_eq_true e2)))
      · rfl
theorem least_small (n : Nat) (r : Nat → Nat) (k c : Nat) (h1 : 1 ≤ n) (h2 : n ≤ 12) (hr : ∀ i, r i < n) (hc : c < 2 ^ k) (h : leastC n r k c = true) : cntB c k ≤ n := by
  obtain ⟨a, b, hl⟩ := (least_what n r k c).1 h
  by_cases hn : cntB c k ≤ n
  · exact hn
  · exfalso
    obtain ⟨d, hd, h0, hs, hk, hz⟩ := small_zero n r c k h1 h2 hr (by omega)
    have hle := hs.le
    by_cases e : d = c
    · subst e; omega
    · exact hl d (by omega) h0 hs hz
theorem least_apart (n : Nat) (r : Nat → Nat) (k c d : Nat) (hc : leastC n r k c = true) (hd : leastC n r k d = true) (hs : SubM d c) : d = c := by
  obtain ⟨_, _, hl⟩ := (least_what n r k c).1 hc
  obtain ⟨a, b, _⟩ := (least_what n r k d).1 hd
  by_cases e : d = c
  · exact e
  · have := hs.le
    exact absurd b (hl d (by omega) a hs)
theorem least_first (n : Nat) (r : Nat → Nat) (k : Nat) (h : zfirst n r k ≠ 0) : zfirst n r k < 2 ^ k ∧ leastC n r k (zfirst n r k) = true := by
  obtain ⟨a, b⟩ := firstP_is _ _ h
  refine ⟨b, (least_what n r k _).2 ⟨h, (zeroP_iff n r k _).1 a, fun d hd h0 hs hz => ?_⟩⟩
  have e : zfirst n r k ≤ d := firstP_le _ _ d (Nat.lt_trans hd b) h0 ((zeroP_iff n r k d).2 hz)
  omega
/-- The numbers below k that p lets by, in ascending order. -/
def pickL (p : Nat → Bool) : Nat → List Int
  | 0 => []
  | i + 1 => if p i then pickL p i ++ [(i : Int)] else pickL p i
theorem pick_len (p : Nat → Bool) (k : Nat) : (pickL p k).length ≤ k := by
  induction k with
  | zero => exact Nat.le_refl _
  | succ k ih =>
    unfold pickL
    split
    · simp; omega
    · omega
theorem pick_mem (p : Nat → Bool) (k : Nat) (z : Int) : z ∈ pickL p k ↔ ∃ x : Nat, z = (x : Int) ∧ x < k ∧ p x = true := by
  induction k with
  | zero => exact ⟨fun h => by simp [pickL] at h, fun ⟨x, _, h, _⟩ => by omega⟩
  | succ k ih =>
    have e : pickL p (k + 1) = if p k then pickL p k ++ [(k : Int)] else pickL p k := rfl
    rw [e]
    cases hp : p k
    · rw [if_neg (by simp), ih]
      constructor
      · rintro ⟨x, a, b, c⟩; exact ⟨x, a, by omega, c⟩
      · rintro ⟨x, a, b, c⟩
        refine ⟨x, a, ?_, c⟩
        have : x ≠ k := fun e => by subst e; rw [hp] at c; cases c
        omega
    · rw [if_pos rfl, List.mem_append, ih, List.mem_singleton]
      constructor
      · rintro (⟨x, a, b, c⟩ | h)
        · exact ⟨x, a, by omega, c⟩
        · exact ⟨k, h, by omega, hp⟩
      · rintro ⟨x, a, b, c⟩
        by_cases e : x = k
        · subst e; exact .inr a
        · exact .inl ⟨x, a, by omega, c⟩
theorem pick_at (p : Nat → Bool) (k i : Nat) (hi : i < (pickL p k).length) : ∃ x : Nat, (pickL p k).getD i 0 = (x : Int) ∧ x < k ∧ p x = true := by
  refine (pick_mem p k _).1 ?_
  rw [List.getD_eq_getElem?_getD, List.getElem?_eq_getElem hi]
  exact List.getElem_mem hi
theorem pick_up (p : Nat → Bool) (k i j : Nat) (hij : i < j) (hj : j < (pickL p k).length) : (pickL p k).getD i 0 < (pickL p k).getD j 0 := by
  induction k generalizing i j with
  | zero => simp [pickL] at hj
  | succ k ih =>
    have e : pickL p (k + 1) = if p k then pickL p k ++ [(k : Int)] else pickL p k := rfl
    rw [e] at hj ⊢
    cases hp : p k
    · rw [hp, if_neg (by simp)] at hj
      rw [if_neg (by simp)]
      exact ih i j hij hj
    · rw [hp, if_pos rfl, List.length_append, List.length_singleton] at hj
      rw [if_pos rfl]
      have hget : ∀ t, t < (pickL p k).length → (pickL p k ++ [(k : Int)]).getD t 0 = (pickL p k).getD t 0 := fun t ht => by
        rw [List.getD_eq_getElem?_getD, List.getElem?_append_left ht, ← List.getD_eq_getElem?_getD]
      by_cases ej : j < (pickL p k).length
      · rw [hget i (by omega), hget j ej]
        exact ih i j hij ej
      · obtain rfl : j = (pickL p k).length := by omega
        rw [hget i hij]
        obtain ⟨x, hx, hlt, _⟩ := pick_at p k i hij
        rw [hx, List.getD_eq_getElem?_getD, List.getElem?_append_right (Nat.le_refl _), Nat.sub_self]
        simp; omega
def leastL (n : Nat) (r : Nat → Nat) (k : Nat) : List Int := pickL (leastC n r k) (2 ^ k)
theorem leastL_none (n : Nat) (r : Nat → Nat) (k : Nat) : leastL n r k = [] ↔ zfirst n r k = 0 := by
  constructor
  · intro h
    by_cases hz : zfirst n r k = 0
    · exact hz
    · obtain ⟨a, b⟩ := least_first n r k hz
      have : ((zfirst n r k : Nat) : Int) ∈ leastL n r k := (pick_mem _ _ _).2 ⟨_, rfl, a, b⟩
      rw [h] at this; simp at this
  · intro h
    cases hl : leastL n r k with
    | nil => rfl
    | cons z zs =>
      have : z ∈ leastL n r k := by rw [hl]; simp
      obtain ⟨x, _, hx, hb⟩ := (pick_mem _ _ _).1 this
      obtain ⟨a, b, _⟩ := (least_what n r k x).1 hb
      exact absurd b (zfirst_none n r k x h hx a)
/-- The positions but those of d. -/
theorem less_sub (c d : Nat) : SubM (lessN c d) c := fun i h => by
  rw [lessN_bit, Bool.and_eq_true] at h; exact h.1
theorem less_small (c d : Nat) (hd : d ≠ 0) (hs : SubM d c) : lessN c d < c := by
  have hle := (less_sub c d).le
  by_cases e : lessN c d = c
  · exfalso
    obtain ⟨i, hi⟩ := some_bit d hd
    have hc := hs i hi
    have := lessN_bit c d i
    rw [e, hc, hi] at this; cases this
  · omega
theorem less_cnt (c d k : Nat) (hs : SubM d c) : cntB (lessN c d) k + cntB d k = cntB c k := by
  induction k with
  | zero => rfl
  | succ k ih =>
    rw [cntB_step, cntB_step, cntB_step, lessN_bit, ← ih]
    cases hd : d.testBit k
    · simp; omega
    · rw [hs k hd]; simp; omega
/-- A family of choices within a set of positions, no two with a common one. -/
structure Fam (n : Nat) (r : Nat → Nat) (k left : Nat) (F : List Nat) : Prop where
  each : ∀ c, c ∈ F → c ≠ 0 ∧ SubM c left ∧ zsum n r k c = 0
  apart : F.Pairwise fun c d => ∀ i, c.testBit i = true → d.testBit i = false
/-- The lowest position. -/
def lowB (left : Nat) : Nat := lessN left (left - 1)
theorem low_sub (left : Nat) : SubM (lowB left) left := less_sub left (left - 1)
theorem low_ne (left : Nat) (h : left ≠ 0) : lowB left ≠ 0 := fun e => by
  have hs : SubM left (left - 1) := fun i hi => by
    have := lessN_bit left (left - 1) i
    rw [show lessN left (left - 1) = 0 from e, Nat.zero_testBit, hi, Bool.true_and] at this
    simpa using this.symm
  have := hs.le
  omega
/-- Whether a choice may be one of the parts: it has the lowest position, and the sum 0. -/
def partP (n : Nat) (r : Nat → Nat) (k left c : Nat) : Bool := Nat.beq (c &&& left) c && (!Nat.beq (c &&& lowB left) 0 && zeroP n r k c)
/-- The most with the choices left, left - 1 .. gone through, j of them; B: the most of fewer positions. -/
def bestG (n : Nat) (r : Nat → Nat) (k : Nat) (B : Nat → Nat) (left : Nat) : Nat → Nat
  | 0 => B (lessN left (lowB left))
  | j + 1 => if partP n r k left (left - j) then max (bestG n r k B left j) (1 + B (lessN left (left - j))) else bestG n r k B left j
/-- The most parts. -/
def bestF (n : Nat) (r : Nat → Nat) (k : Nat) : Nat → Nat → Nat
  | 0, _ => 0
  | f + 1, left => if left = 0 then 0 else bestG n r k (bestF n r k f) left left
theorem bestG_low (n : Nat) (r : Nat → Nat) (k : Nat) (B : Nat → Nat) (left j : Nat) : B (lessN left (lowB left)) ≤ bestG n r k B left j := by
  induction j with
  | zero => exact Nat.le_refl _
  | succ j ih =>
    unfold bestG
    split
    · exact Nat.le_trans ih (Nat.le_max_left _ _)
    · exact ih
theorem bestG_part (n : Nat) (r : Nat → Nat) (k : Nat) (B : Nat → Nat) (left j c : Nat) (h1 : left - j < c) (h2 : c ≤ left) (hp : partP n r k left c = true) : 1 + B (lessN left c) ≤ bestG n r k B left j := by
  induction j with
  | zero => omega
  | succ j ih =>
    unfold bestG
    by_cases e : c = left - j
    · subst e
      rw [if_pos hp]
      exact Nat.le_max_right _ _
    · have := ih (by omega)
      split
      · exact Nat.le_trans this (Nat.le_max_left _ _)
      · exact this
theorem bestG_at (n : Nat) (r : Nat → Nat) (k : Nat) (B : Nat → Nat) (left j : Nat) : bestG n r k B left j = B (lessN left (lowB left)) ∨ ∃ c, c ≤ left ∧ partP n r k left c = true ∧ bestG n r k B left j = 1 + B (lessN left c) := by
  induction j with
  | zero => exact .inl rfl
  | succ j ih =>
    unfold bestG
    by_cases hp : partP n r k left (left - j) = true
    · rw [if_pos hp]
      rcases Nat.le_total (bestG n r k B left j) (1 + B (lessN left (left - j))) with h | h
      · rw [Nat.max_eq_right h]
        exact .inr ⟨left - j, by omega, hp, rfl⟩
      · rw [Nat.max_eq_left h]; exact ih
    · rw [if_neg hp]; exact ih
theorem partP_iff (n : Nat) (r : Nat → Nat) (k left c : Nat) : partP n r k left c = true ↔ SubM c left ∧ c &&& lowB left ≠ 0 ∧ zsum n r k c = 0 := by
  unfold partP
  rw [Bool.and_eq_true, Bool.and_eq_true, zeroP_iff, sub_iff]
  constructor
  · rintro ⟨a, b, z⟩
    exact ⟨Nat.eq_of_beq_eq_true a, (fun e => by rw [e] at b; cases b), z⟩
  · rintro ⟨a, b, z⟩
    refine ⟨by rw [a]; exact Nat.beq_refl _, ?_, z⟩
    cases h : Nat.beq (c &&& lowB left) 0
    · rfl
    · exact absurd (Nat.eq_of_beq_eq_true h) b
theorem fam_off {n : Nat} {r : Nat → Nat} {k left : Nat} {F : List Nat} (h : Fam n r k left F) {c : Nat} (hc : ∀ d, d ∈ F → ∀ i, c.testBit i = true → d.testBit i = false) : Fam n r k (lessN left c) F :=
  ⟨fun d hd => ⟨(h.each d hd).1, (fun i hi => by
    rw [lessN_bit, (h.each d hd).2.1 i hi]
    cases hci : c.testBit i
    · rfl
    · rw [hc d hd i hci] at hi; cases hi), (h.each d hd).2.2⟩, h.apart⟩
theorem fam_take {n : Nat} {r : Nat → Nat} {k left : Nat} {F : List Nat} (h : Fam n r k left F) {c : Nat} (hc : c ∈ F) : ∃ F', F.length = F'.length + 1 ∧ Fam n r k (lessN left c) F' := by
  obtain ⟨A, B, rfl⟩ := List.append_of_mem hc
  have hp := h.apart
  rw [List.pairwise_append] at hp
  obtain ⟨p1, p2, p3⟩ := hp
  obtain ⟨p4, p5⟩ := List.pairwise_cons.1 p2
  have hF : Fam n r k left (A ++ B) := ⟨fun d hd => h.each d (by
    rcases List.mem_append.1 hd with hd | hd
    · exact List.mem_append_left _ hd
    · exact List.mem_append_right _ (List.mem_cons_of_mem _ hd)), List.pairwise_append.2 ⟨p1, p5, fun a ha b hb => p3 a ha b (List.mem_cons_of_mem _ hb)⟩⟩
  refine ⟨A ++ B, by simp; omega, fam_off hF fun d hd i hi => ?_⟩
  rcases List.mem_append.1 hd with hd | hd
  · have := p3 d hd c (by simp)
    cases hdi : d.testBit i
    · rfl
    · rw [this i hdi] at hi; cases hi
  · exact p4 d hd i hi
theorem fam_put {n : Nat} {r : Nat → Nat} {k left c : Nat} {F : List Nat} (h : Fam n r k (lessN left c) F) (h0 : c ≠ 0) (hs : SubM c left) (hz : zsum n r k c = 0) : Fam n r k left (c :: F) := by
  refine ⟨fun d hd => ?_, List.pairwise_cons.2 ⟨fun d hd i hi => ?_, h.apart⟩⟩
  · rcases List.mem_cons.1 hd with rfl | hd
    · exact ⟨h0, hs, hz⟩
    · exact ⟨(h.each d hd).1, (h.each d hd).2.1.trans (less_sub left c), (h.each d hd).2.2⟩
  · cases hdi : d.testBit i
    · rfl
    · have := (h.each d hd).2.1 i hdi
      rw [lessN_bit, hi] at this
      simp at this
theorem fam_more {n : Nat} {r : Nat → Nat} {k a b : Nat} {F : List Nat} (h : Fam n r k a F) (hs : SubM a b) : Fam n r k b F :=
  ⟨fun d hd => ⟨(h.each d hd).1, (h.each d hd).2.1.trans hs, (h.each d hd).2.2⟩, h.apart⟩
theorem fam_none (n : Nat) (r : Nat → Nat) (k left : Nat) : Fam n r k left [] := ⟨fun d hd => by simp at hd, List.Pairwise.nil⟩
/-- No family is greater than the most. -/
theorem best_ub (n : Nat) (r : Nat → Nat) (k f left : Nat) (hf : left ≤ f) (F : List Nat) (h : Fam n r k left F) : F.length ≤ bestF n r k f left := by
  induction f generalizing left F with
  | zero =>
    cases F with
    | nil => exact Nat.le_refl _
    | cons c F =>
      obtain ⟨a, b, _⟩ := h.each c (by simp)
      have := b.le
      omega
  | succ f ih =>
    have e : bestF n r k (f + 1) left = if left = 0 then 0 else bestG n r k (bestF n r k f) left left := rfl
    rw [e]
    by_cases h0 : left = 0
    · rw [if_pos h0]
      cases F with
      | nil => exact Nat.le_refl _
      | cons c F =>
        obtain ⟨a, b, _⟩ := h.each c (by simp)
        have := b.le
        omega
    · rw [if_neg h0]
      by_cases hc : ∃ c, c ∈ F ∧ c &&& lowB left ≠ 0
      · obtain ⟨c, hcF, hl⟩ := hc
        obtain ⟨F', hlen, hF'⟩ := fam_take h hcF
        obtain ⟨a, b, z⟩ := h.each c hcF
        have hsm := less_small left c a b
        have h1 := ih (lessN left c) (by omega) F' hF'
        have h2 := bestG_part n r k (bestF n r k f) left left c (by omega) b.le ((partP_iff n r k left c).2 ⟨b, hl, z⟩)
        omega
      · have hF : Fam n r k (lessN left (lowB left)) F := fam_off h fun d hd i hi => by
          cases hdi : d.testBit i
          · rfl
          · exfalso
            refine hc ⟨d, hd, fun e => ?_⟩
            have : (d &&& lowB left).testBit i = true := by rw [Nat.testBit_and, hdi, hi]; rfl
            rw [e, Nat.zero_testBit] at this; cases this
        have hsm := less_small left (lowB left) (low_ne left h0) (low_sub left)
        exact Nat.le_trans (ih _ (by omega) F hF) (bestG_low n r k _ left left)
/-- Some family is as great. -/
theorem bestF_is (n : Nat) (r : Nat → Nat) (k f left : Nat) (hf : left ≤ f) : ∃ F, Fam n r k left F ∧ F.length = bestF n r k f left := by
  induction f generalizing left with
  | zero => exact ⟨[], fam_none n r k left, rfl⟩
  | succ f ih =>
    have e : bestF n r k (f + 1) left = if left = 0 then 0 else bestG n r k (bestF n r k f) left left := rfl
    rw [e]
    by_cases h0 : left = 0
    · rw [if_pos h0]; exact ⟨[], fam_none n r k left, rfl⟩
    · rw [if_neg h0]
      rcases bestG_at n r k (bestF n r k f) left left with hg | ⟨c, hc, hp, hg⟩
      · rw [hg]
        have hsm := less_small left (lowB left) (low_ne left h0) (low_sub left)
        obtain ⟨F, hF, hl⟩ := ih (lessN left (lowB left)) (by omega)
        exact ⟨F, fam_more hF (less_sub _ _), hl⟩
      · rw [hg]
        obtain ⟨hs, hl, hz⟩ := (partP_iff n r k left c).1 hp
        have hc0 : c ≠ 0 := fun e => hl (by rw [e]; exact Nat.zero_and _)
        have hsm := less_small left c hc0 hs
        obtain ⟨F, hF, hlen⟩ := ih (lessN left c) (by omega)
        exact ⟨c :: F, fam_put hF hc0 hs hz, by rw [List.length_cons, hlen, Nat.add_comm]⟩
/-- The most parts of a row. -/
def partsZ (n : Nat) (r : Nat → Nat) (k : Nat) : Nat := bestF n r k (2 ^ k) (2 ^ k - 1)
theorem greedy (n : Nat) (r : Nat → Nat) (k : Nat) (h1 : 1 ≤ n) (h2 : n ≤ 12) (hr : ∀ i, r i < n) (left : Nat) : ∃ F, Fam n r k left F ∧ cntB left k ≤ n * F.length + (n - 1) := by
  induction left using Nat.strongRecOn with
  | ind left ih =>
    by_cases hn : n ≤ cntB left k
    · obtain ⟨c, hc, h0, hs, hk, hz⟩ := small_zero n r left k h1 h2 hr hn
      obtain ⟨F, hF, hl⟩ := ih (lessN left c) (less_small left c h0 hs)
      refine ⟨c :: F, fam_put hF h0 hs hz, ?_⟩
      have := less_cnt left c k hs
      rw [List.length_cons, Nat.mul_succ]
      omega
    · exact ⟨[], fam_none n r k left, by simp; omega⟩
theorem cntB_full (k : Nat) : cntB (2 ^ k - 1) k = k := by
  have h : ∀ j, j ≤ k → cntB (2 ^ k - 1) j = j := by
    intro j
    induction j with
    | zero => intro _; rfl
    | succ j ih =>
      intro hj
      rw [cntB_step, ih (by omega), Nat.testBit_two_pow_sub_one, if_pos (decide_eq_true (by omega))]
  exact h k (Nat.le_refl _)
theorem p_parts (n : Nat) (r : Nat → Nat) (k : Nat) (h1 : 1 ≤ n) (h2 : n ≤ 12) (hr : ∀ i, r i < n) : k ≤ n * partsZ n r k + (n - 1) ∧ (partsZ n r k = 0 ↔ zfirst n r k = 0) := by
  have hp := Nat.two_pow_pos k
  obtain ⟨F, hF, hl⟩ := greedy n r k h1 h2 hr (2 ^ k - 1)
  have hu := best_ub n r k (2 ^ k) (2 ^ k - 1) (by omega) F hF
  have hu : F.length ≤ partsZ n r k := hu
  rw [cntB_full] at hl
  refine ⟨Nat.le_trans hl (Nat.add_le_add_right (Nat.mul_le_mul_left n hu) _), fun h => ?_, fun h => ?_⟩
  · by_cases hz : zfirst n r k = 0
    · exact hz
    · exfalso
      obtain ⟨a, b⟩ := firstP_is _ _ hz
      have hs : SubM (zfirst n r k) (2 ^ k - 1) := fun i hi => by
        rw [Nat.testBit_two_pow_sub_one]
        refine decide_eq_true ?_
        by_cases hik : i < k
        · exact hik
        · rw [Nat.testBit_lt_two_pow (x := zfirst n r k) (Nat.lt_of_lt_of_le b (Nat.pow_le_pow_right (by omega) (by omega)))] at hi; cases hi
      have hF : Fam n r k (2 ^ k - 1) [zfirst n r k] := ⟨fun c hc => by
        rw [List.mem_singleton.1 hc]; exact ⟨hz, hs, (zeroP_iff n r k _).1 a⟩, List.pairwise_singleton _ _⟩
      have hu : 1 ≤ partsZ n r k := best_ub n r k (2 ^ k) (2 ^ k - 1) (by omega) _ hF
      omega
  · obtain ⟨F, hF, hl⟩ := bestF_is n r k (2 ^ k) (2 ^ k - 1) (by omega)
    have hl : F.length = partsZ n r k := hl
    rw [← hl]
    cases F with
    | nil => rfl
    | cons c F =>
      obtain ⟨a, b, z⟩ := hF.each c (by simp)
      have := b.le
      exact absurd z (zfirst_none n r k c h (by omega) a)
end Go.Proofs.Ytaopejgmnbmngaa
