/- Texts of mine, laid together: WrpM WrpA WrpB WrpC. -/
import Derived.Test.YtnlalccnhpblkaaWrdM
import Derived.Test.YtnlalccnhpblkaaGV
import Derived.Test.YtnlalccnhpblkaaGX
import Derived.Test.YtnlalccnhpblkaaGC
import Derived.Deep.LoopGhost
import Derived.Test.YtnlalccnhpblkaaGA
import Derived.Test.YtnlalccnhpblkaaGD
import Derived.Test.YtnlalccnhpblkaaShelf
/- Words, the program's side: maths (half as many letters are enough; all words in the program's order; the shortest one; laws by order of amounts; counts of a text). -/
namespace Go.Proofs.Ytnlalccnhpblkaa
set_option linter.unusedVariables false
/-! Half as many letters as places. -/
def rtW (n b v : Nat) : Nat := (b <<< v ||| b >>> (n - v)) &&& (2 ^ n - 1)
def stW (n a h : Nat) : Nat → Nat
  | 0 => 0
  | v + 1 => if Nat.beq ((h >>> v) % 2) 1 then stW n a h v ||| rtW n a v else stW n a h v
theorem rtW_shift (n b v : Nat) (hv : v < n) : rtW n b v = shiftN n b (v : Int) := by
  unfold rtW shiftN shl
  rw [rest_self n v hv]
theorem beq_bitW (h v : Nat) : Nat.beq ((h >>> v) % 2) 1 = h.testBit v := by
  rw [Nat.testBit, Nat.and_comm, Nat.and_one_is_mod]
  rcases Nat.mod_two_eq_zero_or_one (h >>> v) with e | e <;> rw [e] <;> rfl
theorem stW_eq (n a h j : Nat) (hj : j ≤ n) : stW n a h j = overSet h (sumS n a) j 0 := by
  induction j with
  | zero => rfl
  | succ j ih =>
    rw [over_step]
    show (if Nat.beq ((h >>> j) % 2) 1 then stW n a h j ||| rtW n a j else stW n a h j) = _
    rw [beq_bitW, ih (by omega), rtW_shift n a j (by omega)]
    rfl
theorem stW_sum (n a h : Nat) : stW n a h n = sumN n a h := stW_eq n a h n (Nat.le_refl n)
def hfW (n s : Nat) : Nat → Nat → Nat
  | 0, x => x
  | k + 1, x => match x ||| stW n s x n with
    | 0 => hfW n s k 0
    | m + 1 => hfW n s k (m + 1)
theorem hfW_up (n s k x : Nat) : hfW n s (k + 1) x = hfW n s k (x ||| stW n s x n) := by
  show (match x ||| stW n s x n with
    | 0 => hfW n s k 0
    | m + 1 => hfW n s k (m + 1)) = _
  generalize x ||| stW n s x n = y
  cases y <;> rfl
theorem hfW_iter (n s k d : Nat) : hfW n s k (iterN n s d) = iterN n s (d + k) := by
  induction k generalizing d with
  | zero => rfl
  | succ k ih =>
    rw [hfW_up, stW_sum, ← iter_up, ih, show d + 1 + k = d + (k + 1) by omega]
def symW (n s : Nat) : Bool := (List.range n).all fun v => Nat.beq ((s >>> v) % 2) ((s >>> ((n - v) % n)) % 2)
def halfQ (n s : Nat) : Bool := !(symW n s) || Nat.beq (hfW n s (n / 2 + 1) 1) (hfW n s (n / 2) 1)
theorem half_allW : ((List.range 13).all fun n => (List.range ((2 ^ n + 63) / 64)).all fun a => (List.range 64).all fun b => !(Nat.blt (64 * a + b) (2 ^ n)) || halfQ n (64 * a + b)) = true := by decide +kernel
theorem neg_subW (n v : Nat) (h1 : 1 ≤ n) (hv : v < n) : neg n v = (n - v) % n := by
  unfold neg rest
  by_cases h : v = 0
  · subst h
    simp
  · have e : (-(v : Int)) % (n : Int) = ((n - v : Nat) : Int) := by
      rw [← Int.add_emod_right, Int.emod_eq_of_lt (by omega) (by omega)]
      omega
    rw [e, Int.toNat_natCast, Nat.mod_eq_of_lt (by omega)]
theorem half_iter (n s : Nat) (h1 : 1 ≤ n) (h2 : n ≤ 12) (hs : s < 2 ^ n) (hy : ∀ v, v < n → s.testBit v = s.testBit (neg n v)) : iterN n s (n / 2 + 1) = iterN n s (n / 2) := by
  have hp : s < 64 * ((2 ^ n + 63) / 64) := by omega
  have h := half_allW
  rw [List.all_eq_true] at h
  have h' := h n (List.mem_range.2 (by omega))
  rw [List.all_eq_true] at h'
  have h'' := h' (s / 64) (List.mem_range.2 (by omega))
  rw [List.all_eq_true] at h''
  have h3 := h'' (s % 64) (List.mem_range.2 (Nat.mod_lt _ (by omega)))
  rw [Nat.div_add_mod, show Nat.blt s (2 ^ n) = true from Nat.ble_eq_true_of_le hs, Bool.not_true, Bool.false_or] at h3
  have hsym : symW n s = true := by
    unfold symW
    rw [List.all_eq_true]
    intro v hv
    have hv' := List.mem_range.1 hv
    have a := hy v hv'
    rw [neg_subW n v h1 hv', ← beq_bitW, ← beq_bitW] at a
    rcases Nat.mod_two_eq_zero_or_one (s >>> v) with e | e <;> rcases Nat.mod_two_eq_zero_or_one (s >>> ((n - v) % n)) with f | f <;> rw [e, f] at a ⊢ <;> first | rfl | cases a
  unfold halfQ at h3
  rw [hsym, Bool.not_true, Bool.false_or] at h3
  have e := Nat.eq_of_beq_eq_true h3
  rw [show (1 : Nat) = iterN n s 0 from rfl, hfW_iter, hfW_iter, Nat.zero_add, Nat.zero_add] at e
  exact e
theorem signs_sym (n : Nat) (ls : List Nat) (h1 : 1 ≤ n) (h : ∀ l ∈ ls, l < n) (v : Nat) (hv : v < n) : (signsN n ls).testBit v = (signsN n ls).testBit (neg n v) := by
  unfold signsN
  have hm := mask_lt n ls h
  rw [both_bit n _ v h1 hm hv, both_bit n _ _ h1 hm (neg_lt n v h1), neg_neg' n v h1 hv, Bool.or_comm]
theorem half_word (n : Nat) (ls : List Nat) (cs : List Int) (h1 : 1 ≤ n) (h2 : n ≤ 12) (h : ∀ l ∈ ls, l < n) (hl : cs.length = ls.length) :
    ∃ ds : List Int, ds.length = ls.length ∧ absL ds ≤ n / 2 ∧ endW n ls ds = endW n ls cs := by
  have hv : endW n ls cs < n := rest_lt n _ h1
  by_cases hle : absL cs ≤ n / 2
  · exact ⟨cs, hl, hle, rfl⟩
  · have hi := (word_iff n ls (absL cs) _ h1 h hv).2 ⟨cs, hl, Nat.le_refl _, rfl⟩
    have hs := iter_stop n (signsN n ls) (n / 2) (half_iter n _ h1 h2 (signs_lt n ls h1 h) (signs_sym n ls h1 h)) (absL cs - n / 2)
    rw [show n / 2 + (absL cs - n / 2) = absL cs by omega] at hs
    rw [hs] at hi
    exact (word_iff n ls (n / 2) _ h1 h hv).1 hi
theorem short_half (n : Nat) (ls : List Nat) (v : Nat) (cs : List Int) (h1 : 1 ≤ n) (h2 : n ≤ 12) (h : ∀ l ∈ ls, l < n) (hs : shortC n ls v = some cs) : absL cs ≤ n / 2 := by
  obtain ⟨a, b, c, d⟩ := short_some n ls v cs hs
  obtain ⟨ds, p, q, r⟩ := half_word n ls cs h1 h2 h a
  exact Nat.le_trans (d ds p (r.trans b)) q
/-! All words of at most so many letters, in the program's order. -/
def upL (L : Nat) : List Int := (List.range (2 * L + 1)).map fun (i : Nat) => (i : Int) - (L : Int)
theorem up_mem (L : Nat) (x : Int) : x ∈ upL L ↔ x.natAbs ≤ L := by
  unfold upL
  rw [List.mem_map]
  constructor
  · rintro ⟨i, hi, e⟩
    have := List.mem_range.1 hi
    omega
  · intro h
    exact ⟨(x + L).toNat, List.mem_range.2 (by omega), by omega⟩
theorem up_nodup (L : Nat) : (upL L).Nodup := by
  unfold upL
  rw [List.nodup_iff_pairwise_ne, List.pairwise_map]
  exact List.pairwise_lt_range.imp fun {a b} h => by omega
def eaC : Nat → Nat → List (List Int)
  | 0, _ => [[]]
  | m + 1, L => (upL L).flatMap fun x => (eaC m (L - x.natAbs)).map (x :: ·)
theorem ea_mem (m L : Nat) (cs : List Int) : cs ∈ eaC m L ↔ cs.length = m ∧ absL cs ≤ L := by
  induction m generalizing L cs with
  | zero =>
    unfold eaC
    rw [List.mem_singleton]
    constructor
    · rintro rfl
      exact ⟨rfl, Nat.zero_le _⟩
    · exact fun h => List.eq_nil_of_length_eq_zero h.1
  | succ m ih =>
    unfold eaC
    rw [List.mem_flatMap]
    constructor
    · rintro ⟨x, hx, hc⟩
      obtain ⟨ds, hd, e⟩ := List.mem_map.1 hc
      obtain ⟨a, b⟩ := (ih _ ds).1 hd
      have := (up_mem L x).1 hx
      subst e
      refine ⟨by simp [a], ?_⟩
      show x.natAbs + absL ds ≤ L
      omega
    · rintro ⟨a, c⟩
      cases cs with
      | nil => cases a
      | cons y cs =>
        have c' : y.natAbs + absL cs ≤ L := c
        exact ⟨y, (up_mem L y).2 (by omega), List.mem_map.2 ⟨cs, (ih _ cs).2 ⟨by simpa using a, by omega⟩, rfl⟩⟩
theorem ea_nodup (m L : Nat) : (eaC m L).Nodup := by
  induction m generalizing L with
  | zero => exact List.nodup_cons.2 ⟨by simp, List.nodup_nil⟩
  | succ m ih =>
    unfold eaC
    refine flat_nodup _ _ (up_nodup L) (fun x _ => ?_) (fun x _ y _ hxy cs h1 h2 => ?_)
    · rw [List.nodup_iff_pairwise_ne, List.pairwise_map]
      exact (List.nodup_iff_pairwise_ne.1 (ih _)).imp fun h e => h (by injection e)
    · obtain ⟨s, _, e⟩ := List.mem_map.1 h1
      obtain ⟨t, _, f⟩ := List.mem_map.1 h2
      rw [← f] at e
      injection e with e1 e2
      exact hxy e1
theorem ea_len (m L : Nat) (hm : m ≤ 3) (hL : L ≤ 6) : (eaC m L).length ≤ 100000 := by
  have h : ∀ m' : Fin 4, ∀ k' : Fin 7, (eaC m'.val k'.val).length ≤ 100000 := by decide +kernel
  exact h ⟨m, by omega⟩ ⟨L, by omega⟩
/-! The shortest word. -/
theorem all_sorted (m L : Nat) : (allC m L).Pairwise fun a b => lessC b a = true := by
  induction m generalizing L with
  | zero =>
    unfold allC
    split
    · exact List.pairwise_singleton _ _
    · exact List.Pairwise.nil
  | succ m ih =>
    unfold allC
    rw [List.pairwise_flatMap]
    refine ⟨fun x _ => ?_, ?_⟩
    · rw [List.pairwise_map]
      exact (ih _).imp fun h => (lessC_cons _ _ _ _).2 (.inr ⟨rfl, h⟩)
    · unfold downL
      rw [List.pairwise_map]
      refine List.pairwise_lt_range.imp fun {x y} h a ha b hb => ?_
      obtain ⟨s, _, e⟩ := List.mem_map.1 ha
      obtain ⟨t, _, f⟩ := List.mem_map.1 hb
      rw [← e, ← f]
      exact (lessC_cons _ _ _ _).2 (.inl (by omega))
/-- The program's order of words for the shortest one: by length, then the greater amounts first. -/
def ltS (a b : List Int) : Bool := decide (absL a < absL b) || (decide (absL a = absL b) && lessC b a)
theorem find_first {p : List Int → Bool} : ∀ (l : List (List Int)) (c : List Int), (l.Pairwise fun a b => lessC b a = true) → l.find? p = some c → ∀ d ∈ l, p d = true → d = c ∨ lessC d c = true := by
  intro l
  induction l with
  | nil => intro c _ h; cases h
  | cons a l ih =>
    intro c hs hf d hd hp
    rw [List.find?_cons] at hf
    have hs' := List.pairwise_cons.1 hs
    split at hf
    · cases hf
      rcases List.mem_cons.1 hd with e | e
      · exact .inl e
      · exact .inr (hs'.1 d e)
    · rename_i hpa
      rcases List.mem_cons.1 hd with e | e
      · subst e; rw [hp] at hpa; cases hpa
      · exact ih c hs'.2 hf d e hp
/-- The least word by that order, of those that end at v, is the shortest one. -/
theorem short_least (n : Nat) (ls : List Nat) (v : Nat) (c : List Int) (h1 : 1 ≤ n) (h2 : n ≤ 12) (h : ∀ l ∈ ls, l < n)
    (hc : c ∈ (eaC ls.length (n / 2)).filter fun w => endW n ls w == v) (hm : ∀ d ∈ (eaC ls.length (n / 2)).filter fun w => endW n ls w == v, ltS d c = false) : shortC n ls v = some c := by
  obtain ⟨hc1, hc2⟩ := List.mem_filter.1 hc
  obtain ⟨hc3, hc4⟩ := (ea_mem _ _ _).1 hc1
  have hc5 : endW n ls c = v := by simpa using hc2
  cases hs : shortC n ls v with
  | none => exact absurd (short_none n ls v hs c hc3 hc5) (by omega)
  | some s =>
    obtain ⟨a, b, cc, d⟩ := short_some n ls v s hs
    have hh := short_half n ls v s h1 h2 h hs
    have hsm : s ∈ (eaC ls.length (n / 2)).filter fun w => endW n ls w == v := List.mem_filter.2 ⟨(ea_mem _ _ _).2 ⟨a, hh⟩, by simpa using b⟩
    have hx := hm s hsm
    have hle := d c hc3 hc5
    unfold ltS at hx
    rw [Bool.or_eq_false_iff, decide_eq_false_iff_not] at hx
    have he : absL s = absL c := by omega
    have hl : lessC c s = false := by simpa [he] using hx.2
    unfold shortC at hs
    obtain ⟨l, L, r, hs1, hf, hn⟩ := List.findSome?_eq_some_iff.1 hs
    have hmL := (all_mem _ _ _).1 (List.mem_of_find?_eq_some hf)
    rcases find_first _ s (all_sorted _ _) hf c ((all_mem _ _ _).2 ⟨hc3, by rw [← he]; exact hmL.2⟩) (by simpa using hc5) with e | e
    · rw [e]
    · rw [hl] at e; cases e
theorem short_nil (n : Nat) (ls : List Nat) (v : Nat) (h1 : 1 ≤ n) (h2 : n ≤ 12) (h : ∀ l ∈ ls, l < n) (hc : (eaC ls.length (n / 2)).filter (fun w => endW n ls w == v) = []) : shortC n ls v = none := by
  cases hs : shortC n ls v with
  | none => rfl
  | some s =>
    obtain ⟨a, b, cc, d⟩ := short_some n ls v s hs
    have hh := short_half n ls v s h1 h2 h hs
    have hsm : s ∈ (eaC ls.length (n / 2)).filter fun w => endW n ls w == v := List.mem_filter.2 ⟨(ea_mem _ _ _).2 ⟨a, hh⟩, by simpa using b⟩
    rw [hc] at hsm
    cases hsm
/-! Laws, when words come by amounts. -/
theorem part_less (a b : List Int) (h : a.length = b.length) (hp : partC a b = true) (hne : a ≠ b) : lessC a b = true := by
  induction a generalizing b with
  | nil => cases b with
    | nil => exact absurd rfl hne
    | cons => cases h
  | cons x a ih => cases b with
    | nil => cases h
    | cons y b =>
      have hp' : (decide (x ≤ y) && partC a b) = true := hp
      rw [Bool.and_eq_true, decide_eq_true_eq] at hp'
      by_cases e : x = y
      · subst e
        exact (lessC_cons _ _ _ _).2 (.inr ⟨rfl, ih b (by simpa using h) hp'.2 (fun e => hne (by rw [e]))⟩)
      · exact (lessC_cons _ _ _ _).2 (.inl (by omega))
def leastStep (part : List Int → List Int → Bool) (laws : List (List Int)) (cs : List Int) : List (List Int) := if laws.any fun l => part l cs then laws else laws ++ [cs]
theorem least_fold (n : Nat) (ls : List Nat) (m : Nat) (E : List (List Int)) (hE : ∀ cs ∈ E, cs.length = m ∧ 1 ≤ absL cs ∧ zeroC n ls cs = true) (hS : E.Pairwise fun a b => lessC a b = true)
    (hC : ∀ cs ∈ E, ∀ ds : List Int, ds.length = m → 1 ≤ absL ds → absL ds ≤ absL cs → zeroC n ls ds = true → ds ∈ E) : ∀ (R P : List (List Int)), E = P ++ R → R.foldl (leastStep partC) (P.filter (minB n ls m)) = E.filter (minB n ls m) := by
  intro R
  induction R with
  | nil =>
    intro P h
    rw [h, List.append_nil]
    rfl
  | cons cs R ih =>
    intro P h
    have hmem : cs ∈ E := by rw [h]; simp
    obtain ⟨hl, h1, hz⟩ := hE cs hmem
    rw [h] at hS
    rw [List.pairwise_append] at hS
    have hR : ∀ x ∈ R, lessC cs x = true := (List.pairwise_cons.1 hS.2.1).1
    have hstep : leastStep partC (P.filter (minB n ls m)) cs = (P ++ [cs]).filter (minB n ls m) := by
      rw [List.filter_append]
      unfold leastStep
      by_cases hm : minB n ls m cs = true
      · obtain ⟨_, hu⟩ := (min_iff _ _ _ _).1 hm
        have hany : ((P.filter (minB n ls m)).any fun l => partC l cs) = false := by
          rw [List.any_eq_false]
          intro l hlm hp
          rw [List.mem_filter] at hlm
          have hlE : l ∈ E := by rw [h]; exact List.mem_append_left _ hlm.1
          obtain ⟨a, b, z⟩ := hE l hlE
          have := hu l a b (part_abs l cs (by omega) (zero_sign _ _ _ z) hp).1 z hp
          have hlt := hS.2.2 l hlm.1 cs (List.mem_cons_self ..)
          rw [this, less_irrefl] at hlt
          cases hlt
        rw [hany, show [cs].filter (minB n ls m) = [cs] by simp [hm]]
        rfl
      · rw [show [cs].filter (minB n ls m) = [] by simp [hm], List.append_nil]
        obtain ⟨ds, a, b, c, d⟩ := min_below n ls m _ cs (Nat.le_refl _) hl h1 hz
        have hz' := ((min_iff _ _ _ _).1 c).1
        have g := part_abs ds cs (by omega) (zero_sign _ _ _ hz') d
        have hne : ds ≠ cs := by
          intro e
          subst e
          exact hm c
        have hdE := hC cs hmem ds a b g.1 hz'
        have hlt := part_less ds cs (by omega) d hne
        have hdP : ds ∈ P := by
          rw [h, List.mem_append] at hdE
          rcases hdE with e | e
          · exact e
          · rcases List.mem_cons.1 e with e | e
            · exact absurd e hne
            · have := less_trans _ _ _ hlt (hR ds e)
              rw [less_irrefl] at this
              cases this
        have hany : ((P.filter (minB n ls m)).any fun l => partC l cs) = true := List.any_eq_true.2 ⟨ds, List.mem_filter.2 ⟨hdP, c⟩, d⟩
        rw [hany]
        rfl
    rw [List.foldl_cons, hstep]
    exact ih (P ++ [cs]) (by rw [h, List.append_assoc]; rfl)
/-- Zero words of at most k letters, by amounts. -/
def zerosL (n : Nat) (ls : List Nat) (k : Nat) : List (List Int) := (lexC ls.length k).filter fun cs => decide (1 ≤ absL cs) && zeroC n ls cs
theorem zeros_mem (n : Nat) (ls : List Nat) (k : Nat) (cs : List Int) : cs ∈ zerosL n ls k ↔ cs.length = ls.length ∧ 1 ≤ absL cs ∧ absL cs ≤ k ∧ zeroC n ls cs = true := by
  unfold zerosL
  rw [List.mem_filter, lex_mem, Bool.and_eq_true, decide_eq_true_eq]
  constructor
  · rintro ⟨⟨a, b, c⟩, d, e⟩
    exact ⟨a, d, c, e⟩
  · rintro ⟨a, b, c, d⟩
    exact ⟨⟨a, zero_sign _ _ _ d, c⟩, b, d⟩
theorem zeros_least (n : Nat) (ls : List Nat) (k : Nat) : (zerosL n ls k).foldl (leastStep partC) [] = lawsN n ls k := by
  have h := least_fold n ls ls.length (zerosL n ls k) (fun cs hc => by obtain ⟨a, b, c, d⟩ := (zeros_mem _ _ _ _).1 hc; exact ⟨a, b, d⟩) ((lex_sorted _ _).filter _)
    (fun cs hc ds a b c d => by obtain ⟨p, q, r, s⟩ := (zeros_mem _ _ _ _).1 hc; exact (zeros_mem _ _ _ _).2 ⟨a, b, Nat.le_trans c r, d⟩) (zerosL n ls k) [] rfl
  rw [show ([] : List (List Int)).filter (minB n ls ls.length) = [] from rfl] at h
  rw [h]
  unfold zerosL lawsN
  rw [List.filter_filter]
  refine List.filter_congr fun cs _ => ?_
  cases hm : minB n ls ls.length cs
  · simp
  · rw [((min_iff _ _ _ _).1 hm).1]
    simp
/-- The words that the program gathers for laws, sorted by amounts. -/
theorem zeros_sorted (n : Nat) (ls : List Nat) (k : Nat) (x : List (List Int)) (hs : x.Pairwise fun a b => lessC a b = true)
    (hm : ∀ a, a ∈ x ↔ a ∈ (eaC ls.length k).filter fun w => decide (1 ≤ absL w) && zeroC n ls w) : x = zerosL n ls k := by
  refine sorted_eq x _ hs ((lex_sorted _ _).filter _) fun a => ?_
  rw [hm, zeros_mem, List.mem_filter, ea_mem, Bool.and_eq_true, decide_eq_true_eq]
  constructor
  · rintro ⟨⟨a, b⟩, c, d⟩
    exact ⟨a, c, b, d⟩
  · rintro ⟨a, b, c, d⟩
    exact ⟨⟨a, c⟩, b, d⟩
/-! Counts of a text. -/
def smB (k : Nat) (xs : List UInt8) : Nat := xs.count (UInt8.ofNat (97 + k))
def grB (k : Nat) (xs : List UInt8) : Nat := xs.count (UInt8.ofNat (65 + k))
/-- How many of the bytes are among the first m letters. -/
def totB (xs : List UInt8) : Nat → Nat
  | 0 => 0
  | k + 1 => totB xs k + (smB k xs + grB k xs)
def difB (xs : List UInt8) (m : Nat) : List Int := (List.range m).map fun k => (smB k xs : Int) - (grB k xs : Int)
theorem sm_cons (k : Nat) (b : UInt8) (bs : List UInt8) : smB k (b :: bs) = smB k bs + smB k [b] ∧ grB k (b :: bs) = grB k bs + grB k [b] := by
  unfold smB grB
  rw [List.count_cons, List.count_cons, List.count_cons, List.count_cons, List.count_nil, List.count_nil]
  exact ⟨by omega, by omega⟩
theorem tot_cons (b : UInt8) (bs : List UInt8) (m : Nat) : totB (b :: bs) m = totB bs m + totB [b] m := by
  induction m with
  | zero => rfl
  | succ m ih =>
    show totB (b :: bs) m + (smB m (b :: bs) + grB m (b :: bs)) = (totB bs m + (smB m bs + grB m bs)) + (totB [b] m + (smB m [b] + grB m [b]))
    rw [ih, (sm_cons m b bs).1, (sm_cons m b bs).2]
    omega
theorem tot_one (m : Nat) (hm : m ≤ 3) (b : UInt8) : totB [b] m = if okB m b then 1 else 0 := by
  have h : ∀ m' : Fin 4, ∀ i : Fin 256, totB [UInt8.ofNat i.val] m'.val = if okB m'.val (UInt8.ofNat i.val) then 1 else 0 := by decide +kernel
  have e := h ⟨m, by omega⟩ ⟨b.toNat, b.toNat_lt⟩
  rwa [UInt8.ofNat_toNat] at e
theorem dif_one (k : Nat) (hk : k < 3) (b : UInt8) : (smB k [b] : Int) - (grB k [b] : Int) = if letK b = k then letS b else 0 := by
  have h : ∀ k' : Fin 3, ∀ i : Fin 256, (smB k'.val [UInt8.ofNat i.val] : Int) - (grB k'.val [UInt8.ofNat i.val] : Int) = if letK (UInt8.ofNat i.val) = k'.val then letS (UInt8.ofNat i.val) else 0 := by decide +kernel
  have e := h ⟨k, hk⟩ ⟨b.toNat, b.toNat_lt⟩
  rwa [UInt8.ofNat_toNat] at e
theorem tot_le (xs : List UInt8) (m : Nat) (hm : m ≤ 3) : totB xs m ≤ xs.length ∧ (totB xs m = xs.length ↔ ∀ b ∈ xs, okB m b) := by
  induction xs with
  | nil =>
    have h0 : ∀ m, totB [] m = 0 := by
      intro m
      induction m with
      | zero => rfl
      | succ m ih => show totB [] m + (smB m [] + grB m []) = 0; rw [ih]; rfl
    rw [h0]
    exact ⟨Nat.le_refl _, fun _ b hb => (by cases hb), fun _ => rfl⟩
  | cons b bs ih =>
    rw [tot_cons, tot_one m hm b, List.length_cons]
    obtain ⟨i1, i2⟩ := ih
    by_cases h : okB m b
    · rw [if_pos h]
      refine ⟨by omega, fun e c hc => ?_, fun e => ?_⟩
      · rcases List.mem_cons.1 hc with f | f
        · rw [f]; exact h
        · exact i2.1 (by omega) c f
      · have := i2.2 fun c hc => e c (List.mem_cons_of_mem _ hc)
        omega
    · rw [if_neg h]
      refine ⟨by omega, fun e => by omega, fun e => absurd (e b (List.mem_cons_self ..)) h⟩
theorem cnt_dif (m : Nat) (hm : m ≤ 3) (xs : List UInt8) : ∀ acc : List Int, acc.length = m → (∀ b ∈ xs, okB m b) → cntC m acc xs = some ((List.range m).map fun k => acc.getD k 0 + ((smB k xs : Int) - (grB k xs : Int))) := by
  induction xs with
  | nil =>
    intro acc ha _
    show some acc = _
    congr 1
    refine List.ext_getElem? fun i => ?_
    by_cases hi : i < m
    · rw [List.getElem?_map, List.getElem?_range hi, Option.map_some, List.getD_eq_getElem?_getD, List.getElem?_eq_getElem (by omega)]
      simp [smB, grB]
    · rw [List.getElem?_eq_none (by omega), List.getElem?_eq_none (by simp; omega)]
  | cons b bs ih =>
    intro acc ha hb
    have h1 := hb b (List.mem_cons_self ..)
    show (if okB m b then cntC m (addAt acc (letK b).toNat (letS b)) bs else none) = _
    rw [if_pos h1, ih _ (by rw [addAt_len, ha]) fun c hc => hb c (List.mem_cons_of_mem _ hc)]
    congr 1
    refine List.map_congr_left fun k hk => ?_
    have hk' := List.mem_range.1 hk
    rw [(sm_cons k b bs).1, (sm_cons k b bs).2]
    have hd := dif_one k (by omega) b
    unfold addAt
    have h1' : 0 ≤ letK b ∧ letK b < m := h1
    by_cases e : letK b = k
    · rw [if_pos e] at hd
      have e2 : (letK b).toNat = k := by omega
      rw [e2, show (acc.set k (acc.getD k 0 + letS b)).getD k 0 = acc.getD k 0 + letS b by rw [List.getD_eq_getElem?_getD, List.getElem?_set_self (by omega)]; rfl]
      rw [← hd, Int.natCast_add, Int.natCast_add]
      omega
    · rw [if_neg e] at hd
      rw [show (acc.set (letK b).toNat (acc.getD (letK b).toNat 0 + letS b)).getD k 0 = acc.getD k 0 by rw [List.getD_eq_getElem?_getD, List.getElem?_set_ne (by omega), ← List.getD_eq_getElem?_getD]]
      rw [Int.natCast_add, Int.natCast_add]
      omega
/-- The program's counts are the model's. -/
theorem read_yes (m : Nat) (hm : m ≤ 3) (xs : List UInt8) (h : totB xs m = xs.length) (h60 : totB xs m ≤ 60) : cntT m xs = some (difB xs m) := by
  have hb := (tot_le xs m hm).2.1 h
  unfold cntT
  rw [if_pos (by omega), cnt_dif m hm xs _ (by simp) hb]
  congr 1
  refine List.map_congr_left fun k hk => ?_
  rw [List.getD_eq_getElem?_getD, List.getElem?_replicate_of_lt (List.mem_range.1 hk)]
  simp
theorem read_no (m : Nat) (hm : m ≤ 3) (xs : List UInt8) (h : ¬ (totB xs m = xs.length ∧ totB xs m ≤ 60)) : cntT m xs = none := by
  cases hc : cntT m xs with
  | none => rfl
  | some cs =>
    have := (cntT_iff m xs).1 (by rw [hc]; rfl)
    have := (tot_le xs m hm).2.2 this.2
    exact absurd ⟨by omega, by omega⟩ h
theorem dif_len (xs : List UInt8) (m : Nat) : (difB xs m).length = m := by simp [difB]
theorem dif_up (xs : List UInt8) (m : Nat) : difB xs (m + 1) = difB xs m ++ [(smB m xs : Int) - (grB m xs : Int)] := by
  unfold difB
  rw [List.range_succ, List.map_append]
  rfl
theorem count_small (l : List UInt8) (c : UInt8) : l.count c ≤ l.length := List.count_le_length
/-! A word in the program: three amounts, 0 for letters that aren't there. -/
def triL (cs : List Int) : List Int := [cs.getD 0 0, cs.getD 1 0, cs.getD 2 0]
theorem tri_of (cs : List Int) (h : cs.length ≤ 3) : triL cs = cs ++ List.replicate (3 - cs.length) 0 := by
  match cs, h with
  | [], _ => rfl
  | [_], _ => rfl
  | [_, _], _ => rfl
  | [_, _, _], _ => rfl
  | _ :: _ :: _ :: _ :: _, h => simp at h
theorem tri_less (a b : List Int) (h : a.length = b.length) (h3 : a.length ≤ 3) : lessC (triL a) (triL b) = lessC a b := by
  match a, b, h, h3 with
  | [], [], _, _ => decide
  | [x], [y], _, _ =>
    show (if x ≠ y then decide (x < y) else (if (0 : Int) ≠ 0 then decide ((0 : Int) < 0) else if (0 : Int) ≠ 0 then decide ((0 : Int) < 0) else false)) = (if x ≠ y then decide (x < y) else false)
    simp
  | [x, x'], [y, y'], _, _ =>
    show (if x ≠ y then decide (x < y) else (if x' ≠ y' then decide (x' < y') else if (0 : Int) ≠ 0 then decide ((0 : Int) < 0) else false)) = (if x ≠ y then decide (x < y) else if x' ≠ y' then decide (x' < y') else false)
    simp
  | [_, _, _], [_, _, _], _, _ => rfl
  | _ :: _ :: _ :: _ :: _, _, _, h => simp at h
theorem tri_part (a b : List Int) (h : a.length = b.length) (h3 : a.length ≤ 3) : partC (triL a) (triL b) = partC a b := by
  match a, b, h, h3 with
  | [], [], _, _ => decide
  | [x], [y], _, _ => show (decide (x ≤ y) && (decide ((0 : Int) ≤ 0) && (decide ((0 : Int) ≤ 0) && true))) = (decide (x ≤ y) && true); simp
  | [x, x'], [y, y'], _, _ => show (decide (x ≤ y) && (decide (x' ≤ y') && (decide ((0 : Int) ≤ 0) && true))) = (decide (x ≤ y) && (decide (x' ≤ y') && true)); simp
  | [_, _, _], [_, _, _], _, _ => rfl
  | _ :: _ :: _ :: _ :: _, _, _, h => simp at h
theorem tri_abs (a : List Int) (h3 : a.length ≤ 3) : absL (triL a) = absL a := by
  match a, h3 with
  | [], _ => rfl
  | [x], _ => show x.natAbs + (0 + (0 + 0)) = x.natAbs + 0; omega
  | [x, y], _ => show x.natAbs + (y.natAbs + (0 + 0)) = x.natAbs + (y.natAbs + 0); omega
  | [_, _, _], _ => rfl
  | _ :: _ :: _ :: _ :: _, h => simp at h
theorem tri_sign (a : List Int) (h3 : a.length ≤ 3) : signC (triL a) = signC a := by
  match a, h3 with
  | [], _ => rfl
  | [x], _ => simp [signC, triL]
  | [x, y], _ => simp [signC, triL]
  | [_, _, _], _ => rfl
  | _ :: _ :: _ :: _ :: _, h => simp at h
theorem tri_inj (a b : List Int) (h : a.length = b.length) (h3 : a.length ≤ 3) (e : triL a = triL b) : a = b := by
  rw [tri_of a h3, tri_of b (by omega)] at e
  exact (List.append_inj e h).1
end Go.Proofs.Ytnlalccnhpblkaa

/- Words, the program's side: letters that are linked, and ends of words. -/
namespace Go.Proofs.Ytnlalccnhpblkaa
open Go.RowKit Go.Shelf
set_option linter.unusedVariables false
attribute [local go_sem] Oper.semAt_some
/-- Block B holds three cells. -/
def Ter (W : World) (B : Nat) (t : TypeId) (u v x : Value) : Prop := W.heap[B]? = some (.cells #[u, v, x] t (0, 0))
theorem Ter.lt {W : World} {B : Nat} {t : TypeId} {u v x : Value} (h : Ter W B t u v x) : B < W.heap.size := (Array.getElem?_eq_some_iff.1 h).1
theorem Ter.cell0 {W : World} {B : Nat} {t : TypeId} {u v x : Value} (h : Ter W B t u v x) : W.cell? ⟨B, 0, none⟩ = some u := by simp [World.cell?, show W.heap[B]? = _ from h]
theorem Ter.cell1 {W : World} {B : Nat} {t : TypeId} {u v x : Value} (h : Ter W B t u v x) : W.cell? ⟨B, 1, none⟩ = some v := by simp [World.cell?, show W.heap[B]? = _ from h]
theorem Ter.cell2 {W : World} {B : Nat} {t : TypeId} {u v x : Value} (h : Ter W B t u v x) : W.cell? ⟨B, 2, none⟩ = some x := by simp [World.cell?, show W.heap[B]? = _ from h]
theorem Ter.new (W : World) (t : TypeId) (u v x : Value) : Ter (W.alloc (.cells #[u, v, x] t)) W.heap.size t u v x := World.alloc_heap_new W _
theorem Ter.same {W W' : World} {B : Nat} {t : TypeId} {u v x : Value} (h : Ter W B t u v x) (e : W'.heap[B]? = W.heap[B]?) : Ter W' B t u v x := e.trans h
theorem Ter.kept {W W' : World} {row : Option Nat} {B : Nat} {t : TypeId} {u v x : Value} (h : Ter W B t u v x) (hg : W.grownBy W' row) (hne : some B ≠ row) : Ter W' B t u v x := (hg.block B h.lt hne).trans h
theorem Ter.alloc {W : World} {B : Nat} {t : TypeId} {u v x : Value} (h : Ter W B t u v x) (o : Obj) : Ter (W.alloc o) B t u v x := h.kept (World.grownBy_alloc W o none) (by simp)
theorem Ter.below {W W' : World} {B N : Nat} {t : TypeId} {u v x : Value} (h : Ter W B t u v x) (hN : B < N) (hb : Below N W W') : Ter W' B t u v x := h.same (hb.block B hN)
theorem Ter.set {W : World} {B : Nat} {t : TypeId} {u v x : Value} (h : Ter W B t u v x) (i : Nat) (y : Value) (hi : i < 3) : Ter (W.setCell ⟨B, i, none⟩ y) B t (if i = 0 then y else u) (if i = 1 then y else v) (if i = 2 then y else x) := by
  unfold Ter at *
  have e : (W.setCell ⟨B, i, none⟩ y).heap[B]? = W.heap[B]?.map fun o => match o with
      | .cells c elem frozen => .cells (c.setIfInBounds i y) elem frozen
      | o => o := by
    unfold World.setCell
    simp only [Array.getElem?_modify]
    rw [if_pos trivial]
    rfl
  rw [e, h]
  rcases (show i = 0 ∨ i = 1 ∨ i = 2 by omega) with rfl | rfl | rfl <;> rfl
/-- Letters, linked, from v on: the places ls, with the indices from k on. -/
def Lets (W : World) : Value → Nat → List Nat → Prop
  | v, _, [] => v = .pointer none
  | v, k, l :: ls => ∃ b nx, v = .pointer (some ⟨b, 0, none⟩) ∧ Ter W b 84 (.int .i64 (l : Int)) (.int .i64 (k : Int)) nx ∧ Lets W nx (k + 1) ls
theorem Lets.grown {W W' : World} (hg : ∀ b u v x, Ter W b 84 u v x → W'.heap[b]? = W.heap[b]?) {v : Value} {k : Nat} {ls : List Nat} (h : Lets W v k ls) : Lets W' v k ls := by
  induction ls generalizing v k with
  | nil => exact h
  | cons l ls ih =>
    obtain ⟨b, nx, e, hT, hr⟩ := h
    exact ⟨b, nx, e, hT.same (hg b _ _ _ hT), ih hr⟩
theorem Lets.below {W W' : World} {v : Value} {k : Nat} {ls : List Nat} (h : Lets W v k ls) (hb : Below W.heap.size W W') : Lets W' v k ls := h.grown fun b _ _ _ hT => hb.block b hT.lt
theorem Lets.drew {W : World} {v : Value} {k : Nat} {ls : List Nat} (h : Lets W v k ls) : Lets W.drew v k ls := Lets.grown (W := W) (W' := W.drew) (fun _ _ _ _ _ => rfl) h
theorem small_lt_any (W : World) (b l k : Nat) (nx : Value) (hk : k < 3) (hT : Ter W b 84 (.int .i64 (l : Int)) (.int .i64 (k : Int)) nx) :
    Calls Try.prog 53 #[.pointer (some ⟨b, 0, none⟩)] W fun e w' => e = .returned (.string ⟨#[UInt8.ofNat (97 + k)]⟩) ∧ Below W.heap.size W w' := by
  have h1 := hT.cell1
  have hB := Lib.hid (Below.refl W.heap.size W)
  clear hT
  rcases (show k = 0 ∨ k = 1 ∨ k = 2 by omega) with rfl | rfl | rfl <;>
  · go_enter Try.func53, Try.ntmps53
    go_wp2
    go_region
    go_wp2
    go_ret
    exact ⟨rfl, hB.out.drew⟩
theorem great_any (W : World) (b l k : Nat) (nx : Value) (hk : k < 3) (hT : Ter W b 84 (.int .i64 (l : Int)) (.int .i64 (k : Int)) nx) :
    Calls Try.prog 54 #[.pointer (some ⟨b, 0, none⟩)] W fun e w' => e = .returned (.string ⟨#[UInt8.ofNat (65 + k)]⟩) ∧ Below W.heap.size W w' := by
  have h1 := hT.cell1
  have hB := Lib.hid (Below.refl W.heap.size W)
  clear hT
  rcases (show k = 0 ∨ k = 1 ∨ k = 2 by omega) with rfl | rfl | rfl <;>
  · go_enter Try.func54, Try.ntmps54
    go_wp2
    go_region
    go_wp2
    go_ret
    exact ⟨rfl, hB.out.drew⟩
/-- The amount of a letter; the place of a letter. -/
def cO (cs : List Int) (i : Nat) : Int := cs.getD i 0
def lO (ls : List Nat) (i : Nat) : Nat := ls.getD i 0
/-- A word in the program. -/
def wV (cs : List Int) : Array Value := #[.int .i64 (cO cs 0), .int .i64 (cO cs 1), .int .i64 (cO cs 2)]
theorem Ter.at {W : World} {B : Nat} {t : TypeId} {cs : List Int} (h : Ter W B t (.int .i64 (cO cs 0)) (.int .i64 (cO cs 1)) (.int .i64 (cO cs 2))) (k : Nat) (hk : k < 3) : W.cell? ⟨B, k, none⟩ = some (.int .i64 (cO cs k)) := by
  rcases (show k = 0 ∨ k = 1 ∨ k = 2 by omega) with rfl | rfl | rfl
  · exact h.cell0
  · exact h.cell1
  · exact h.cell2
theorem end_step (ls : List Nat) (cs : List Int) (k : Nat) (hl : cs.length = ls.length) (hk : k < ls.length) : endI (ls.take (k + 1)) (cs.take (k + 1)) = endI (ls.take k) (cs.take k) + cO cs k * ((lO ls k : Nat) : Int) := by
  induction ls generalizing cs k with
  | nil => simp at hk
  | cons l ls ih =>
    cases cs with
    | nil => cases hl
    | cons c cs =>
      cases k with
      | zero =>
        show (l : Int) * c + 0 = 0 + c * (l : Int)
        rw [Int.mul_comm]; omega
      | succ k =>
        have h := ih cs k (by simpa using hl) (by simpa using hk)
        show (l : Int) * c + endI (ls.take (k + 1)) (cs.take (k + 1)) = (l : Int) * c + endI (ls.take k) (cs.take k) + cO cs k * ((lO ls k : Nat) : Int)
        rw [h]; omega
theorem mul_inW (c : Int) (l : Nat) (hc : c.natAbs ≤ 60) (hl : l ≤ 12) : -720 ≤ c * (l : Int) ∧ c * (l : Int) ≤ 720 := by
  have h1 : (c * (l : Int)).natAbs ≤ 60 * 12 := by
    rw [Int.natAbs_mul]
    exact Nat.mul_le_mul hc (by omega)
  omega
theorem end_in (ls : List Nat) (cs : List Int) (k : Nat) (hl : cs.length = ls.length) (hc : ∀ i, (cO cs i).natAbs ≤ 60) (h12 : ∀ i, lO ls i ≤ 12) (hk : k ≤ ls.length) : -(720 * (k : Int)) ≤ endI (ls.take k) (cs.take k) ∧ endI (ls.take k) (cs.take k) ≤ 720 * (k : Int) := by
  induction k with
  | zero => rw [List.take_zero, List.take_zero]; exact ⟨by decide, by decide⟩
  | succ k ih =>
    have h := mul_inW (cO cs k) (lO ls k) (hc k) (h12 k)
    have i := ih (by omega)
    rw [end_step ls cs k hl (by omega)]
    omega
theorem drop_cons (ls : List Nat) (k : Nat) (hk : k < ls.length) : ls.drop k = lO ls k :: ls.drop (k + 1) := by
  unfold lO
  rw [List.drop_eq_getElem_cons hk, List.getD_eq_getElem?_getD, List.getElem?_eq_getElem hk]
  rfl
theorem let_at {P : Nat → Prop} (ls : List Nat) (h0 : P 0) (h : ∀ l ∈ ls, P l) (i : Nat) : P (lO ls i) := by
  unfold lO
  rw [List.getD_eq_getElem?_getD]
  cases e : ls[i]? with
  | none => exact h0
  | some x => exact h x (List.mem_of_getElem? e)
set_option maxRecDepth 100000 in
set_option maxHeartbeats 2000000 in
theorem end_any (n : Nat) (p : Value) (ls : List Nat) (cs : List Int) (w : World) (h1 : 1 ≤ n) (h2 : n ≤ 12) (hl : cs.length = ls.length) (h3 : ls.length ≤ 3) (hc : ∀ i, (cO cs i).natAbs ≤ 60) (hls : ∀ l ∈ ls, l ≤ 12) (hL : Lets w p 0 ls) :
    Calls Try.prog 28 #[.agg #[.int .i64 (n:Int), p], .agg (wV cs)] w fun e w' => e = .returned (.int .i64 ((endW n ls cs : Nat) : Int)) ∧ Below w.heap.size w w' := by
  have hB0 : Below w.heap.size w ((w.alloc (.cells #[.int .i64 (n:Int), p] 50)).alloc (.cells (wV cs) 52)) := ((Below.refl _ w).alloc (Nat.le_refl _) _).alloc (by simp) _
  have hD0 := (Duo.new w 50 (.int .i64 (n:Int)) p).alloc (.cells (wV cs) 52)
  have hT0 := Ter.new (w.alloc (.cells #[.int .i64 (n:Int), p] 50)) 52 (.int .i64 (cO cs 0)) (.int .i64 (cO cs 1)) (.int .i64 (cO cs 2))
  simp only [World.size_alloc] at hT0
  have d1 := hD0.cell1
  have HIn := Lib.hid (end_in ls cs · hl hc (let_at (P := (· ≤ 12)) ls (by omega) hls))
  have HM := Lib.hid (fun k => mul_inW (cO cs k) (lO ls k) (hc k) (let_at (P := (· ≤ 12)) ls (by omega) hls k))
  have HS := Lib.hid (end_step ls cs · hl)
  have HDr := Lib.hid (drop_cons ls)
  have H3 := Lib.hid h3
  have HL := Lib.hid hl
  have HR := Lib.hid (fun v W hv => rest_any n v W h1 h2 hv)
  have HE : Hid (rest n (endI (ls.take ls.length) (cs.take ls.length)) = endW n ls cs) := Lib.hid (by rw [List.take_length, ← hl, List.take_length]; rfl)
  have HB0 := Lib.hid hB0
  have HL0 := Lib.hid (hL.below hB0)
  have HD0 := Lib.hid hD0
  have HT0 := Lib.hid hT0
  clear h1 h2 hl h3 hc hls hL hB0 hT0 hD0
  go_enter Try.func28, Try.ntmps28
  unfold wV at *
  go_wp2
  obtain ⟨W1, hW1⟩ : ∃ W1, (w.alloc (.cells #[.int .i64 (n:Int), p] 50)).alloc (.cells #[.int .i64 (cO cs 0), .int .i64 (cO cs 1), .int .i64 (cO cs 2)] 52) = W1 := ⟨_, rfl⟩
  rw [hW1] at HB0 HL0 HD0 HT0 ⊢
  clear hW1 d1
  go_loopg [5, 6] ls.length (fun gh tot v wr => ∃ k : Nat, k + gh = ls.length ∧ tot = .int .i64 (endI (ls.take k) (cs.take k)) ∧ Hid (Lets wr v k (ls.drop k)) ∧ Hid (Below w.heap.size w wr) ∧ Hid (Duo wr w.heap.size 50 (.int .i64 (n:Int)) p) ∧ Hid (Ter wr (w.heap.size + 1) 52 (.int .i64 (cO cs 0)) (.int .i64 (cO cs 1)) (.int .i64 (cO cs 2))))
  case atStart => exact ⟨0, by omega, rfl, HL0, HB0, HD0, HT0⟩
  case round =>
    obtain ⟨k, hk, rfl, HLe, HB, HD, HT⟩ := hrel
    clear HB0 HL0 HD0 HT0
    cases gk with
    | zero =>
      have hk' : k = ls.length := by omega
      subst hk'
      have hv := HLe.out
      rw [List.drop_length] at hv
      have hv' : u6 = .pointer none := hv
      subst hv'
      have d0 := HD.out.cell0
      have hb := HIn.out ls.length (Nat.le_refl _)
      have h3' := H3.out
      have HE' := HE
      obtain ⟨T, hT⟩ : ∃ T, endI (ls.take ls.length) (cs.take ls.length) = T := ⟨_, rfl⟩
      rw [hT] at HE' hb ⊢
      have HC := Lib.hid (HR.out T wr (by omega))
      clear hv h3' hb hk hT
      go_wp2_with (go_at_call 49; refine (HC.out).mono ?_; rintro e w' ⟨rfl, hb⟩)
      go_wp2
      go_ret
      exact ⟨ret_int (by rw [HE'.out]), HB.out.trans (hb.mono HB.out.size)⟩
    | succ g =>
      have hkl : k < ls.length := by omega
      have h3' := H3.out
      have hv := HLe.out
      rw [HDr.out k hkl] at hv
      obtain ⟨b, nx, rfl, hT, hr⟩ := hv
      have c0 := hT.cell0
      have c1 := hT.cell1
      have c2 := hT.cell2
      have cw := HT.out.at k (by omega)
      have hm := HM.out k
      have hi := HIn.out k (by omega)
      have hs := HS.out k hkl
      obtain ⟨t0, ht0⟩ : ∃ t0, endI (ls.take k) (cs.take k) = t0 := ⟨_, rfl⟩
      rw [ht0] at hs hi ⊢
      obtain ⟨m0, hm0⟩ : ∃ m0, cO cs k * ((lO ls k : Nat) : Int) = m0 := ⟨_, rfl⟩
      rw [hm0] at hs hm
      have hw1 : wrap64 (cO cs k * ((lO ls k : Nat) : Int)) = m0 := by rw [hm0]; exact IntWalk.wrap64_in _ (by omega)
      have hw2 : wrap64 (t0 + m0) = t0 + m0 := IntWalk.wrap64_in _ (by omega)
      have HLn : Hid (Lets wr nx (k + 1) (ls.drop (k + 1))) := Lib.hid hr
      have HN := Lib.hid hs
      have hk3 : k = 0 ∨ k = 1 ∨ k = 2 := by omega
      have HK := Lib.hid hk
      clear hm hi hs ht0 hm0 hr hT h3' hk hkl HLe
      rcases hk3 with rfl | rfl | rfl
      · go_wp2
        go_region
        go_wp2
        go_roundg g
        case rel => exact ⟨1, by have := HK.out; omega, by rw [HN.out, hw2], Lib.hid HLn.out.drew, Lib.hid HB.out.drew, Lib.hid HD.out, Lib.hid HT.out⟩
        case measure => omega
      · go_wp2
        go_region
        go_wp2
        go_roundg g
        case rel => exact ⟨2, by have := HK.out; omega, by rw [HN.out, hw2], Lib.hid HLn.out.drew, Lib.hid HB.out.drew, Lib.hid HD.out, Lib.hid HT.out⟩
        case measure => omega
      · go_wp2
        go_region
        go_wp2
        go_roundg g
        case rel => exact ⟨3, by have := HK.out; omega, by rw [HN.out, hw2], Lib.hid HLn.out.drew, Lib.hid HB.out.drew, Lib.hid HD.out, Lib.hid HT.out⟩
        case measure => omega
end Go.Proofs.Ytnlalccnhpblkaa

/- Words, the program's side: letters out of a list. -/
namespace Go.Proofs.Ytnlalccnhpblkaa
open Go.RowKit Go.Shelf
set_option linter.unusedVariables false
attribute [local go_sem] Oper.semAt_some
/-- The indices that have come when k have: from the last one down. -/
def dnL (L k : Nat) : List Nat := (List.range k).map fun j => L - 1 - j
theorem dnL_len (L k : Nat) : (dnL L k).length = k := by simp [dnL]
theorem dnL_up (L k : Nat) : dnL L (k + 1) = dnL L k ++ [L - 1 - k] := by
  unfold dnL
  rw [List.range_succ, List.map_append]
  rfl
/-- The amounts of a list, whichever index. -/
def xO (xs : List Int) (i : Nat) : Int := xs.getD i 0
set_option maxHeartbeats 1000000 in
theorem backward1_in (m : Nat) (hm : 1 ≤ m) (l Bn n₀ g L cap : Nat) (xs : List Int) (hL : xs.length = L) (hL3 : L ≤ 3) (J Jx : List Nat → World → Prop) (V : World)
    (hg : g < n₀) (hb : ∀ W, Below n₀ V W → ∀ i, i < L → W.cell? ⟨g, i, none⟩ = some (.int .i64 (xO xs i)))
    (hY : ∀ pre (x : Nat) W, J pre W → pre.length < 100 → YieldAt Fence.wide (m - 1) Try.prog l #[.int .i64 (x : Int), .int .i64 (xO xs x)] W fun e W' =>
      (e = .returned (.bool true) ∧ J (pre ++ [x]) W' ∧ KB Bn n₀ W W') ∨ (e = .returned (.bool false) ∧ Jx (pre ++ [x]) W'))
    (W : World) (hV : Below n₀ V W) (hBn : Boxed W Bn 23 (.slice (some ⟨g, 0, none⟩) L cap)) (h0 : J [] W) :
    CallsIn Fence.wide m Try.prog 80 #[.func (.yield l) #[] #[], .pointer (some ⟨Bn, 0, none⟩)] W fun e W' => (∃ v, e = .returned v) ∧
      ((∃ ys, ys = dnL L L ∧ J ys W') ∨ (∃ pre, (∃ k, k ≤ L ∧ pre = dnL L k) ∧ Jx pre W')) := by
  have HV := Lib.hid hV
  have HBn := Lib.hid hBn
  have HL := Lib.hid hL
  have cb := hBn.cell
  have hw0 : wrap64 ((L : Int) - 1) = (L : Int) - 1 := IntWalk.wrap64_in _ (by omega)
  refine callsIn_of_wp Try.func80 rfl trivial ?_ rfl
  simp only [Try.ntmps80, List.size_toArray, List.length_cons, List.length_nil, Nat.reduceAdd, Nat.reduceSub, Array.replicate_succ, Array.replicate_zero, List.push_toArray, List.append_toArray, List.nil_append, List.cons_append]
  clear hV hBn hL
  gi_wp2
  gi_loopw [3] (fun v wr => ∃ k : Nat, k ≤ L ∧ v = .int .i64 ((L : Int) - 1 - (k : Int)) ∧ Boxed wr Bn 23 (.slice (some ⟨g, 0, none⟩) L cap) ∧ Below n₀ V wr ∧ J (dnL L k) wr)
    (fun v _ => (intOf v + 1).toNat)
  case atStart => exact ⟨0, Nat.zero_le _, by simp, HBn.out, HV.out, h0⟩
  case round =>
    obtain ⟨k, hk, rfl, hB, hVr, hJ⟩ := hrel
    have hc := hB.cell
    by_cases hz : k = L
    · subst hz
      have hz1 : ¬ ((0 : Int) ≤ (k : Int) - 1 - (k : Int)) := by omega
      clear hY
      gi_wp2
      go_end0
      first | exact ⟨⟨_, rfl⟩, .inl ⟨_, rfl, hJ⟩⟩ | exact ⟨⟨_, rfl⟩, .inl hJ⟩
    · have hkl : k < L := by omega
      obtain ⟨i, hi⟩ : ∃ i, i = L - 1 - k := ⟨_, rfl⟩
      have hil : i < L := by omega
      have hz1 : (L : Int) - 1 - (k : Int) = (i : Int) := by omega
      have hce := hb wr hVr i hil
      obtain ⟨fn, tmps, assign, body, hy, hR⟩ := hY (dnL L k) i wr hJ (by rw [dnL_len]; omega)
      have HE : Hid (dnL L (k + 1) = dnL L k ++ [i]) := Lib.hid (by rw [hi]; exact dnL_up L k)
      have hw1 : wrap64 ((i : Int) - 1) = (i : Int) - 1 := IntWalk.wrap64_in _ (by omega)
      have HI := Lib.hid (⟨hi, hkl, hil⟩ : i = L - 1 - k ∧ k < L ∧ i < L)
      have HVr := Lib.hid hVr
      have h0i : (0 : Int) ≤ (i : Int) := by omega
      rw [hz1]
      clear hY hJ hz hi hkl hz1 hw0 cb
      try dsimp only at hy
      gi_wp2
      refine hR.mono ?_
      rintro e W3 (⟨rfl, hJ3, hk3⟩ | ⟨rfl, hJx3⟩)
      · have hB3 := hk3.box _ _ hB
        have hV3 := HVr.out.trans hk3.below
        gi_wp2
        go_roundw
        case rel => exact ⟨k + 1, HI.out.2.1, by have := HI.out; congr 1; omega, hB3, hV3, by rw [HE.out]; exact hJ3⟩
        case measure => simp [intOf] <;> omega
      · gi_wp2
        refine bodyPost_ret (results_none rfl _ _ _) rfl ?_
        exact ⟨⟨_, rfl⟩, .inr ⟨_, ⟨k + 1, HI.out.2.1, HE.out.symm⟩, hJx3⟩⟩
theorem backward_any (A : Option Addr) (len cap : Nat) (w : World) :
    Calls Try.prog 58 #[.slice A len cap] w fun e w' => e = .returned (.func (.func 80) #[] #[.pointer (some ⟨w.heap.size, 0, none⟩)]) ∧ w' = w.alloc (.cells #[.slice A len cap] 23) := by
  go_enter Try.func58, Try.ntmps58
  go_wp2
  go_ret
  exact ⟨rfl, rfl⟩
theorem backward_stops (m : Nat) (hm : 1 ≤ m) (Bn n₀ g L cap : Nat) (xs : List Int) (hL : xs.length = L) (hL3 : L ≤ 3) (w : World) (hn : n₀ ≤ w.heap.size)
    (hg : g < n₀) (hb : ∀ i, i < L → w.cell? ⟨g, i, none⟩ = some (.int .i64 (xO xs i))) (hBn : Boxed w Bn 23 (.slice (some ⟨g, 0, none⟩) L cap)) :
    SeqStopsK Fence.wide m Try.prog 80 #[.pointer (some ⟨Bn, 0, none⟩)] (fun x : Nat => #[.int .i64 (x : Int), .int .i64 (xO xs x)]) (KB Bn n₀) (fun ys => ys = dnL L L) (fun pre => ∃ k, k ≤ L ∧ pre = dnL L k) 100 w := fun l J Jx W hW _ _ hY h0 =>
  backward1_in m hm l Bn n₀ g L cap xs hL hL3 J Jx w hg (fun W hW i hi => (hW.cell (p := ⟨g, i, none⟩) hg).trans (hb i hi)) hY W (hW.mono hn) (boxed_below hBn hBn.lt hW) h0
theorem Duo.frozen {W : World} {B : Nat} {t : TypeId} {u v : Value} (h : Duo W B t u v) (i : Nat) : W.frozen? ⟨B, i, none⟩ = false := by simp [World.frozen?, show W.heap[B]? = _ from h]
theorem Duo.setc {W : World} {B : Nat} {t : TypeId} {u v : Value} (h : Duo W B t u v) (i : Nat) (y : Value) (hi : i < 2) : Duo (W.setCell ⟨B, i, none⟩ y) B t (if i = 0 then y else u) (if i = 1 then y else v) := by
  unfold Duo at *
  have e : (W.setCell ⟨B, i, none⟩ y).heap[B]? = W.heap[B]?.map fun o => match o with
      | .cells c elem frozen => .cells (c.setIfInBounds i y) elem frozen
      | o => o := by
    unfold World.setCell
    simp only [Array.getElem?_modify]
    rw [if_pos trivial]
    rfl
  rw [e, h]
  rcases (show i = 0 ∨ i = 1 by omega) with rfl | rfl <;> rfl
theorem Duo.off {W : World} {B : Nat} {t : TypeId} {u v : Value} (h : Duo W B t u v) {p : Addr} (hne : B ≠ p.block) (x : Value) : Duo (W.setCell p x) B t u v := h.same (Below.heap_setCell W p x B hne)
theorem Duo.bel {W W' : World} {B N : Nat} {t : TypeId} {u v : Value} (h : Duo W B t u v) (hN : B < N) (hb : Below N W W') : Duo W' B t u v := h.same (hb.block B hN)
theorem Boxed.off {W : World} {B : Nat} {t : TypeId} {v : Value} (h : Boxed W B t v) {p : Addr} (hne : B ≠ p.block) (x : Value) : Boxed (W.setCell p x) B t v := (Below.heap_setCell W p x B hne).trans h
theorem Ter.off {W : World} {B : Nat} {t : TypeId} {u v y : Value} (h : Ter W B t u v y) {p : Addr} (hne : B ≠ p.block) (x : Value) : Ter (W.setCell p x) B t u v y := h.same (Below.heap_setCell W p x B hne)
theorem KB.off {Bn n₀ : Nat} {W W' : World} (h : KB Bn n₀ W W') {p : Addr} (hp : n₀ ≤ p.block) (hne : Bn ≠ p.block) (u : Value) : KB Bn n₀ W (W'.setCell p u) :=
  ⟨fun t v hb => Boxed.off (h.box t v hb) hne u, h.below.setCell hp u⟩
theorem KB.mkAlloc {Bn n₀ : Nat} {W W' : World} (h : KB Bn n₀ W W') (hn : n₀ ≤ W'.heap.size) (o : Obj) : KB Bn n₀ W (W'.alloc o) :=
  h.call hn ((Below.refl _ _).alloc (Nat.le_refl _) o)
/-- Letters, linked, told by their indices and places. -/
def Chn (W : World) : Value → List (Nat × Int) → Prop
  | v, [] => v = .pointer none
  | v, (k, l) :: r => ∃ b nx, v = .pointer (some ⟨b, 0, none⟩) ∧ Ter W b 84 (.int .i64 l) (.int .i64 (k : Int)) nx ∧ Chn W nx r
theorem Chn.grown {W W' : World} (hg : ∀ b u v x, Ter W b 84 u v x → W'.heap[b]? = W.heap[b]?) {v : Value} {r : List (Nat × Int)} (h : Chn W v r) : Chn W' v r := by
  induction r generalizing v with
  | nil => exact h
  | cons q r ih =>
    obtain ⟨b, nx, e, hT, hr⟩ := h
    exact ⟨b, nx, e, hT.same (hg b _ _ _ hT), ih hr⟩
theorem Chn.below {W W' : World} {v : Value} {r : List (Nat × Int)} (h : Chn W v r) (hb : Below W.heap.size W W') : Chn W' v r := h.grown fun b _ _ _ hT => hb.block b hT.lt
theorem Chn.other {W : World} {v : Value} {r : List (Nat × Int)} (h : Chn W v r) {B i : Nat} {t : TypeId} {x y : Value} (hD : Duo W B t x y) (u : Value) : Chn (W.setCell ⟨B, i, none⟩ u) v r :=
  h.grown fun b _ _ _ hT => Below.heap_setCell W ⟨B, i, none⟩ u b (fun e => by
    have e' : b = B := e
    subst e'
    have hD' : W.heap[b]? = some (.cells #[x, y] t (0, 0)) := hD
    have hT' : W.heap[b]? = _ := hT
    rw [hD'] at hT'
    simp at hT')
theorem chn_lets (xs : List Int) (W : World) : ∀ (m k : Nat) (v : Value), k + m = xs.length → (∀ i, i < xs.length → 0 ≤ xO xs i) → Chn W v ((List.range' k m).map fun i => (i, xO xs i)) → Lets W v k ((letL xs).drop k) := by
  intro m
  induction m with
  | zero =>
    intro k v hk _ h
    have e : (letL xs).drop k = [] := List.drop_eq_nil_of_le (by simp [letL]; omega)
    rw [e]
    exact h
  | succ m ih =>
    intro k v hk h0 h
    have hkl : k < (letL xs).length := by simp [letL]; omega
    rw [List.range'_succ, List.map_cons] at h
    obtain ⟨b, nx, e, hT, hr⟩ := h
    rw [drop_cons _ _ hkl]
    refine ⟨b, nx, e, ?_, ih (k + 1) nx (by omega) h0 hr⟩
    have e2 : ((lO (letL xs) k : Nat) : Int) = xO xs k := by
      have h1 := h0 k (by omega)
      have e3 : lO (letL xs) k = (xO xs k).toNat := by
        unfold lO xO letL
        rw [List.getD_eq_getElem?_getD, List.getD_eq_getElem?_getD, List.getElem?_map]
        cases xs[k]? <;> rfl
      rw [e3]; omega
    rw [e2]
    exact hT
theorem dn_rev (L : Nat) (f : Nat → Nat × Int) : ((dnL L L).reverse).map f = (List.range' 0 L).map f := by
  congr 1
  unfold dnL
  rw [← List.range_eq_range']
  refine List.ext_getElem (by simp) fun i h1 h2 => ?_
  simp at h1 ⊢
  omega
/-- What holds when some letters have come, the last one first. -/
def AlbI (w : World) (n : Nat) (xs : List Int) (ab rb : Nat) (pre : List Nat) (W : World) : Prop :=
  (∃ p, Duo W ab 50 (.int .i64 (n:Int)) (.pointer p) ∧ Chn W (.pointer p) (pre.reverse.map fun i => (i, xO xs i))) ∧ Boxed W rb 47 (.int .i64 (n:Int)) ∧ Duo W w.heap.size 50 (.int .i64 0) (.pointer none) ∧ Boxed W (w.heap.size + 1) 4 (.bool false) ∧ Below w.heap.size w W ∧ (∀ i ∈ pre, 1 ≤ xO xs i ∧ xO xs i ≤ (n:Int) - 1)
def AlbX (w : World) (n : Nat) (xs : List Int) (c : Code) (pre : List Nat) (W : World) : Prop :=
  c = .ret ∧ (∃ i ∈ pre, ¬ (1 ≤ xO xs i ∧ xO xs i ≤ (n:Int) - 1)) ∧ Duo W w.heap.size 50 (.int .i64 0) (.pointer none) ∧ Boxed W (w.heap.size + 1) 4 (.bool false) ∧ Below w.heap.size w W
theorem ter_same {X Y : World} {row : Option Nat} (hg : X.grownBy Y row) (hr : ∀ r, row = some r → ∃ o : Obj, X.heap[r]? = some o ∧ o.isCells = false) {b : Nat} {t : TypeId} {u v x : Value} (h : Ter X b t u v x) : Y.heap[b]? = X.heap[b]? :=
  hg.block b h.lt (fun e => by
    obtain ⟨o, ho, hc⟩ := hr b e.symm
    rw [show X.heap[b]? = _ from h] at ho
    cases ho; cases hc)
theorem albI_own (w : World) (n : Nat) (xs : List Int) (ab rb N : Nat) (hN : w.heap.size ≤ N) : OwnFrom N (AlbI w n xs ab rb) := by
  rintro pre X Y row ⟨⟨p, h1, h2⟩, h3, h4, h5, h6, h7⟩ hg hr
  have hr' : ∀ r, row = some r → ∃ o : Obj, X.heap[r]? = some o ∧ o.isCells = false := fun r e => (hr r e).2
  exact ⟨⟨p, duo_own ab _ (fun _ : List Nat => .int .i64 (n:Int)) (fun _ => .pointer p) pre X Y row h1 hg hr', h2.grown fun b _ _ _ hT => ter_same hg hr' hT⟩, boxed_own rb _ (fun _ : List Nat => .int .i64 (n:Int)) pre X Y row h3 hg hr', duo_own _ _ (fun _ : List Nat => .int .i64 0) (fun _ => .pointer none) pre X Y row h4 hg hr', boxed_own _ _ (fun _ : List Nat => .bool false) pre X Y row h5 hg hr', ownFrom_below (Nat.le_refl _) hN pre X Y row h6 hg hr, h7⟩
theorem albX_own (w : World) (n : Nat) (xs : List Int) (N : Nat) (hN : w.heap.size ≤ N) (c : Code) : OwnFrom N (AlbX w n xs c) := by
  rintro pre X Y row ⟨h1, h2, h4, h5, h6⟩ hg hr
  have hr' : ∀ r, row = some r → ∃ o : Obj, X.heap[r]? = some o ∧ o.isCells = false := fun r e => (hr r e).2
  exact ⟨h1, h2, duo_own _ _ (fun _ : List Nat => .int .i64 0) (fun _ => .pointer none) pre X Y row h4 hg hr', boxed_own _ _ (fun _ : List Nat => .bool false) pre X Y row h5 hg hr', ownFrom_below (Nat.le_refl _) hN pre X Y row h6 hg hr⟩
set_option maxRecDepth 100000 in
set_option maxHeartbeats 4000000 in
theorem alphabetOf_list (n g L cap : Nat) (xs : List Int) (w : World) (h1 : 1 ≤ n) (h2 : n ≤ 12) (hL : xs.length = L) (hL1 : 1 ≤ L) (hL3 : L ≤ 3) (hg : g < w.heap.size) (hb : ∀ i, i < L → w.cell? ⟨g, i, none⟩ = some (.int .i64 (xO xs i))) :
    Calls Try.prog 39 #[.int .i64 (n:Int), .slice (some ⟨g, 0, none⟩) L cap] w fun e w' => (((∀ i, i < L → 1 ≤ xO xs i ∧ xO xs i ≤ (n:Int) - 1) ∧ ∃ p, e = .returned (.tuple #[.agg #[.int .i64 (n:Int), p], .bool true]) ∧ Lets w' p 0 (letL xs)) ∨ ((∃ i, i < L ∧ ¬ (1 ≤ xO xs i ∧ xO xs i ≤ (n:Int) - 1)) ∧ e = .returned (.tuple #[.agg #[.int .i64 0, .pointer none], .bool false]))) ∧ Below w.heap.size w w' := by
  have HRN := Lib.hid (fun W => ringOf_nil n W h1 h2)
  have HG := Lib.hid (⟨hg, hb, hL, h1, h2⟩ : g < w.heap.size ∧ (∀ i, i < L → w.cell? ⟨g, i, none⟩ = some (.int .i64 (xO xs i))) ∧ xs.length = L ∧ 1 ≤ n ∧ n ≤ 12)
  have e1 : ¬ ((L : Int) < 1) := by omega
  have e2 : ¬ ((3 : Int) < (L : Int)) := by omega
  have hD0 := (Duo.new w 50 (.int .i64 0) (.pointer none)).alloc (.cells #[.bool false] 4)
  have hF0 := Boxed.new (w.alloc (.cells #[.int .i64 0, .pointer none] 50)) 4 (.bool false)
  simp only [World.size_alloc] at hF0
  have HB0 := Lib.hid (((Below.refl _ w).alloc (Nat.le_refl _) (.cells #[.int .i64 0, .pointer none] 50)).alloc (by simp) (.cells #[.bool false] 4))
  have HD0 := Lib.hid hD0
  have HF0 := Lib.hid hF0
  have HZ := Lib.hid (show ((w.alloc (.cells #[.int .i64 0, .pointer none] 50)).alloc (.cells #[.bool false] 4)).heap.size = w.heap.size + 2 by simp)
  clear hg hb h1 h2 hL hD0 hF0 hL1
  refine (callsIn_wide (n := 9)).1 ?_
  refine callsIn_of_wp_marks Try.func39 rfl trivial ?_ rfl
  simp only [Try.ntmps39, List.size_toArray, List.length_cons, List.length_nil, Nat.reduceAdd, Nat.reduceSub, Array.replicate_succ, Array.replicate_zero, List.push_toArray, List.append_toArray, List.nil_append, List.cons_append]
  have d1 : decide ((L : Int) < 1) = false := decide_eq_false e1
  have d2 : decide ((3 : Int) < (L : Int)) = false := decide_eq_false e2
  clear e1 e2
  gi_wp2_with (refine ⟨trivial, ?_⟩; gi_at_call 57; refine (callsIn_wide.2 (HRN.out _)).mono ?_; rintro e W1 ⟨rfl, hb1⟩)
  have HB1 := Lib.hid (⟨HB0.out.trans (hb1.mono (by rw [HZ.out]; omega)), by have := hb1.size; rw [HZ.out] at this; exact this⟩ : Below w.heap.size w W1 ∧ w.heap.size + 2 ≤ W1.heap.size)
  have HD1 := Lib.hid (HD0.out.same (hb1.block _ HD0.out.lt))
  have HF1 := Lib.hid (boxed_below HF0.out HF0.out.lt hb1)
  clear hb1
  gi_wp2_with (refine ⟨trivial, ?_⟩; gi_at_call 58; refine (callsIn_wide.2 (backward_any _ _ _ _)).mono ?_; rintro e W2 ⟨rfl, rfl⟩)
  have hD0 := ((HD1.out.alloc (.cells #[.int .i64 (n:Int)] 47)).alloc (.cells #[.int .i64 (n:Int), .pointer none] 50)).alloc (.cells #[.slice (some ⟨g, 0, none⟩) L cap] 23)
  have hF0 := ((HF1.out.alloc (.cells #[.int .i64 (n:Int)] 47)).alloc (.cells #[.int .i64 (n:Int), .pointer none] 50)).alloc (.cells #[.slice (some ⟨g, 0, none⟩) L cap] 23)
  have hR0 := ((Boxed.new W1 47 (.int .i64 (n:Int))).alloc (.cells #[.int .i64 (n:Int), .pointer none] 50)).alloc (.cells #[.slice (some ⟨g, 0, none⟩) L cap] 23)
  have hA0 := (Duo.new (W1.alloc (.cells #[.int .i64 (n:Int)] 47)) 50 (.int .i64 (n:Int)) (.pointer none)).alloc (.cells #[.slice (some ⟨g, 0, none⟩) L cap] 23)
  have hS0 := Boxed.new ((W1.alloc (.cells #[.int .i64 (n:Int)] 47)).alloc (.cells #[.int .i64 (n:Int), .pointer none] 50)) 23 (.slice (some ⟨g, 0, none⟩) L cap)
  have hz0 : (((W1.alloc (.cells #[.int .i64 (n:Int)] 47)).alloc (.cells #[.int .i64 (n:Int), .pointer none] 50)).alloc (.cells #[.slice (some ⟨g, 0, none⟩) L cap] 23)).heap.size = W1.heap.size + 3 := by simp
  have hB0 : Below w.heap.size w (((W1.alloc (.cells #[.int .i64 (n:Int)] 47)).alloc (.cells #[.int .i64 (n:Int), .pointer none] 50)).alloc (.cells #[.slice (some ⟨g, 0, none⟩) L cap] 23)) := ((HB1.out.1.alloc HB1.out.1.size _).alloc (by have := HB1.out.1.size; simp; omega) _).alloc (by have := HB1.out.1.size; simp; omega) _
  have hs1 := HB1.out.2
  simp only [World.size_alloc] at hA0 hS0
  obtain ⟨W0, hW0⟩ : ∃ W0, (((W1.alloc (.cells #[.int .i64 (n:Int)] 47)).alloc (.cells #[.int .i64 (n:Int), .pointer none] 50)).alloc (.cells #[.slice (some ⟨g, 0, none⟩) L cap] 23)) = W0 := ⟨_, rfl⟩
  rw [hW0] at hD0 hF0 hR0 hA0 hS0 hz0 hB0 ⊢
  clear hW0
  have HZ0 := Lib.hid hz0
  clear hz0
  refine wpIn_rangeFunc_ownF rfl (by omega) (gf := 80) (lb := #[.pointer (some ⟨W1.heap.size + 1 + 1, 0, none⟩)]) rfl trivial (enters_of Try.func80 (by kernel_rfl) rfl)
    (backward_stops 8 (by omega) (W1.heap.size + 1 + 1) w.heap.size g L cap xs HG.out.2.2.1 hL3 W0 hB0.size HG.out.1 (fun i hi => (hB0.cell (p := ⟨g, i, none⟩) HG.out.1).trans (HG.out.2.1 i hi)) hS0) KB.trans (KB.put (hB0.size)) (Below.refl _ _) (fun _ => rfl)
    (AlbI w n xs (W1.heap.size + 1) W1.heap.size) (AlbX w n xs) (albI_own w n xs _ _ _ hB0.size) (albX_own w n xs _ hB0.size) ⟨⟨_, hA0, rfl⟩, hR0, hD0, hF0, hB0, fun i hi => by cases hi⟩
    (fun x => { tmps := #[.int .i64 (n:Int), .slice (some ⟨g, 0, none⟩) L cap, undef, undef, .pointer (some ⟨w.heap.size, 0, none⟩), .pointer (some ⟨w.heap.size + 1, 0, none⟩), .pointer (some ⟨W1.heap.size, 0, none⟩), .bool true, .pointer (some ⟨W1.heap.size + 1, 0, none⟩), .int .i64 (x:Int), .int .i64 (xO xs x), .tuple #[.agg #[.int .i64 (n:Int)], .bool true], .int .i64 (n:Int), .tuple #[.agg #[.int .i64 (n:Int)], .bool true], .agg #[.int .i64 (n:Int)], .bool true, .bool true, .bool false, .bool false, .slice (some ⟨g, 0, none⟩) L cap, .int .i64 (L:Int), .bool false, .bool false, .bool false, .slice (some ⟨g, 0, none⟩) L cap, .int .i64 (L:Int), .bool false, .bool false, undef, .agg #[.int .i64 (n:Int)], .agg #[.int .i64 (n:Int), .pointer none], .slice (some ⟨g, 0, none⟩) L cap, .func (.func 80) #[] #[.pointer (some ⟨W1.heap.size + 1 + 1, 0, none⟩)], .int .i64 (x:Int), .int .i64 (xO xs x), undef, undef, undef, undef, undef, undef, undef, undef, undef, undef, undef, undef, undef, undef, undef, undef, undef], defers := [] }) ?assign ?body ?done ?stop
  case assign =>
    intro l x W K hK
    gi_wp2
    exact hK
  case body =>
    rintro l pre x W ⟨⟨p, hD, hC⟩, hR, hDz, hFz, hB, hok⟩ hlen
    have hsW := hB.size
    have lA := hD.lt
    have cR := hR.cell
    have HOk := Lib.hid hok
    clear hok hD0 hF0 hR0 hA0 hS0 hB0
    by_cases hv : 1 ≤ xO xs x ∧ xO xs x ≤ (n:Int) - 1
    · have HGood := Lib.hid hv
      have hp := isPlace_any n (xO xs x) W
      rw [decide_eq_true (show 0 ≤ xO xs x ∧ xO xs x < (n:Int) by omega)] at hp
      have z0 : (xO xs x == 0) = false := by simp; omega
      have z1 : ¬ xO xs x = 0 := by omega
      clear hv
      gi_wp2_with (refine ⟨trivial, ?_⟩; gi_at_call 59; refine (callsIn_wide.2 hp).mono ?_; rintro e W2 ⟨rfl, hb2⟩; have hD2 := hD.bel hD.lt hb2; have hC2 := hC.below hb2; have hDz2 := hDz.bel hDz.lt hb2; have hFz2 := boxed_below hFz hFz.lt hb2; have hR2 := boxed_below hR hR.lt hb2; have hB2 := hB.trans (hb2.mono hsW); have hO2 := others_below hb2; have hs2 := hb2.size; have hK2 := KB.call (KB.refl (W1.heap.size + 1 + 1) w.heap.size W) hsW hb2; have cp := hD2.cell1; have hD3 := hD2.alloc (.cells #[.int .i64 (xO xs x), .int .i64 (x:Int), .pointer p] 84); have cp3 := hD3.cell1; have fp3 := hD3.frozen 1)
      refine ⟨(hO2.trans (KeepsOthers.alloc _ _)).trans (KeepsOthers.setCell _ _ _), (hK2.mkAlloc (by omega) _).off (p := ⟨W1.heap.size + 1, 1, none⟩) (by show _ ≤ W1.heap.size + 1; omega) (by show _ ≠ W1.heap.size + 1; omega) _, ⟨_, hD3.setc 1 _ (by omega), ?_⟩, ?_, ?_, ?_, ?_, ?_⟩
      · rw [List.reverse_append, List.reverse_singleton, List.singleton_append, List.map_cons]
        refine ⟨W2.heap.size, .pointer p, rfl, ?_, ?_⟩
        · exact (Ter.new W2 84 (.int .i64 (xO xs x)) (.int .i64 (x:Int)) (.pointer p)).off (p := ⟨W1.heap.size + 1, 1, none⟩) (by show W2.heap.size ≠ W1.heap.size + 1; omega) _
        · exact (hC2.grown (fun b _ _ _ hT => Below.heap_alloc _ _ _ hT.lt)).other hD3 _
      · exact Boxed.off (hR2.alloc _) (p := ⟨W1.heap.size + 1, 1, none⟩) (by show _ ≠ W1.heap.size + 1; omega) _
      · exact (hDz2.alloc _).off (p := ⟨W1.heap.size + 1, 1, none⟩) (by show _ ≠ W1.heap.size + 1; omega) _
      · exact Boxed.off (hFz2.alloc _) (p := ⟨W1.heap.size + 1, 1, none⟩) (by show _ ≠ W1.heap.size + 1; omega) _
      · exact (hB2.alloc hB2.size _).setCell (p := ⟨W1.heap.size + 1, 1, none⟩) (by show _ ≤ W1.heap.size + 1; omega) _
      · intro i hi
        rcases List.mem_append.1 hi with hi | hi
        · exact HOk.out i hi
        · rw [List.mem_singleton.1 hi]; exact HGood.out
    · have HBad := Lib.hid hv
      by_cases hz : xO xs x = 0
      · have hp := isPlace_any n (xO xs x) W
        rw [decide_eq_true (show 0 ≤ xO xs x ∧ xO xs x < (n:Int) by have := HG.out.2.2.2.1; omega)] at hp
        have z0 : (xO xs x == 0) = true := by rw [hz]; rfl
        have HZr := Lib.hid hz
        clear hv hz
        gi_wp2_with (refine ⟨trivial, ?_⟩; gi_at_call 59; refine (callsIn_wide.2 hp).mono ?_; rintro e W2 ⟨rfl, hb2⟩; have hDz2 := hDz.bel hDz.lt hb2; have hFz2 := boxed_below hFz hFz.lt hb2; have hB2 := hB.trans (hb2.mono hsW); have hO2 := others_below hb2; have fz0 := hDz2.frozen 0; have fz1 := (hDz2.setc 0 (.int .i64 0) (by omega)).frozen 1; have cz0 := hDz2.cell0; have cz1 := (hDz2.setc 0 (.int .i64 0) (by omega)).cell1; have hDz3 := (hDz2.setc 0 (.int .i64 0) (by omega)).setc 1 (.pointer none) (by omega); have hFz3 := Boxed.off (Boxed.off hFz2 (p := ⟨w.heap.size, 0, none⟩) (by show _ ≠ w.heap.size; omega) (.int .i64 0)) (p := ⟨w.heap.size, 1, none⟩) (by show _ ≠ w.heap.size; omega) (.pointer none); have fy := hFz3.frozen; have cy := hFz3.cell)
        exact ⟨((hO2.trans (KeepsOthers.setCell _ _ _)).trans (KeepsOthers.setCell _ _ _)).trans (KeepsOthers.setCell _ _ _), rfl, ⟨x, by simp, HBad.out⟩, (hDz3.off (p := ⟨w.heap.size + 1, 0, none⟩) (by show _ ≠ w.heap.size + 1; omega) _), hFz3.set _, ((hB2.setCell (p := ⟨w.heap.size, 0, none⟩) (Nat.le_refl _) _).setCell (p := ⟨w.heap.size, 1, none⟩) (Nat.le_refl _) _).setCell (p := ⟨w.heap.size + 1, 0, none⟩) (Nat.le_succ _) _⟩
      · have hp := isPlace_any n (xO xs x) W
        rw [decide_eq_false (show ¬ (0 ≤ xO xs x ∧ xO xs x < (n:Int)) by omega)] at hp
        clear hv hz
        gi_wp2_with (refine ⟨trivial, ?_⟩; gi_at_call 59; refine (callsIn_wide.2 hp).mono ?_; rintro e W2 ⟨rfl, hb2⟩; have hDz2 := hDz.bel hDz.lt hb2; have hFz2 := boxed_below hFz hFz.lt hb2; have hB2 := hB.trans (hb2.mono hsW); have hO2 := others_below hb2; have fz0 := hDz2.frozen 0; have fz1 := (hDz2.setc 0 (.int .i64 0) (by omega)).frozen 1; have cz0 := hDz2.cell0; have cz1 := (hDz2.setc 0 (.int .i64 0) (by omega)).cell1; have hDz3 := (hDz2.setc 0 (.int .i64 0) (by omega)).setc 1 (.pointer none) (by omega); have hFz3 := Boxed.off (Boxed.off hFz2 (p := ⟨w.heap.size, 0, none⟩) (by show _ ≠ w.heap.size; omega) (.int .i64 0)) (p := ⟨w.heap.size, 1, none⟩) (by show _ ≠ w.heap.size; omega) (.pointer none); have fy := hFz3.frozen; have cy := hFz3.cell)
        exact ⟨((hO2.trans (KeepsOthers.setCell _ _ _)).trans (KeepsOthers.setCell _ _ _)).trans (KeepsOthers.setCell _ _ _), rfl, ⟨x, by simp, HBad.out⟩, (hDz3.off (p := ⟨w.heap.size + 1, 0, none⟩) (by show _ ≠ w.heap.size + 1; omega) _), hFz3.set _, ((hB2.setCell (p := ⟨w.heap.size, 0, none⟩) (Nat.le_refl _) _).setCell (p := ⟨w.heap.size, 1, none⟩) (Nat.le_refl _) _).setCell (p := ⟨w.heap.size + 1, 0, none⟩) (Nat.le_succ _) _⟩
  case done =>
    rintro D ys W hD rfl ⟨⟨p, hA, hC⟩, hR, hDz, hFz, hB, hok⟩ hK
    have hsW := hB.size
    have lA := hA.lt
    have hDw : w.heap.size + 1 < D := by have := HZ0.out; omega
    have ca0 := hA.cell0
    have ca1 := hA.cell1
    have cz0 := hDz.cell0
    have fz0 := hDz.frozen 0
    have hDz1 := hDz.setc 0 (.int .i64 (n:Int)) (by omega)
    have cz1 := hDz1.cell1
    have fz1 := hDz1.frozen 1
    have hDz2 := hDz1.setc 1 (.pointer p) (by omega)
    have hFz2 := Boxed.off (Boxed.off hFz (p := ⟨w.heap.size, 0, none⟩) (by show _ ≠ w.heap.size; omega) (.int .i64 (n:Int))) (p := ⟨w.heap.size, 1, none⟩) (by show _ ≠ w.heap.size; omega) (.pointer p)
    have cy := hFz2.cell
    have fy := hFz2.frozen
    have hFz3 := hFz2.set (.bool true)
    have hDz3 := hDz2.off (p := ⟨w.heap.size + 1, 0, none⟩) (by show _ ≠ w.heap.size + 1; omega) (.bool true)
    have hB3 := ((hB.setCell (p := ⟨w.heap.size, 0, none⟩) (Nat.le_refl _) (.int .i64 (n:Int))).setCell (p := ⟨w.heap.size, 1, none⟩) (Nat.le_refl _) (.pointer p)).setCell (p := ⟨w.heap.size + 1, 0, none⟩) (Nat.le_succ _) (.bool true)
    have hKs : (((W.setCell ⟨w.heap.size, 0, none⟩ (.int .i64 (n:Int))).setCell ⟨w.heap.size, 1, none⟩ (.pointer p)).setCell ⟨w.heap.size + 1, 0, none⟩ (.bool true)).heap[D]? = some (.deferred (some [])) :=
      (Below.heap_setCell _ ⟨w.heap.size + 1, 0, none⟩ (.bool true) D (by show D ≠ w.heap.size + 1; omega)).trans ((Below.heap_setCell _ ⟨w.heap.size, 1, none⟩ (.pointer p) D (by show D ≠ w.heap.size; omega)).trans ((Below.heap_setCell _ ⟨w.heap.size, 0, none⟩ (.int .i64 (n:Int)) D (by show D ≠ w.heap.size; omega)).trans hK))
    have HC := Lib.hid (show Chn (((W.setCell ⟨w.heap.size, 0, none⟩ (.int .i64 (n:Int))).setCell ⟨w.heap.size, 1, none⟩ (.pointer p)).setCell ⟨w.heap.size + 1, 0, none⟩ (.bool true)) (.pointer p) ((dnL L L).reverse.map fun i => (i, xO xs i)) from ((hC.other hDz _).other hDz1 _).grown (fun b _ _ _ hT => Below.heap_setCell _ _ _ b (fun e => by
      have e' : b = w.heap.size + 1 := e
      subst e'
      have h5 : (((W.setCell ⟨w.heap.size, 0, none⟩ (.int .i64 (n:Int))).setCell ⟨w.heap.size, 1, none⟩ (.pointer p))).heap[w.heap.size + 1]? = _ := hFz2
      have h6 : (((W.setCell ⟨w.heap.size, 0, none⟩ (.int .i64 (n:Int))).setCell ⟨w.heap.size, 1, none⟩ (.pointer p))).heap[w.heap.size + 1]? = _ := hT
      rw [h5] at h6
      simp at h6)))
    have HOk := Lib.hid hok
    clear hok hD0 hF0 hR0 hA0 hS0 hB0 hC
    gi_wp2
    refine ⟨by simp, .inl ⟨_, _, rfl, run_takeDeferred hKs, ?_⟩⟩
    have hg := grownBy_putObj' (((W.setCell ⟨w.heap.size, 0, none⟩ (.int .i64 (n:Int))).setCell ⟨w.heap.size, 1, none⟩ (.pointer p)).setCell ⟨w.heap.size + 1, 0, none⟩ (.bool true)) D (.deferred none)
    have c4 := (hDz3.kept hg (by intro e; cases e; omega)).cell0
    have c4' := (hDz3.kept hg (by intro e; cases e; omega)).cell1
    have c5 := (hFz3.kept hg (by intro e; cases e; omega)).cell
    refine ⟨.tuple #[.agg #[.int .i64 (n:Int), .pointer p], .bool true], by simp [results, Try.results39, go_sem, c4, c4', c5], .inl ⟨fun i hi => HOk.out i ?_, .pointer p, rfl, ?_⟩, hB3.trans (belowK_b (w := w) (Nat.le_refl _) _ D _ _ (by omega) hKs rfl rfl)⟩
    · unfold dnL
      exact List.mem_map.2 ⟨L - 1 - i, List.mem_range.2 (by omega), by omega⟩
    · have hL := HG.out.2.2.1
      have h := chn_lets xs _ L 0 (.pointer p) (by omega) (fun i hi => by
        have := HOk.out i (by unfold dnL; exact List.mem_map.2 ⟨L - 1 - i, List.mem_range.2 (by omega), by omega⟩)
        omega) (by rw [← dn_rev]; exact HC.out)
      rw [List.drop_zero] at h
      exact h.grown fun b _ _ _ hT => hg.block b hT.lt (fun e => by
        cases e
        have h6 : _ = _ := hT
        have h7 : some (Obj.deferred (some [])) = _ := hKs.symm.trans h6
        cases h7)
  case stop =>
    rintro D c pre W hD ⟨k, hk, hpre⟩ ⟨rfl, hbad, hDz, hFz, hB⟩ hK
    have hsW := hB.size
    have hDw : w.heap.size + 1 < D := by have := HZ0.out; omega
    have HBad : Hid (∃ i, i < L ∧ ¬ (1 ≤ xO xs i ∧ xO xs i ≤ (n:Int) - 1)) := Lib.hid (by
      obtain ⟨i, hi, hn⟩ := hbad
      rw [hpre] at hi
      unfold dnL at hi
      obtain ⟨j, hj, e⟩ := List.mem_map.1 hi
      have := List.mem_range.1 hj
      exact ⟨i, by omega, hn⟩)
    clear hbad hpre hD0 hF0 hR0 hA0 hS0 hB0
    gi_wp2
    refine ⟨by simp, .inl ⟨_, _, rfl, run_takeDeferred hK, ?_⟩⟩
    have c4 := (hDz.kept (grownBy_putObj' W D (.deferred none)) (by intro e; cases e; omega)).cell0
    have c4' := (hDz.kept (grownBy_putObj' W D (.deferred none)) (by intro e; cases e; omega)).cell1
    have c5 := (hFz.kept (grownBy_putObj' W D (.deferred none)) (by intro e; cases e; omega)).cell
    exact ⟨.tuple #[.agg #[.int .i64 0, .pointer none], .bool false], by simp [results, Try.results39, go_sem, c4, c4', c5], .inr ⟨HBad.out, rfl⟩, hB.trans (belowK_b (w := w) (Nat.le_refl _) W D _ _ (by omega) hK rfl rfl)⟩
theorem alphabetOf_out (n : Int) (lv : Value) (w : World) (h : ¬ (1 ≤ n ∧ n ≤ 12)) :
    Calls Try.prog 39 #[.int .i64 n, lv] w fun e w' => e = .returned (.tuple #[.agg #[.int .i64 0, .pointer none], .bool false]) ∧ Below w.heap.size w w' := by
  have HR := Lib.hid (fun W => ringOf_out n (.slice none 0 0) W h)
  have hD0 := (Duo.new w 50 (.int .i64 0) (.pointer none)).alloc (.cells #[.bool false] 4)
  have hF0 := Boxed.new (w.alloc (.cells #[.int .i64 0, .pointer none] 50)) 4 (.bool false)
  simp only [World.size_alloc] at hF0
  have hB0 := (((Below.refl _ w).alloc (Nat.le_refl _) (.cells #[.int .i64 0, .pointer none] 50)).alloc (by simp) (.cells #[.bool false] 4))
  have hz0 : ((w.alloc (.cells #[.int .i64 0, .pointer none] 50)).alloc (.cells #[.bool false] 4)).heap.size = w.heap.size + 2 := by simp
  clear h
  go_enter Try.func39, Try.ntmps39
  go_wp2_with fail
  obtain ⟨W0, hW0⟩ : ∃ W0, ((w.alloc (.cells #[.int .i64 0, .pointer none] 50)).alloc (.cells #[.bool false] 4)) = W0 := ⟨_, rfl⟩
  rw [hW0] at hD0 hF0 hB0 hz0 ⊢
  clear hW0
  refine (HR.out _).mono ?_
  rintro e W1 ⟨rfl, hb1⟩
  have hD1 := (hD0.bel hD0.lt hb1).alloc (.cells #[.int .i64 0] 47)
  have hF1 := (boxed_below hF0 hF0.lt hb1).alloc (.cells #[.int .i64 0] 47)
  have hB1 := (hB0.trans (hb1.mono hB0.size)).alloc (Nat.le_trans hB0.size hb1.size) (.cells #[.int .i64 0] 47)
  have fz0 := hD1.frozen 0
  have hD2 := hD1.setc 0 (.int .i64 0) (by omega)
  have fz1 := hD2.frozen 1
  have cz0 := hD1.cell0
  have cz1 := hD2.cell1
  have hD3 := hD2.setc 1 (.pointer none) (by omega)
  have hF3 := Boxed.off (Boxed.off hF1 (p := ⟨w.heap.size, 0, none⟩) (by show _ ≠ w.heap.size; omega) (.int .i64 0)) (p := ⟨w.heap.size, 1, none⟩) (by show _ ≠ w.heap.size; omega) (.pointer none)
  have cy := hF3.cell
  have fy := hF3.frozen
  have hD4 := hD3.off (p := ⟨w.heap.size + 1, 0, none⟩) (by show _ ≠ w.heap.size + 1; omega) (.bool false)
  have hF4 := hF3.set (.bool false)
  have c4 := hD4.cell0
  have c4' := hD4.cell1
  have c5 := hF4.cell
  go_wp2
  exact bodyPost_ret (v := .tuple #[.agg #[.int .i64 0, .pointer none], .bool false]) (by simp [results, Try.results39, go_sem, c4, c4', c5]) rfl ⟨rfl, ((hB1.setCell (p := ⟨w.heap.size, 0, none⟩) (Nat.le_refl _) _).setCell (p := ⟨w.heap.size, 1, none⟩) (Nat.le_refl _) _).setCell (p := ⟨w.heap.size + 1, 0, none⟩) (Nat.le_succ _) _⟩
theorem alphabetOf_size (n L cap : Nat) (A : Option Addr) (w : World) (h1 : 1 ≤ n) (h2 : n ≤ 12) (hL : ¬ (1 ≤ L ∧ L ≤ 3)) :
    Calls Try.prog 39 #[.int .i64 (n:Int), .slice A L cap] w fun e w' => e = .returned (.tuple #[.agg #[.int .i64 0, .pointer none], .bool false]) ∧ Below w.heap.size w w' := by
  have HR := Lib.hid (fun W => ringOf_nil n W h1 h2)
  have hD0 := (Duo.new w 50 (.int .i64 0) (.pointer none)).alloc (.cells #[.bool false] 4)
  have hF0 := Boxed.new (w.alloc (.cells #[.int .i64 0, .pointer none] 50)) 4 (.bool false)
  simp only [World.size_alloc] at hF0
  have hB0 := (((Below.refl _ w).alloc (Nat.le_refl _) (.cells #[.int .i64 0, .pointer none] 50)).alloc (by simp) (.cells #[.bool false] 4))
  have hz0 : ((w.alloc (.cells #[.int .i64 0, .pointer none] 50)).alloc (.cells #[.bool false] 4)).heap.size = w.heap.size + 2 := by simp
  have main : ∀ q r : Bool, decide ((L : Int) < 1) = q → (q = false → decide ((3 : Int) < (L : Int)) = r) → (q || r) = true → Calls Try.prog 39 #[.int .i64 (n:Int), .slice A L cap] w fun e w' => e = .returned (.tuple #[.agg #[.int .i64 0, .pointer none], .bool false]) ∧ Below w.heap.size w w' := by
    intro q r d1 d2 d3
    clear h1 h2 hL
    go_enter Try.func39, Try.ntmps39
    go_wp2_with fail
    obtain ⟨W0, hW0⟩ : ∃ W0, ((w.alloc (.cells #[.int .i64 0, .pointer none] 50)).alloc (.cells #[.bool false] 4)) = W0 := ⟨_, rfl⟩
    rw [hW0] at hD0 hF0 hB0 hz0 ⊢
    clear hW0
    refine (HR.out _).mono ?_
    rintro e W1 ⟨rfl, hb1⟩
    have hD1 := (hD0.bel hD0.lt hb1).alloc (.cells #[.int .i64 (n:Int)] 47)
    have hF1 := (boxed_below hF0 hF0.lt hb1).alloc (.cells #[.int .i64 (n:Int)] 47)
    have hB1 := (hB0.trans (hb1.mono hB0.size)).alloc (Nat.le_trans hB0.size hb1.size) (.cells #[.int .i64 (n:Int)] 47)
    have fz0 := hD1.frozen 0
    have hD2 := hD1.setc 0 (.int .i64 0) (by omega)
    have fz1 := hD2.frozen 1
    have cz0 := hD1.cell0
    have cz1 := hD2.cell1
    have hD3 := hD2.setc 1 (.pointer none) (by omega)
    have hF3 := Boxed.off (Boxed.off hF1 (p := ⟨w.heap.size, 0, none⟩) (by show _ ≠ w.heap.size; omega) (.int .i64 0)) (p := ⟨w.heap.size, 1, none⟩) (by show _ ≠ w.heap.size; omega) (.pointer none)
    have cy := hF3.cell
    have fy := hF3.frozen
    have hD4 := hD3.off (p := ⟨w.heap.size + 1, 0, none⟩) (by show _ ≠ w.heap.size + 1; omega) (.bool false)
    have hF4 := hF3.set (.bool false)
    have c4 := hD4.cell0
    have c4' := hD4.cell1
    have c5 := hF4.cell
    cases q
    · have d2 := d2 rfl
      have d3 : r = true := by simpa using d3
      subst d3
      go_wp2
      exact bodyPost_ret (v := .tuple #[.agg #[.int .i64 0, .pointer none], .bool false]) (by simp [results, Try.results39, go_sem, c4, c4', c5]) rfl ⟨rfl, ((hB1.setCell (p := ⟨w.heap.size, 0, none⟩) (Nat.le_refl _) _).setCell (p := ⟨w.heap.size, 1, none⟩) (Nat.le_refl _) _).setCell (p := ⟨w.heap.size + 1, 0, none⟩) (Nat.le_succ _) _⟩
    · clear d2 d3
      go_wp2
      exact bodyPost_ret (v := .tuple #[.agg #[.int .i64 0, .pointer none], .bool false]) (by simp [results, Try.results39, go_sem, c4, c4', c5]) rfl ⟨rfl, ((hB1.setCell (p := ⟨w.heap.size, 0, none⟩) (Nat.le_refl _) _).setCell (p := ⟨w.heap.size, 1, none⟩) (Nat.le_refl _) _).setCell (p := ⟨w.heap.size + 1, 0, none⟩) (Nat.le_succ _) _⟩
  by_cases e : L < 1
  · exact main true true (decide_eq_true (by omega)) (fun e => by cases e) rfl
  · exact main false true (decide_eq_false (by omega)) (fun _ => decide_eq_true (by omega)) rfl
/-- What the program makes of a list of letters. -/
theorem alphabetOf_any (n : Int) (lv : Value) (xs : List Int) (b : Nat) (w : World) (hI : IsInts w b lv xs) :
    Calls Try.prog 39 #[.int .i64 n, lv] w fun e w' => ((LetIn n xs ∧ ∃ p, e = .returned (.tuple #[.agg #[.int .i64 n, p], .bool true]) ∧ Lets w' p 0 (letL xs)) ∨ (¬ LetIn n xs ∧ e = .returned (.tuple #[.agg #[.int .i64 0, .pointer none], .bool false]))) ∧ Below w.heap.size w w' := by
  by_cases hn : 1 ≤ n ∧ n ≤ 12
  · obtain ⟨m, rfl⟩ : ∃ m : Nat, n = (m : Int) := ⟨n.toNat, by omega⟩
    by_cases hL : 1 ≤ xs.length ∧ xs.length ≤ 3
    · rcases hI.shape with ⟨_, rfl⟩ | ⟨g, cap, rfl, hg1, hg2, hg3⟩
      · simp at hL
      · refine (alphabetOf_list m g xs.length cap xs w (by omega) (by omega) rfl hL.1 hL.2 hg2 (fun i hi => hI.cell hi)).mono ?_
        rintro e w' ⟨h | h, hb⟩
        · exact ⟨.inl ⟨⟨hn, hL.1, hL.2, h.1⟩, h.2⟩, hb⟩
        · refine ⟨.inr ⟨fun hh => ?_, h.2⟩, hb⟩
          obtain ⟨i, hi, hx⟩ := h.1
          exact hx (hh.2.2.2 i hi)
    · have hno : ¬ LetIn (m : Int) xs := fun h => hL ⟨h.2.1, h.2.2.1⟩
      rcases hI.shape with ⟨rfl, rfl⟩ | ⟨g, cap, rfl, hg1, hg2, hg3⟩
      · exact (alphabetOf_size m 0 0 none w (by omega) (by omega) (by omega)).mono fun e w' ⟨h, hb⟩ => ⟨.inr ⟨hno, h⟩, hb⟩
      · exact (alphabetOf_size m xs.length cap _ w (by omega) (by omega) hL).mono fun e w' ⟨h, hb⟩ => ⟨.inr ⟨hno, h⟩, hb⟩
  · exact (alphabetOf_out n lv w hn).mono fun e w' ⟨h, hb⟩ => ⟨.inr ⟨fun h => hn h.1, h⟩, hb⟩
end Go.Proofs.Ytnlalccnhpblkaa

/- Words, the program's side: texts read and written. -/
namespace Go.Proofs.Ytnlalccnhpblkaa
open Go.RowKit Go.Shelf
set_option linter.unusedVariables false
attribute [local go_sem] Oper.semAt_some
theorem Ter.frozen {W : World} {B : Nat} {t : TypeId} {u v x : Value} (h : Ter W B t u v x) (i : Nat) : W.frozen? ⟨B, i, none⟩ = false := by simp [World.frozen?, show W.heap[B]? = _ from h]
theorem Ter.s0 {W : World} {B : Nat} {t : TypeId} {u v x : Value} (h : Ter W B t u v x) (y : Value) : Ter (W.setCell ⟨B, 0, none⟩ y) B t y v x := h.set 0 y (by omega)
theorem Ter.s1 {W : World} {B : Nat} {t : TypeId} {u v x : Value} (h : Ter W B t u v x) (y : Value) : Ter (W.setCell ⟨B, 1, none⟩ y) B t u y x := h.set 1 y (by omega)
theorem Ter.s2 {W : World} {B : Nat} {t : TypeId} {u v x : Value} (h : Ter W B t u v x) (y : Value) : Ter (W.setCell ⟨B, 2, none⟩ y) B t u v y := h.set 2 y (by omega)
theorem dif_at (xs : List UInt8) (k i : Nat) : cO (difB xs (k + 1)) i = if i = k then (smB k xs : Int) - (grB k xs : Int) else cO (difB xs k) i := by
  unfold cO
  rw [dif_up, List.getD_eq_getElem?_getD, List.getD_eq_getElem?_getD]
  by_cases h : i = k
  · subst h
    rw [if_pos rfl, List.getElem?_append_right (by rw [dif_len]; omega), dif_len, Nat.sub_self]
    rfl
  · rw [if_neg h]
    by_cases h2 : i < k
    · rw [List.getElem?_append_left (by rw [dif_len]; exact h2)]
    · rw [List.getElem?_eq_none (by rw [List.length_append, dif_len]; simp; omega), List.getElem?_eq_none (by rw [dif_len]; omega)]
theorem sm_le (xs : List UInt8) (k : Nat) : smB k xs ≤ xs.length ∧ grB k xs ≤ xs.length := ⟨List.count_le_length, List.count_le_length⟩
theorem zero_at (i : Nat) : cO [] i = 0 := by unfold cO; simp
theorem Lets.other {W : World} {v : Value} {k : Nat} {ls : List Nat} (h : Lets W v k ls) {B i : Nat} {x y z : Value} (hD : Ter W B 52 x y z) (u : Value) : Lets (W.setCell ⟨B, i, none⟩ u) v k ls :=
  Lets.grown (W := W) (W' := W.setCell ⟨B, i, none⟩ u) (fun b _ _ _ hT => Below.heap_setCell W ⟨B, i, none⟩ u b (fun e => by
    have e' : b = B := e
    subst e'
    have hD' : W.heap[b]? = some (.cells #[x, y, z] 52 (0, 0)) := hD
    have hT' : W.heap[b]? = _ := hT
    rw [hD'] at hT'
    simp at hT')) h
set_option maxRecDepth 100000 in
set_option maxHeartbeats 4000000 in
theorem read_any (n : Nat) (p : Value) (ls : List Nat) (s : ByteArray) (w : World) (h3 : ls.length ≤ 3) (hs : s.size ≤ 1048576) (hL : Lets w p 0 ls) :
    Calls Try.prog 48 #[.agg #[.int .i64 (n:Int), p], .string s] w fun e w' => e = .returned (.tuple #[.agg (wV ((cntT ls.length s.toList).getD [])), .bool (cntT ls.length s.toList).isSome]) ∧ Below w.heap.size w w' := by
  obtain ⟨xs, hxs⟩ : ∃ xs, s.data.toList = xs := ⟨_, rfl⟩
  have hto : s.toList = xs := by rw [ByteArray.toList_eq]; exact hxs
  have hlen : xs.length = s.size := by rw [← hxs]; exact Array.length_toList
  rw [hto]
  have hB0 := (((Below.refl _ w).alloc (Nat.le_refl _) (.cells #[.int .i64 (n:Int), p] 50)).alloc (by simp) (.cells #[.int .i64 0, .int .i64 0, .int .i64 0] 52)).alloc (by simp; omega) (.cells #[.int .i64 0, .int .i64 0, .int .i64 0] 52)
  have hD0 := ((Duo.new w 50 (.int .i64 (n:Int)) p).alloc (.cells #[.int .i64 0, .int .i64 0, .int .i64 0] 52)).alloc (.cells #[.int .i64 0, .int .i64 0, .int .i64 0] 52)
  have hZ0 := (Ter.new (w.alloc (.cells #[.int .i64 (n:Int), p] 50)) 52 (.int .i64 0) (.int .i64 0) (.int .i64 0)).alloc (.cells #[.int .i64 0, .int .i64 0, .int .i64 0] 52)
  have hT0 := Ter.new ((w.alloc (.cells #[.int .i64 (n:Int), p] 50)).alloc (.cells #[.int .i64 0, .int .i64 0, .int .i64 0] 52)) 52 (.int .i64 0) (.int .i64 0) (.int .i64 0)
  simp only [World.size_alloc] at hZ0 hT0
  have d1 := hD0.cell1
  have HDr := Lib.hid (drop_cons ls)
  have H3 := Lib.hid h3
  have HSm := Lib.hid (sm_le xs)
  have HTl := Lib.hid (tot_le xs ls.length h3)
  have HLen := Lib.hid hlen
  have HS := Lib.hid hs
  have HY := Lib.hid (read_yes ls.length h3 xs)
  have HN := Lib.hid (read_no ls.length h3 xs)
  have HAt := Lib.hid (dif_at xs)
  have HTU : Hid (∀ k, totB xs (k + 1) = totB xs k + (smB k xs + grB k xs)) := Lib.hid (fun k => rfl)
  have HTm : Hid (∀ k, totB xs k ≤ 6 * 1048576 ∨ 3 < k) := Lib.hid (fun k => by
    by_cases hk : k ≤ 3
    · left; have := (tot_le xs k hk).1; omega
    · right; omega)
  have HC1 := Lib.hid (fun (k : Nat) (W : World) => (show Calls Try.prog 72 #[.string s, .string ⟨#[UInt8.ofNat (97 + k)]⟩] W fun e w' => e = .returned (.int .i64 ((smB k xs : Nat) : Int)) ∧ w' = W from by
    have h := Try.strings_Count_one s (UInt8.ofNat (97 + k)) W
    rw [hxs] at h
    exact h))
  have HC2 := Lib.hid (fun (k : Nat) (W : World) => (show Calls Try.prog 72 #[.string s, .string ⟨#[UInt8.ofNat (65 + k)]⟩] W fun e w' => e = .returned (.int .i64 ((grB k xs : Nat) : Int)) ∧ w' = W from by
    have h := Try.strings_Count_one s (UInt8.ofNat (65 + k)) W
    rw [hxs] at h
    exact h))
  have HB0 := Lib.hid hB0
  have HL0 := Lib.hid (hL.below hB0)
  have HD0 := Lib.hid hD0
  have HZ0 := Lib.hid hZ0
  have HT0 := Lib.hid (show Ter (((w.alloc (.cells #[.int .i64 (n:Int), p] 50)).alloc (.cells #[.int .i64 0, .int .i64 0, .int .i64 0] 52)).alloc (.cells #[.int .i64 0, .int .i64 0, .int .i64 0] 52)) (w.heap.size + 1 + 1) 52 (.int .i64 (cO (difB xs 0) 0)) (.int .i64 (cO (difB xs 0) 1)) (.int .i64 (cO (difB xs 0) 2)) from hT0)
  clear h3 hs hL hlen hto hxs hT0 hD0 hZ0 hB0
  go_enter Try.func48, Try.ntmps48
  go_wp2
  obtain ⟨W1, hW1⟩ : ∃ W1, ((w.alloc (.cells #[.int .i64 (n:Int), p] 50)).alloc (.cells #[.int .i64 0, .int .i64 0, .int .i64 0] 52)).alloc (.cells #[.int .i64 0, .int .i64 0, .int .i64 0] 52) = W1 := ⟨_, rfl⟩
  rw [hW1] at HB0 HL0 HD0 HZ0 HT0 ⊢
  clear hW1 d1
  go_loopg [7, 8] ls.length (fun gh tot v wr => ∃ k : Nat, k + gh = ls.length ∧ tot = .int .i64 ((totB xs k : Nat) : Int) ∧ Hid (Lets wr v k (ls.drop k)) ∧ Hid (Below w.heap.size w wr) ∧ Hid (Ter wr (w.heap.size + 1) 52 (.int .i64 0) (.int .i64 0) (.int .i64 0)) ∧ Hid (Ter wr (w.heap.size + 1 + 1) 52 (.int .i64 (cO (difB xs k) 0)) (.int .i64 (cO (difB xs k) 1)) (.int .i64 (cO (difB xs k) 2))))
  case atStart => exact ⟨0, by omega, rfl, HL0, HB0, HZ0, HT0⟩
  case round =>
    obtain ⟨k, hk, rfl, HLe, HB, HZ, HT⟩ := hrel
    clear HB0 HL0 HD0 HZ0 HT0
    cases gk with
    | zero =>
      have hk' : k = ls.length := by omega
      subst hk'
      have hv := HLe.out
      rw [List.drop_length] at hv
      have hv' : u8 = .pointer none := hv
      subst hv'
      obtain ⟨T, hT⟩ : ∃ T, totB xs ls.length = T := ⟨_, rfl⟩
      have htl := HTl.out
      have hln := HLen.out
      have hss := HS.out
      have hy := HY.out
      have hn := HN.out
      rw [hT] at htl hy hn ⊢
      rw [hln] at hy hn
      by_cases hyes : T = s.size ∧ T ≤ 60
      · have HV := Lib.hid (hy hyes.1 hyes.2)
        have e1 : ((T : Int) == (s.size : Int)) = true := by rw [hyes.1]; simp
        have e1n : ((T : Int) != (s.size : Int)) = false := by rw [hyes.1]; simp
        have e2 : decide ((60 : Int) < (T : Int)) = false := decide_eq_false (by omega)
        have e3 : ¬ ((60 : Int) < (T : Int)) := by omega
        have ct0 := HT.out.cell0
        have ct1 := HT.out.cell1
        have ct2 := HT.out.cell2
        have fz0 := HZ.out.frozen 0
        have cz0 := HZ.out.cell0
        have czz1 := HZ.out.cell1
        have czz2 := HZ.out.cell2
        have fzz1 := HZ.out.frozen 1
        have fzz2 := HZ.out.frozen 2
        have hZ1 := HZ.out.s0 (.int .i64 (cO (difB xs ls.length) 0))
        have fz1 := hZ1.frozen 1
        have cz1 := hZ1.cell1
        have hZ2 := hZ1.s1 (.int .i64 (cO (difB xs ls.length) 1))
        have fz2 := hZ2.frozen 2
        have cz2 := hZ2.cell2
        have hZ3 := hZ2.s2 (.int .i64 (cO (difB xs ls.length) 2))
        have c0 := hZ3.cell0
        have c1 := hZ3.cell1
        have c2 := hZ3.cell2
        clear hyes hy hn htl hT hln hss hv
        go_wp2
        exact bodyPost_ret (v := .tuple #[.agg (wV (difB xs ls.length)), .bool true]) (by simp [results, Try.results48, go_sem, c0, c1, c2, wV]) rfl ⟨by rw [HV.out]; rfl, ((HB.out.setCell (p := ⟨w.heap.size + 1, 0, none⟩) (Nat.le_succ _) _).setCell (p := ⟨w.heap.size + 1, 1, none⟩) (Nat.le_succ _) _).setCell (p := ⟨w.heap.size + 1, 2, none⟩) (Nat.le_succ _) _⟩
      · have HV := Lib.hid (hn hyes)
        have fz0 := HZ.out.frozen 0
        have cz0 := HZ.out.cell0
        have czz1 := HZ.out.cell1
        have czz2 := HZ.out.cell2
        have fzz1 := HZ.out.frozen 1
        have fzz2 := HZ.out.frozen 2
        have hZ1 := HZ.out.s0 (.int .i64 0)
        have fz1 := hZ1.frozen 1
        have cz1 := hZ1.cell1
        have hZ2 := hZ1.s1 (.int .i64 0)
        have fz2 := hZ2.frozen 2
        have cz2 := hZ2.cell2
        have hZ3 := hZ2.s2 (.int .i64 0)
        have c0 := hZ3.cell0
        have c1 := hZ3.cell1
        have c2 := hZ3.cell2
        by_cases hts : T = s.size
        · have e1 : ((T : Int) == (s.size : Int)) = true := by rw [hts]; simp
          have e1n : ((T : Int) != (s.size : Int)) = false := by rw [hts]; simp
          have e2 : decide ((60 : Int) < (T : Int)) = true := decide_eq_true (by omega)
          have e3 : (60 : Int) < (T : Int) := by omega
          clear hyes hy hn htl hT hln hss hv hts
          go_wp2
          exact bodyPost_ret (v := .tuple #[.agg (wV []), .bool false]) (by simp [results, Try.results48, go_sem, c0, c1, c2, wV, zero_at]) rfl ⟨by rw [HV.out]; rfl, ((HB.out.setCell (p := ⟨w.heap.size + 1, 0, none⟩) (Nat.le_succ _) _).setCell (p := ⟨w.heap.size + 1, 1, none⟩) (Nat.le_succ _) _).setCell (p := ⟨w.heap.size + 1, 2, none⟩) (Nat.le_succ _) _⟩
        · have e1 : ((T : Int) == (s.size : Int)) = false := by simp; omega
          have e1n : ((T : Int) != (s.size : Int)) = true := by simp; omega
          clear hyes hy hn htl hT hln hss hv hts
          go_wp2
          exact bodyPost_ret (v := .tuple #[.agg (wV []), .bool false]) (by simp [results, Try.results48, go_sem, c0, c1, c2, wV, zero_at]) rfl ⟨by rw [HV.out]; rfl, ((HB.out.setCell (p := ⟨w.heap.size + 1, 0, none⟩) (Nat.le_succ _) _).setCell (p := ⟨w.heap.size + 1, 1, none⟩) (Nat.le_succ _) _).setCell (p := ⟨w.heap.size + 1, 2, none⟩) (Nat.le_succ _) _⟩
    | succ g =>
      have hkl : k < ls.length := by omega
      have h3' := H3.out
      have hv := HLe.out
      rw [HDr.out k hkl] at hv
      obtain ⟨b, nx, rfl, hT, hr⟩ := hv
      have c1 := hT.cell1
      have HS1 := Lib.hid (fun W hT => small_lt_any W b (lO ls k) k nx (by omega) hT)
      have HG1 := Lib.hid (fun W hT => great_any W b (lO ls k) k nx (by omega) hT)
      have HTb := Lib.hid hT
      have htu := HTU.out k
      have htm := HTm.out k
      have hsm := HSm.out k
      have hl2 := HLen.out
      have hs2 := HS.out
      have at0 := HAt.out k 0
      have at1 := HAt.out k 1
      have at2 := HAt.out k 2
      have HCa := Lib.hid (HC1.out k)
      have HCb := Lib.hid (HC2.out k)
      generalize smB k xs = a0 at *
      generalize grB k xs = b0 at *
      have hw1 : wrap64 ((a0 : Int) - (b0 : Int)) = (a0 : Int) - (b0 : Int) := IntWalk.wrap64_in _ (by omega)
      have hw2 : wrap64 ((a0 : Int) + (b0 : Int)) = ((a0 + b0 : Nat) : Int) := by rw [IntWalk.wrap64_in _ (by omega)]; omega
      obtain ⟨T0, hT0⟩ : ∃ T0, totB xs k = T0 := ⟨_, rfl⟩
      rw [hT0] at htu htm ⊢
      obtain ⟨S0, hS0⟩ : ∃ S0, a0 + b0 = S0 := ⟨_, rfl⟩
      rw [hS0] at htu hw2
      have hw3 : wrap64 ((T0 : Int) + (S0 : Int)) = ((T0 + S0 : Nat) : Int) := by rw [IntWalk.wrap64_in _ (by omega)]; omega
      have HLn : Hid (Lets wr nx (k + 1) (ls.drop (k + 1))) := Lib.hid hr
      have HN1 := Lib.hid htu
      have HA0 := Lib.hid at0
      have HA1 := Lib.hid at1
      have HA2 := Lib.hid at2
      have hk3 : k = 0 ∨ k = 1 ∨ k = 2 := by omega
      have HK := Lib.hid hk
      have HW := Lib.hid (⟨hw1, hw2, hw3⟩ : _ ∧ _ ∧ _)
      clear htu htm hsm hl2 hs2 at0 at1 at2 hT0 hS0 hr hT h3' hk hkl HLe hw1 hw2 hw3 c1
      rcases hk3 with rfl | rfl | rfl
      · go_wp2_with fail
        refine (HS1.out _ HTb.out).mono ?_
        rintro e w1 ⟨rfl, hb1⟩
        have HB1 := Lib.hid (HB.out.trans (hb1.mono HB.out.size))
        have HTb1 := Lib.hid (HTb.out.below HTb.out.lt hb1)
        go_wp2_with fail
        refine (HCa.out _).mono ?_
        rintro e w1' ⟨rfl, rfl⟩
        go_wp2_with fail
        refine (HG1.out _ HTb1.out).mono ?_
        rintro e w2 ⟨rfl, hb2⟩
        go_wp2_with fail
        refine (HCb.out _).mono ?_
        rintro e w2' ⟨rfl, rfl⟩
        have HB2 := Lib.hid (HB1.out.trans (hb2.mono HB1.out.size))
        have hTb2 := HTb1.out.below HTb1.out.lt hb2
        have hT2 := (HT.out.below HT.out.lt hb1).below (HT.out.below HT.out.lt hb1).lt hb2
        have hZ2 := (HZ.out.below HZ.out.lt hb1).below (HZ.out.below HZ.out.lt hb1).lt hb2
        have hL2 := (HLn.out.below hb1).below hb2
        have c1 := hTb2.cell1
        have c2 := hTb2.cell2
        have f0 := hT2.frozen 0
        have t0 := hT2.cell0
        obtain ⟨hw1, hw2, hw3⟩ := HW.out
        have hne : b ≠ w.heap.size + 1 + 1 := fun e => by
          subst e
          rw [Ter] at hTb2 hT2
          rw [hTb2] at hT2
          simp at hT2
        have c1' := (hTb2.off (p := ⟨w.heap.size + 1 + 1, 0, none⟩) hne (.int .i64 ((a0:Int) - (b0:Int)))).cell1
        have c2' := (hTb2.off (p := ⟨w.heap.size + 1 + 1, 0, none⟩) hne (.int .i64 ((a0:Int) - (b0:Int)))).cell2
        go_wp2
        go_roundg g
        case rel =>
          have hs := hT2.set 0 (.int .i64 ((a0:Int) - (b0:Int))) (by omega)
          refine ⟨1, by have := HK.out; omega, by rw [HN1.out, hw3], Lib.hid (hL2.other hT2 _), Lib.hid (HB2.out.setCell (p := ⟨w.heap.size + 1 + 1, 0, none⟩) (by show _ ≤ w.heap.size + 1 + 1; omega) _), Lib.hid (hZ2.off (p := ⟨w.heap.size + 1 + 1, 0, none⟩) (by show _ ≠ w.heap.size + 1 + 1; omega) _), Lib.hid ?_⟩
          show Ter _ _ _ (.int .i64 (cO (difB xs (0 + 1)) 0)) (.int .i64 (cO (difB xs (0 + 1)) 1)) (.int .i64 (cO (difB xs (0 + 1)) 2))
          rw [HA0.out, HA1.out, HA2.out]
          exact hs
        case measure => omega
      · go_wp2_with fail
        refine (HS1.out _ HTb.out).mono ?_
        rintro e w1 ⟨rfl, hb1⟩
        have HB1 := Lib.hid (HB.out.trans (hb1.mono HB.out.size))
        have HTb1 := Lib.hid (HTb.out.below HTb.out.lt hb1)
        go_wp2_with fail
        refine (HCa.out _).mono ?_
        rintro e w1' ⟨rfl, rfl⟩
        go_wp2_with fail
        refine (HG1.out _ HTb1.out).mono ?_
        rintro e w2 ⟨rfl, hb2⟩
        go_wp2_with fail
        refine (HCb.out _).mono ?_
        rintro e w2' ⟨rfl, rfl⟩
        have HB2 := Lib.hid (HB1.out.trans (hb2.mono HB1.out.size))
        have hTb2 := HTb1.out.below HTb1.out.lt hb2
        have hT2 := (HT.out.below HT.out.lt hb1).below (HT.out.below HT.out.lt hb1).lt hb2
        have hZ2 := (HZ.out.below HZ.out.lt hb1).below (HZ.out.below HZ.out.lt hb1).lt hb2
        have hL2 := (HLn.out.below hb1).below hb2
        have c1 := hTb2.cell1
        have c2 := hTb2.cell2
        have f0 := hT2.frozen 1
        have t0 := hT2.cell1
        obtain ⟨hw1, hw2, hw3⟩ := HW.out
        have hne : b ≠ w.heap.size + 1 + 1 := fun e => by
          subst e
          rw [Ter] at hTb2 hT2
          rw [hTb2] at hT2
          simp at hT2
        have c1' := (hTb2.off (p := ⟨w.heap.size + 1 + 1, 1, none⟩) hne (.int .i64 ((a0:Int) - (b0:Int)))).cell1
        have c2' := (hTb2.off (p := ⟨w.heap.size + 1 + 1, 1, none⟩) hne (.int .i64 ((a0:Int) - (b0:Int)))).cell2
        go_wp2
        go_roundg g
        case rel =>
          have hs := hT2.set 1 (.int .i64 ((a0:Int) - (b0:Int))) (by omega)
          refine ⟨2, by have := HK.out; omega, by rw [HN1.out, hw3], Lib.hid (hL2.other hT2 _), Lib.hid (HB2.out.setCell (p := ⟨w.heap.size + 1 + 1, 1, none⟩) (by show _ ≤ w.heap.size + 1 + 1; omega) _), Lib.hid (hZ2.off (p := ⟨w.heap.size + 1 + 1, 1, none⟩) (by show _ ≠ w.heap.size + 1 + 1; omega) _), Lib.hid ?_⟩
          show Ter _ _ _ (.int .i64 (cO (difB xs (1 + 1)) 0)) (.int .i64 (cO (difB xs (1 + 1)) 1)) (.int .i64 (cO (difB xs (1 + 1)) 2))
          rw [HA0.out, HA1.out, HA2.out]
          exact hs
        case measure => omega
      · go_wp2_with fail
        refine (HS1.out _ HTb.out).mono ?_
        rintro e w1 ⟨rfl, hb1⟩
        have HB1 := Lib.hid (HB.out.trans (hb1.mono HB.out.size))
        have HTb1 := Lib.hid (HTb.out.below HTb.out.lt hb1)
        go_wp2_with fail
        refine (HCa.out _).mono ?_
        rintro e w1' ⟨rfl, rfl⟩
        go_wp2_with fail
        refine (HG1.out _ HTb1.out).mono ?_
        rintro e w2 ⟨rfl, hb2⟩
        go_wp2_with fail
        refine (HCb.out _).mono ?_
        rintro e w2' ⟨rfl, rfl⟩
        have HB2 := Lib.hid (HB1.out.trans (hb2.mono HB1.out.size))
        have hTb2 := HTb1.out.below HTb1.out.lt hb2
        have hT2 := (HT.out.below HT.out.lt hb1).below (HT.out.below HT.out.lt hb1).lt hb2
        have hZ2 := (HZ.out.below HZ.out.lt hb1).below (HZ.out.below HZ.out.lt hb1).lt hb2
        have hL2 := (HLn.out.below hb1).below hb2
        have c1 := hTb2.cell1
        have c2 := hTb2.cell2
        have f0 := hT2.frozen 2
        have t0 := hT2.cell2
        obtain ⟨hw1, hw2, hw3⟩ := HW.out
        have hne : b ≠ w.heap.size + 1 + 1 := fun e => by
          subst e
          rw [Ter] at hTb2 hT2
          rw [hTb2] at hT2
          simp at hT2
        have c1' := (hTb2.off (p := ⟨w.heap.size + 1 + 1, 2, none⟩) hne (.int .i64 ((a0:Int) - (b0:Int)))).cell1
        have c2' := (hTb2.off (p := ⟨w.heap.size + 1 + 1, 2, none⟩) hne (.int .i64 ((a0:Int) - (b0:Int)))).cell2
        go_wp2
        go_roundg g
        case rel =>
          have hs := hT2.set 2 (.int .i64 ((a0:Int) - (b0:Int))) (by omega)
          refine ⟨3, by have := HK.out; omega, by rw [HN1.out, hw3], Lib.hid (hL2.other hT2 _), Lib.hid (HB2.out.setCell (p := ⟨w.heap.size + 1 + 1, 2, none⟩) (by show _ ≤ w.heap.size + 1 + 1; omega) _), Lib.hid (hZ2.off (p := ⟨w.heap.size + 1 + 1, 2, none⟩) (by show _ ≠ w.heap.size + 1 + 1; omega) _), Lib.hid ?_⟩
          show Ter _ _ _ (.int .i64 (cO (difB xs (2 + 1)) 0)) (.int .i64 (cO (difB xs (2 + 1)) 1)) (.int .i64 (cO (difB xs (2 + 1)) 2))
          rw [HA0.out, HA1.out, HA2.out]
          exact hs
        case measure => omega
theorem rep_any (y : UInt8) (j : Nat) (W : World) (hj : j ≤ 100) : Calls Try.prog 52 #[.string ⟨#[y]⟩, .int .i64 (j:Int)] W fun e w' => e = .returned (.string (repY y j)) ∧ Below W.heap.size W w' := by
  refine (Try.strings_Repeat ⟨#[y]⟩ j W (by omega) (by show 1 * j ≤ _; omega)).mono ?_
  rintro e w' ⟨rfl, hb⟩
  refine ⟨?_, hb⟩
  have h : ∀ c, Lib.repeatL [y] c = List.replicate c y := by
    intro c
    induction c with
    | zero => rfl
    | succ c ih => show [y] ++ Lib.repeatL [y] c = _; rw [ih]; rfl
  show Ending.returned (.string ⟨(Lib.repeatL [y] j).toArray⟩) = _
  rw [h]
  rfl
theorem sz_append (s t : ByteArray) : (s ++ t).size = s.size + t.size := by
  show (s ++ t).data.size = s.data.size + t.data.size
  rw [ByteArray.data_append, Array.size_append]
theorem write_step (cs : List Int) (k P Q : Nat) (hk : k < cs.length) (hP : P = (cO cs k).toNat) (hQ : Q = (-(cO cs k)).toNat) : toB (textC 0 (cs.take (k + 1))) = toB (textC 0 (cs.take k)) ++ (repY (UInt8.ofNat (97 + k)) P ++ repY (UInt8.ofNat (65 + k)) Q) := by
  rw [text_step cs k hk]
  congr 1
  have e0 : ∀ y, repY y 0 = ⟨#[]⟩ := fun y => rfl
  show repY (UInt8.ofNat (if 0 < cO cs k then 97 + k else 65 + k)) (cO cs k).natAbs = _
  by_cases h : 0 < cO cs k
  · rw [if_pos h, show (cO cs k).natAbs = P by omega, show Q = 0 by omega, e0]
    show toB _ = toB _ ++ toB []
    rw [toB_append, List.append_nil]
  · rw [if_neg h, show (cO cs k).natAbs = Q by omega, show P = 0 by omega, e0]
    show toB _ = toB [] ++ toB _
    rw [toB_append, List.nil_append]
set_option maxRecDepth 100000 in
set_option maxHeartbeats 4000000 in
theorem write_any (n : Nat) (p : Value) (ls : List Nat) (cs : List Int) (w : World) (hl : cs.length = ls.length) (h3 : ls.length ≤ 3) (hc : absL cs ≤ 60) (hL : Lets w p 0 ls) :
    Calls Try.prog 32 #[.agg #[.int .i64 (n:Int), p], .agg (wV cs)] w fun e w' => e = .returned (.string (toB (textC 0 cs))) ∧ Below w.heap.size w w' := by
  have hB0 : Below w.heap.size w ((w.alloc (.cells #[.int .i64 (n:Int), p] 50)).alloc (.cells #[.int .i64 (cO cs 0), .int .i64 (cO cs 1), .int .i64 (cO cs 2)] 52)) := ((Below.refl _ w).alloc (Nat.le_refl _) _).alloc (by simp) _
  have hT0 := Ter.new (w.alloc (.cells #[.int .i64 (n:Int), p] 50)) 52 (.int .i64 (cO cs 0)) (.int .i64 (cO cs 1)) (.int .i64 (cO cs 2))
  simp only [World.size_alloc] at hT0
  have d1 := ((Duo.new w 50 (.int .i64 (n:Int)) p).alloc (.cells #[.int .i64 (cO cs 0), .int .i64 (cO cs 1), .int .i64 (cO cs 2)] 52)).cell1
  have HDr := Lib.hid (drop_cons ls)
  have H3 := Lib.hid h3
  have HL := Lib.hid hl
  have HSt := Lib.hid (write_step cs)
  have HSz := Lib.hid (fun k => text_size cs k)
  have HAb := Lib.hid (fun k => abs_get cs k)
  have HC := Lib.hid hc
  have HE : Hid (cs.take ls.length = cs) := Lib.hid (by rw [← hl, List.take_length])
  have HRp := Lib.hid rep_any
  have HB0 := Lib.hid hB0
  have HL0 := Lib.hid (hL.below hB0)
  have HT0 := Lib.hid hT0
  clear hl h3 hc hL hB0 hT0
  go_enter Try.func32, Try.ntmps32
  unfold wV at *
  go_wp2
  obtain ⟨W1, hW1⟩ : ∃ W1, (w.alloc (.cells #[.int .i64 (n:Int), p] 50)).alloc (.cells #[.int .i64 (cO cs 0), .int .i64 (cO cs 1), .int .i64 (cO cs 2)] 52) = W1 := ⟨_, rfl⟩
  rw [hW1] at HB0 HL0 HT0 ⊢
  clear hW1 d1
  go_loopg [5, 6] ls.length (fun gh tx v wr => ∃ k : Nat, k + gh = ls.length ∧ tx = .string (toB (textC 0 (cs.take k))) ∧ Hid (Lets wr v k (ls.drop k)) ∧ Hid (Below w.heap.size w wr) ∧ Hid (Ter wr (w.heap.size + 1) 52 (.int .i64 (cO cs 0)) (.int .i64 (cO cs 1)) (.int .i64 (cO cs 2))))
  case atStart => exact ⟨0, by omega, rfl, HL0, HB0, HT0⟩
  case round =>
    obtain ⟨k, hk, rfl, HLe, HB, HT⟩ := hrel
    clear HB0 HL0 HT0
    cases gk with
    | zero =>
      have hk' : k = ls.length := by omega
      subst hk'
      have hv := HLe.out
      rw [List.drop_length] at hv
      have hv' : u6 = .pointer none := hv
      subst hv'
      rw [HE.out]
      obtain ⟨X, hX⟩ : ∃ X, toB (textC 0 cs) = X := ⟨_, rfl⟩
      rw [hX]
      have HX := Lib.hid hX
      clear hv hX hk
      go_wp2
      go_ret
      exact ⟨by rw [HX.out]; rfl, HB.out⟩
    | succ g =>
      have hkl : k < ls.length := by omega
      have h3' := H3.out
      have hv := HLe.out
      rw [HDr.out k hkl] at hv
      obtain ⟨b, nx, rfl, hT, hr⟩ := hv
      have c1 := hT.cell1
      have cw := HT.out.at k (by omega)
      have ha := HAb.out k
      have hc60 := HC.out
      have hsz := HSz.out k
      have HS1 := Lib.hid (fun W hT => small_lt_any W b (lO ls k) k nx (by omega) hT)
      have HG1 := Lib.hid (fun W hT => great_any W b (lO ls k) k nx (by omega) hT)
      have HTb := Lib.hid hT
      obtain ⟨P, hP⟩ : ∃ P, P = (cO cs k).toNat := ⟨_, rfl⟩
      obtain ⟨Q, hQ⟩ : ∃ Q, Q = (-(cO cs k)).toNat := ⟨_, rfl⟩
      have hst := HSt.out k P Q (by rw [HL.out]; exact hkl) hP hQ
      obtain ⟨X, hX⟩ : ∃ X, toB (textC 0 (cs.take k)) = X := ⟨_, rfl⟩
      rw [hX] at hst hsz ⊢
      obtain ⟨z, hz⟩ : ∃ z, cO cs k = z := ⟨_, rfl⟩
      have ha' : z.natAbs ≤ 60 := by
        have e : cs.getD k 0 = z := hz
        rw [e] at ha
        omega
      rw [hz] at hP hQ cw
      have HR1 := Lib.hid (fun W => HRp.out (UInt8.ofNat (97 + k)) P W (by omega))
      have HR2 := Lib.hid (fun W => HRp.out (UInt8.ofNat (65 + k)) Q W (by omega))
      obtain ⟨A1, hA1⟩ : ∃ A1, repY (UInt8.ofNat (97 + k)) P = A1 := ⟨_, rfl⟩
      obtain ⟨A2, hA2⟩ : ∃ A2, repY (UInt8.ofNat (65 + k)) Q = A2 := ⟨_, rfl⟩
      have s1 : A1.size ≤ 60 := by rw [← hA1, rep_size]; omega
      have s2 : A2.size ≤ 60 := by rw [← hA2, rep_size]; omega
      rw [hA1] at HR1 hst
      rw [hA2] at HR2 hst
      have z1 : A1.size + A2.size ≤ 9223372036854775807 := by omega
      have z2 : X.size + (A1 ++ A2).size ≤ 9223372036854775807 := by rw [sz_append]; omega
      have HLn : Hid (Lets wr nx (k + 1) (ls.drop (k + 1))) := Lib.hid hr
      have HN := Lib.hid hst
      have hk3 : k = 0 ∨ k = 1 ∨ k = 2 := by omega
      have HK := Lib.hid hk
      have hn1 : wrap64 (-z) = -z := IntWalk.wrap64_in _ (by omega)
      have HPQ := Lib.hid (⟨hP, hQ⟩ : P = z.toNat ∧ Q = (-z).toNat)
      clear hst ha hc60 hsz hX hz hA1 hA2 s1 s2 hr hT h3' hk hkl HLe hP hQ
      have hm1 : (P : Int) = max z 0 := by have := HPQ.out; omega
      have hm2 : (Q : Int) = max (-z) 0 := by have := HPQ.out; omega
      rw [hm1] at HR1
      rw [hm2] at HR2
      clear hm1 hm2
      rcases hk3 with rfl | rfl | rfl
      · go_wp2_with fail
        refine (HS1.out _ HTb.out).mono ?_
        rintro e w1 ⟨rfl, hb1⟩
        have HB1 := Lib.hid (HB.out.trans (hb1.mono HB.out.size))
        have HTb1 := Lib.hid (HTb.out.below HTb.out.lt hb1)
        have HT1 := Lib.hid (HT.out.below HT.out.lt hb1)
        have HL1 := Lib.hid (HLn.out.below hb1)
        clear hb1
        go_wp2_with fail
        refine (HR1.out _).mono ?_
        rintro e w2 ⟨rfl, hb2⟩
        have HB2 := Lib.hid (HB1.out.trans (hb2.mono HB1.out.size))
        have HTb2 := Lib.hid (HTb1.out.below HTb1.out.lt hb2)
        have HT2 := Lib.hid (HT1.out.below HT1.out.lt hb2)
        have HL2 := Lib.hid (HL1.out.below hb2)
        clear hb2
        go_wp2_with fail
        refine (HG1.out _ HTb2.out).mono ?_
        rintro e w3 ⟨rfl, hb3⟩
        have HB3 := Lib.hid (HB2.out.trans (hb3.mono HB2.out.size))
        have HTb3 := Lib.hid (HTb2.out.below HTb2.out.lt hb3)
        have HT3 := Lib.hid (HT2.out.below HT2.out.lt hb3)
        have HL3 := Lib.hid (HL2.out.below hb3)
        clear hb3
        go_wp2_with fail
        refine (HR2.out _).mono ?_
        rintro e w4 ⟨rfl, hb4⟩
        have HB4 := Lib.hid (HB3.out.trans (hb4.mono HB3.out.size))
        have HTb4 := Lib.hid (HTb3.out.below HTb3.out.lt hb4)
        have HT4 := Lib.hid (HT3.out.below HT3.out.lt hb4)
        have HL4 := Lib.hid (HL3.out.below hb4)
        have c2 := HTb4.out.cell2
        clear hb4
        go_wp2
        go_roundg g
        case rel => exact ⟨1, by have := HK.out; omega, by rw [HN.out], HL4, HB4, HT4⟩
        case measure => omega
      · go_wp2_with fail
        refine (HS1.out _ HTb.out).mono ?_
        rintro e w1 ⟨rfl, hb1⟩
        have HB1 := Lib.hid (HB.out.trans (hb1.mono HB.out.size))
        have HTb1 := Lib.hid (HTb.out.below HTb.out.lt hb1)
        have HT1 := Lib.hid (HT.out.below HT.out.lt hb1)
        have HL1 := Lib.hid (HLn.out.below hb1)
        clear hb1
        go_wp2_with fail
        refine (HR1.out _).mono ?_
        rintro e w2 ⟨rfl, hb2⟩
        have HB2 := Lib.hid (HB1.out.trans (hb2.mono HB1.out.size))
        have HTb2 := Lib.hid (HTb1.out.below HTb1.out.lt hb2)
        have HT2 := Lib.hid (HT1.out.below HT1.out.lt hb2)
        have HL2 := Lib.hid (HL1.out.below hb2)
        clear hb2
        go_wp2_with fail
        refine (HG1.out _ HTb2.out).mono ?_
        rintro e w3 ⟨rfl, hb3⟩
        have HB3 := Lib.hid (HB2.out.trans (hb3.mono HB2.out.size))
        have HTb3 := Lib.hid (HTb2.out.below HTb2.out.lt hb3)
        have HT3 := Lib.hid (HT2.out.below HT2.out.lt hb3)
        have HL3 := Lib.hid (HL2.out.below hb3)
        clear hb3
        go_wp2_with fail
        refine (HR2.out _).mono ?_
        rintro e w4 ⟨rfl, hb4⟩
        have HB4 := Lib.hid (HB3.out.trans (hb4.mono HB3.out.size))
        have HTb4 := Lib.hid (HTb3.out.below HTb3.out.lt hb4)
        have HT4 := Lib.hid (HT3.out.below HT3.out.lt hb4)
        have HL4 := Lib.hid (HL3.out.below hb4)
        have c2 := HTb4.out.cell2
        clear hb4
        go_wp2
        go_roundg g
        case rel => exact ⟨2, by have := HK.out; omega, by rw [HN.out], HL4, HB4, HT4⟩
        case measure => omega
      · go_wp2_with fail
        refine (HS1.out _ HTb.out).mono ?_
        rintro e w1 ⟨rfl, hb1⟩
        have HB1 := Lib.hid (HB.out.trans (hb1.mono HB.out.size))
        have HTb1 := Lib.hid (HTb.out.below HTb.out.lt hb1)
        have HT1 := Lib.hid (HT.out.below HT.out.lt hb1)
        have HL1 := Lib.hid (HLn.out.below hb1)
        clear hb1
        go_wp2_with fail
        refine (HR1.out _).mono ?_
        rintro e w2 ⟨rfl, hb2⟩
        have HB2 := Lib.hid (HB1.out.trans (hb2.mono HB1.out.size))
        have HTb2 := Lib.hid (HTb1.out.below HTb1.out.lt hb2)
        have HT2 := Lib.hid (HT1.out.below HT1.out.lt hb2)
        have HL2 := Lib.hid (HL1.out.below hb2)
        clear hb2
        go_wp2_with fail
        refine (HG1.out _ HTb2.out).mono ?_
        rintro e w3 ⟨rfl, hb3⟩
        have HB3 := Lib.hid (HB2.out.trans (hb3.mono HB2.out.size))
        have HTb3 := Lib.hid (HTb2.out.below HTb2.out.lt hb3)
        have HT3 := Lib.hid (HT2.out.below HT2.out.lt hb3)
        have HL3 := Lib.hid (HL2.out.below hb3)
        clear hb3
        go_wp2_with fail
        refine (HR2.out _).mono ?_
        rintro e w4 ⟨rfl, hb4⟩
        have HB4 := Lib.hid (HB3.out.trans (hb4.mono HB3.out.size))
        have HTb4 := Lib.hid (HTb3.out.below HTb3.out.lt hb4)
        have HT4 := Lib.hid (HT3.out.below HT3.out.lt hb4)
        have HL4 := Lib.hid (HL3.out.below hb4)
        have c2 := HTb4.out.cell2
        clear hb4
        go_wp2
        go_roundg g
        case rel => exact ⟨3, by have := HK.out; omega, by rw [HN.out], HL4, HB4, HT4⟩
        case measure => omega
end Go.Proofs.Ytnlalccnhpblkaa
