/- Texts of mine, laid together: FarLL RndA RndB RndC RndF RndD RndG RndH RndI. -/
import Derived.Test.YtnlalccnhpblkaaGD
import Derived.Test.YtnlalccnhpblkaaGB
import Derived.Test.YtnlalccnhpblkaaGC
import Derived.Laws.AppendOwn
import Derived.Test.YtnlalccnhpblkaaGA
/- Exact laws of functions whose first result is a list of integers: two calls that answer alike. -/
namespace Go.Proofs.Ytnlalccnhpblkaa
open Go.RowKit
set_option linter.unusedVariables false
/-- A list of one's own, and whether it succeeded. -/
def ListRes (w : World) (xs : List Int) (b : Bool) (e : Ending) (w' : World) : Prop :=
  ∃ sv, e = .returned (.tuple #[sv, .bool b]) ∧ Below w.heap.size w w' ∧ IsInts w' w.heap.size sv xs
theorem lists_res {w w' : World} {n : Nat} {xs : List Int} {e : Ending} (h : ListsPost w n xs e w') : ListRes w xs true e w' := by
  obtain ⟨g, cap, he, hb, hI⟩ := h
  exact ⟨_, he, hb, hI⟩
theorem none_res {w w' : World} {e : Ending} (h : NonePost w e w') : ListRes w [] false e w' := h
theorem nil_res {w w' : World} {e : Ending} (h : e = .returned (.tuple #[.slice none 0 0, .bool false]) ∧ Below w.heap.size w w') : ListRes w [] false e w' := ⟨_, h.1, h.2, isInts_nil _ _⟩
end Go.Proofs.Ytnlalccnhpblkaa

/- Rounds: what a list is that is a round. -/
namespace Go.Proofs.Ytnlalccnhpblkaa
open Go.RowKit
set_option linter.unusedVariables false
/-- Whether a list is a round of steps. -/
structure IsRnd (n s : Nat) (xs : List Int) : Prop where
  len : xs.length = n
  two : 2 ≤ n
  zero : xs.getD 0 0 = 0
  lo : ∀ i, i < n → 0 ≤ xs.getD i 0
  hi : ∀ i, i < n → xs.getD i 0 < (n : Int)
  arc : ∀ i, i < n → s.testBit (rest n (xs.getD ((i + 1) % n) 0 - xs.getD i 0)) = true
  all : ∀ v : Nat, v < n → ∃ i, i < n ∧ xs.getD i 0 = (v : Int)
noncomputable def isRndB (n s : Nat) (xs : List Int) : Bool := @decide (IsRnd n s xs) (Classical.propDecidable _)
theorem isRnd_yes {n s : Nat} {xs : List Int} (h : IsRnd n s xs) : isRndB n s xs = true := by
  unfold isRndB
  exact @decide_eq_true _ (Classical.propDecidable _) h
theorem isRnd_no {n s : Nat} {xs : List Int} (h : ¬ IsRnd n s xs) : isRndB n s xs = false := by
  unfold isRndB
  exact @decide_eq_false _ (Classical.propDecidable _) h
theorem isRnd_iff {n s : Nat} {xs : List Int} : isRndB n s xs = true ↔ IsRnd n s xs :=
  ⟨fun h => Classical.byContradiction fun c => (by rw [isRnd_no c] at h; cases h), isRnd_yes⟩
/-- The places that the first i numbers are. -/
def seenN (xs : List Int) : Nat → Nat
  | 0 => 0
  | i + 1 => seenN xs i ||| 2 ^ (xs.getD i 0).toNat
theorem seen_lt (n : Nat) (xs : List Int) (i : Nat) (h : ∀ j, j < i → 0 ≤ xs.getD j 0 ∧ xs.getD j 0 < (n : Int)) : seenN xs i < 2 ^ n := by
  induction i with
  | zero => exact Nat.two_pow_pos n
  | succ i ih =>
    refine Nat.or_lt_two_pow (ih fun j hj => h j (by omega)) ?_
    have := h i (by omega)
    exact Nat.pow_lt_pow_right (by omega) (by omega)
theorem seen_bit (xs : List Int) (i v : Nat) (h : ∀ j, j < i → 0 ≤ xs.getD j 0) : (seenN xs i).testBit v = true ↔ ∃ j, j < i ∧ xs.getD j 0 = (v : Int) := by
  induction i with
  | zero =>
    constructor
    · intro h; simp [seenN] at h
    · rintro ⟨j, hj, _⟩; omega
  | succ i ih =>
    have hi := h i (by omega)
    show (seenN xs i ||| 2 ^ (xs.getD i 0).toNat).testBit v = true ↔ _
    rw [Nat.testBit_or, Bool.or_eq_true, ih fun j hj => h j (by omega), Nat.testBit_two_pow]
    constructor
    · rintro (⟨j, hj, e⟩ | e)
      · exact ⟨j, by omega, e⟩
      · exact ⟨i, by omega, by have := of_decide_eq_true e; omega⟩
    · rintro ⟨j, hj, e⟩
      by_cases c : j = i
      · subst c
        exact .inr (decide_eq_true (by omega))
      · exact .inl ⟨j, by omega, e⟩
theorem seen_all (n : Nat) (xs : List Int) (h : ∀ j, j < n → 0 ≤ xs.getD j 0 ∧ xs.getD j 0 < (n : Int)) : seenN xs n = 2 ^ n - 1 ↔ ∀ v : Nat, v < n → ∃ i, i < n ∧ xs.getD i 0 = (v : Int) := by
  constructor
  · intro e v hv
    refine (seen_bit xs n v fun j hj => (h j hj).1).1 ?_
    rw [e, Nat.testBit_two_pow_sub_one]
    exact decide_eq_true hv
  · intro hall
    refine Nat.eq_of_testBit_eq fun v => ?_
    rw [Nat.testBit_two_pow_sub_one]
    by_cases hv : v < n
    · rw [decide_eq_true hv]
      exact (seen_bit xs n v fun j hj => (h j hj).1).2 (hall v hv)
    · rw [decide_eq_false hv]
      exact Nat.testBit_lt_two_pow (Nat.lt_of_lt_of_le (seen_lt n xs n h) (Nat.pow_le_pow_right (by omega) (by omega)))
/-- The arc behind the number i, as it is reckoned of numbers that may be none of the ring. -/
def arcD (n : Nat) (xs : List Int) (i : Nat) : Int := wrap64 (xs.getD ((i + 1) % n) 0 - xs.getD i 0)
theorem arcD_in {n : Nat} {xs : List Int} {i : Nat} (h2 : n ≤ 12) (h : ∀ j, j < n → 0 ≤ xs.getD j 0 ∧ xs.getD j 0 < (n : Int)) (hi : i < n) : arcD n xs i = xs.getD ((i + 1) % n) 0 - xs.getD i 0 := by
  have a := h i hi
  have b := h ((i + 1) % n) (Nat.mod_lt _ (by omega))
  exact IntWalk.wrap64_in _ ⟨by omega, by omega⟩
/-- What a walk along the list has seen. -/
structure Ahead (n s : Nat) (xs : List Int) (i : Nat) : Prop where
  inn : ∀ j, j < i → 0 ≤ xs.getD j 0 ∧ xs.getD j 0 < (n : Int)
  arc : ∀ j, j < i → s.testBit (rest n (arcD n xs j)) = true
theorem ahead_zero (n s : Nat) (xs : List Int) : Ahead n s xs 0 := ⟨fun j h => absurd h (by omega), fun j h => absurd h (by omega)⟩
theorem ahead_succ {n s : Nat} {xs : List Int} {i : Nat} (h : Ahead n s xs i) (hl : 0 ≤ xs.getD i 0) (hh : xs.getD i 0 < (n : Int)) (ha : s.testBit (rest n (arcD n xs i)) = true) : Ahead n s xs (i + 1) :=
  ⟨fun j hj => by by_cases e : j = i; · subst e; exact ⟨hl, hh⟩
                  · exact h.inn j (by omega),
   fun j hj => by by_cases e : j = i; · subst e; exact ha
                  · exact h.arc j (by omega)⟩
theorem rnd_end {n s : Nat} {xs : List Int} (h2 : n ≤ 12) (hlen : xs.length = n) (h : 2 ≤ n) (h0 : xs.getD 0 0 = 0) (ha : Ahead n s xs n) : IsRnd n s xs ↔ seenN xs n = 2 ^ n - 1 := by
  rw [seen_all n xs ha.inn]
  exact ⟨fun hr => hr.all, fun hall => ⟨hlen, h, h0, fun i hi => (ha.inn i hi).1, fun i hi => (ha.inn i hi).2, fun i hi => by rw [← arcD_in h2 ha.inn hi]; exact ha.arc i hi, hall⟩⟩
theorem rnd_arc {n s : Nat} {xs : List Int} {i : Nat} (h2 : n ≤ 12) (hi : i < n) (hb : s.testBit (rest n (arcD n xs i)) = false) : ¬ IsRnd n s xs := fun h => by
  have e := h.arc i hi
  rw [← arcD_in h2 (fun j hj => ⟨h.lo j hj, h.hi j hj⟩) hi, hb] at e
  cases e
end Go.Proofs.Ytnlalccnhpblkaa

/- Rounds: how many there are, and the first one. -/
namespace Go.Proofs.Ytnlalccnhpblkaa
open Go.RowKit
set_option linter.unusedVariables false
/-- Whether the round may go on from one place to another one that is not met. -/
def mayN (n s at' met v : Nat) : Bool := !decide (v = 0) && !met.testBit v && s.testBit (rest n ((v : Int) - (at' : Int)))
/-- Ways to go on by m places and back to 0. -/
def cntN (n s : Nat) : Nat → Nat → Nat → Nat
  | 0, a, _ => b2n (s.testBit (rest n (0 - (a : Int))))
  | m + 1, a, met => sumTo (fun v => if mayN n s a met v then cntN n s m v (met ||| 2 ^ v) else 0) n
/-- The first that is there. -/
def fstTo (f : Nat → Option (List Int)) : Nat → Option (List Int)
  | 0 => none
  | j + 1 => match fstTo f j with
    | some l => some l
    | none => f j
def firN (n s : Nat) : Nat → Nat → Nat → Option (List Int)
  | 0, a, _ => if s.testBit (rest n (0 - (a : Int))) then some [] else none
  | m + 1, a, met => fstTo (fun v => if mayN n s a met v then (firN n s m v (met ||| 2 ^ v)).map (fun l => (v : Int) :: l) else none) n
/-- What one place brings. -/
def brN (n s m a met v : Nat) : Nat := if mayN n s a met v then cntN n s m v (met ||| 2 ^ v) else 0
def bfN (n s m a met v : Nat) : Option (List Int) := if mayN n s a met v then (firN n s m v (met ||| 2 ^ v)).map (fun l => (v : Int) :: l) else none
theorem cnt_succ (n s m a met : Nat) : cntN n s (m + 1) a met = sumTo (brN n s m a met) n := rfl
theorem fir_succ (n s m a met : Nat) : firN n s (m + 1) a met = fstTo (bfN n s m a met) n := rfl
theorem fst_none (f : Nat → Option (List Int)) (g : Nat → Nat) (h : ∀ v, f v = none ↔ g v = 0) (j : Nat) : fstTo f j = none ↔ sumTo g j = 0 := by
  induction j with
  | zero => exact ⟨fun _ => rfl, fun _ => rfl⟩
  | succ j ih =>
    show (match fstTo f j with | some l => some l | none => f j) = none ↔ sumTo g j + g j = 0
    cases hf : fstTo f j with
    | none =>
      have := ih.1 hf
      simp only []
      rw [h j]
      omega
    | some l =>
      have : ¬ sumTo g j = 0 := fun e => by rw [ih.2 e] at hf; cases hf
      simp only []
      constructor
      · intro e; cases e
      · omega
theorem fir_none (n s m a met : Nat) : firN n s m a met = none ↔ cntN n s m a met = 0 := by
  induction m generalizing a met with
  | zero =>
    show (if s.testBit (rest n (0 - (a : Int))) then some [] else none) = none ↔ b2n _ = 0
    cases s.testBit (rest n (0 - (a : Int))) <;> simp [b2n]
  | succ m ih =>
    rw [fir_succ, cnt_succ]
    refine fst_none _ _ (fun v => ?_) n
    unfold bfN brN
    split
    · rw [Option.map_eq_none_iff, ih]
    · simp
theorem br_none (n s m a met v : Nat) : bfN n s m a met v = none ↔ brN n s m a met v = 0 := by
  unfold bfN brN
  split
  · rw [Option.map_eq_none_iff, fir_none]
  · simp
theorem fst_here (f : Nat → Option (List Int)) (j k : Nat) (hjk : j ≤ k) (l : List Int) (h : fstTo f j = some l) : fstTo f k = some l := by
  induction k with
  | zero => obtain rfl : j = 0 := by omega
            exact h
  | succ k ih =>
    by_cases e : j = k + 1
    · subst e; exact h
    · show (match fstTo f k with | some l => some l | none => f k) = some l
      rw [ih (by omega)]
theorem fst_new (f : Nat → Option (List Int)) (j : Nat) (h : fstTo f j = none) : fstTo f (j + 1) = f j := by
  show (match fstTo f j with | some l => some l | none => f j) = f j
  rw [h]
theorem sum_more (g : Nat → Nat) (j k : Nat) (h : j ≤ k) : sumTo g j ≤ sumTo g k := by
  induction k with
  | zero => obtain rfl : j = 0 := by omega
            exact Nat.le_refl _
  | succ k ih =>
    by_cases e : j = k + 1
    · subst e; exact Nat.le_refl _
    · have := ih (by omega)
      show sumTo g j ≤ sumTo g k + g k
      omega
/-- Places that are not met. -/
def freeN (n met : Nat) : Nat := sumTo (fun v => b2n (!met.testBit v)) n
theorem free_less (n met v : Nat) (hv : v < n) (h : met.testBit v = false) : freeN n (met ||| 2 ^ v) + 1 = freeN n met := by
  have key : ∀ k, sumTo (fun u => b2n (!(met ||| 2 ^ v).testBit u)) k + (if v < k then 1 else 0) = sumTo (fun u => b2n (!met.testBit u)) k := by
    intro k
    induction k with
    | zero => rfl
    | succ k ih =>
      show sumTo _ k + b2n (!(met ||| 2 ^ v).testBit k) + (if v < k + 1 then 1 else 0) = sumTo _ k + b2n (!met.testBit k)
      by_cases e : v = k
      · subst e
        rw [if_neg (Nat.lt_irrefl v)] at ih
        rw [if_pos (Nat.lt_succ_self v)]
        have b1 : (met ||| 2 ^ v).testBit v = true := by rw [Nat.testBit_or, Nat.testBit_two_pow, decide_eq_true rfl, Bool.or_true]
        have c1 : b2n (!true) = 0 := rfl
        have c2 : b2n (!false) = 1 := rfl
        rw [b1, h]
        omega
      · have b1 : (met ||| 2 ^ v).testBit k = met.testBit k := by rw [Nat.testBit_or, Nat.testBit_two_pow, decide_eq_false e, Bool.or_false]
        rw [b1]
        have c3 : (if v < k + 1 then 1 else 0) = (if v < k then 1 else 0) := by
          by_cases c : v < k
          · rw [if_pos c, if_pos (show v < k + 1 by omega)]
          · rw [if_neg c, if_neg (show ¬ v < k + 1 by omega)]
        omega
  have := key n
  rw [if_pos hv] at this
  exact this
def facN : Nat → Nat
  | 0 => 1
  | m + 1 => (m + 1) * facN m
theorem sum_upTo (f g : Nat → Nat) (c n : Nat) (h : ∀ v, v < n → f v ≤ g v * c) : sumTo f n ≤ sumTo g n * c := by
  induction n with
  | zero => exact Nat.zero_le _
  | succ n ih =>
    have a := ih fun v hv => h v (by omega)
    have b := h n (by omega)
    show sumTo f n + f n ≤ (sumTo g n + g n) * c
    rw [Nat.add_mul]
    omega
theorem cnt_fac (n s m a met : Nat) (h : freeN n met = m) : cntN n s m a met ≤ facN m := by
  induction m generalizing a met with
  | zero =>
    show b2n _ ≤ 1
    unfold b2n
    split <;> omega
  | succ m ih =>
    rw [cnt_succ]
    show _ ≤ (m + 1) * facN m
    rw [← h]
    refine sum_upTo _ _ _ n fun v hv => ?_
    unfold brN
    cases hb : met.testBit v
    · have hf := free_less n met v hv hb
      have := ih v (met ||| 2 ^ v) (by omega)
      show _ ≤ 1 * facN m
      split <;> omega
    · rw [if_neg (by unfold mayN; rw [hb]; simp)]
      omega
theorem free_one (n : Nat) (h1 : 1 ≤ n) : freeN n 1 = n - 1 := by
  have key : ∀ k, freeN (k + 1) 1 = k := by
    intro k
    induction k with
    | zero => decide
    | succ k ih =>
      show freeN (k + 1) 1 + b2n (!(1 : Nat).testBit (k + 1)) = k + 1
      rw [ih, Nat.testBit_lt_two_pow (Nat.one_lt_two_pow (by omega))]
      rfl
  obtain ⟨m, rfl⟩ : ∃ m, n = m + 1 := ⟨n - 1, by omega⟩
  exact key m
theorem fac_small (m : Nat) (h : m ≤ 8) : facN m ≤ 40320 := by
  have hc : m = 0 ∨ m = 1 ∨ m = 2 ∨ m = 3 ∨ m = 4 ∨ m = 5 ∨ m = 6 ∨ m = 7 ∨ m = 8 := by omega
  rcases hc with rfl | rfl | rfl | rfl | rfl | rfl | rfl | rfl | rfl <;> decide
end Go.Proofs.Ytnlalccnhpblkaa

/- Rounds: the model's test of a list. -/
namespace Go.Proofs.Ytnlalccnhpblkaa
open Go.RowKit
set_option linter.unusedVariables false
theorem l1Rest_all (n : Nat) (v : Int) (w : World) (h1 : 1 ≤ n) (h2 : n ≤ 12) (hv : -9223372036854775808 ≤ v ∧ v ≤ 9223372036854775807) :
    Calls Try.prog 51 #[.int .i64 v, .int .i64 (n:Int)] w fun e w' => e = .returned (.int .i64 ((rest n v : Nat) : Int)) ∧ w = w' := by
  have hr := rest_eq n v h1
  have hb := rest_in n v h1 h2
  have H := Lib.hid hr
  clear hr
  obtain ⟨hb1, hb2⟩ := hb
  obtain ⟨hv1, hv2⟩ := hv
  go_enter Try.func51, Try.ntmps51
  go_wp2
  go_ret
  exact ⟨ret_int H.out, rfl⟩
theorem wrap64_range (x : Int) : -9223372036854775808 ≤ wrap64 x ∧ wrap64 x ≤ 9223372036854775807 := by unfold wrap64; omega
end Go.Proofs.Ytnlalccnhpblkaa

/- Rounds: the model's words of rounds. -/
namespace Go.Proofs.Ytnlalccnhpblkaa
open Go.RowKit Go.Shelf
set_option linter.unusedVariables false
attribute [local go_sem] Oper.semAt_some
theorem Try.infoQ : (Try.prog.info? 3).map (fun i => (i.zero, i.size, i.bytes)) = some (some (.int .i64 0), 1, 8) := by kernel_rfl
theorem tab_snoc' (n : Nat) (f : Nat → Int) : tabI (n + 1) f = tabI n f ++ [f n] := by simp [tabI, List.range_succ]
theorem snoc_ints {W : World} {b : Nat} {v : Value} {xs : List Int} {z : Int} (h : W.ownsRow b 3 1 v (xs.length + 1) (xs.map (Value.int .i64) ++ [.int .i64 z])) : IsInts W b v (xs ++ [z]) := by
  unfold IsInts
  rw [List.length_append, List.map_append]
  exact h
/-- A number is appended to a list of one's own. -/
theorem wp_append_ints {o : Oper} {act : Act} {K : Act → World → Prop} {Q : Exit → Act → World → Prop} (s x : Operand) (ho : o.op = .call { callee := .builtin .append, args := #[s, x], argTypes := #[23, 23] })
    (a : Value) (xs : List Int) (r : Int) (W : World) (N : Nat) (hs : act.eval s = a) (hx : act.eval x = .slice (some ⟨W.heap.size, 0, none⟩) 1 1) (hO : IsInts W N a xs) (hl : xs.length ≤ 100000) (hN : N ≤ W.heap.size)
    (h : ∀ (v' : Value) (w1 : World), IsInts w1 N v' (xs ++ [r]) → (∀ (g len c : Nat) (ys : List Int) (N' : Nat), IsInts W N' (.slice (some ⟨g, 0, none⟩) len c) ys → g < N → IsInts w1 N' (.slice (some ⟨g, 0, none⟩) len c) ys) →
      (∀ (B : Nat) (w0 : World), B ≤ N → Below B w0 W → Below B w0 w1) → K (act.put o.dst v') w1) : o.wp Try.prog act (W.alloc (.cells #[.int .i64 r] 3)) K Q := by
  obtain ⟨i0, hi, hz0, hz1, hz2⟩ := info_parts Try.infoQ
  have hO2 : (W.alloc (.cells #[.int .i64 r] 3)).ownsRow N 3 1 a xs.length (xs.map (Value.int .i64)) := World.ownsRow.alloc hO _
  have hc1 : ∀ j u, [Value.int .i64 r][j]? = some u → (W.alloc (.cells #[.int .i64 r] 3)).cell? ((⟨W.heap.size, 0, none⟩ : Addr).add j) = some u := by
    intro j u hj
    cases j with
    | zero => simp at hj; subst hj; simp [Addr.add]
    | succ j => simp at hj
  have hc2 : ∀ u ∈ [Value.int .i64 r], u.oneCell' = true := by intro u hu; simp at hu; subst hu; rfl
  have hc3 : xs.length + 1 ≤ maxLen := by unfold maxLen; omega
  have hc4 : N ≤ (W.alloc (.cells #[.int .i64 r] 3)).heap.size := by simp; omega
  have hbs : ∀ k, a.ownBlock = some k → N ≤ k := fun k hk => (World.ownsRow.lt hO k hk).1
  refine wp_append_own (W.alloc (.cells #[.int .i64 r] 3)) s x 23 ho N 3 i0 (.int .i64 0) 1 8 Try.underlying23 hi hz0 hz1 hz2 rfl (by decide) a xs.length _ hs hO2 ⟨W.heap.size, 0, none⟩ 1 1 [.int .i64 r] hx rfl hc1 hc2 hc3 (by omega) hc4 fun v' w1 hown' hgrow hiff => ?_
  refine h v' w1 (snoc_ints hown') (fun g len c ys N' hy hg => ?_) (fun B w0 hB hb => ?_)
  · refine World.ownsRow.kept (World.ownsRow.alloc hy _) hgrow ?_
    cases ha : a.ownBlock with
    | none => exact .inr (by simp [Value.ownBlock])
    | some k =>
      refine .inr fun e => ?_
      have e1 : some g = some k := e
      injection e1 with e1
      have := hbs k ha
      omega
  · exact (hb.alloc (Nat.le_trans hB hN) _).grown hgrow (by simp; omega) (fun k hk => Nat.le_trans hB (hbs k hk))
/-- The word of a round. -/
def rwordN (n : Nat) (xs : List Int) (j : Nat) : List Int := tabI j (fun i => ((rest n (xs.getD ((i + 1) % n) 0 - xs.getD i 0) : Nat) : Int))
theorem rword_snoc (n : Nat) (xs : List Int) (j : Nat) : rwordN n xs (j + 1) = rwordN n xs j ++ [((rest n (xs.getD ((j + 1) % n) 0 - xs.getD j 0) : Nat) : Int)] := tab_snoc' j _
theorem rword_len (n : Nat) (xs : List Int) (j : Nat) : (rwordN n xs j).length = j := by simp [rwordN, tabI]
/-- All places but 0. -/
def butN (n : Nat) : Nat := 2 ^ n - 2
theorem but_lt (n : Nat) (h1 : 1 ≤ n) : butN n < 2 ^ n := by
  have := Nat.two_pow_pos n
  unfold butN
  omega
end Go.Proofs.Ytnlalccnhpblkaa

/- Rounds: the model's functions of numbers. -/
namespace Go.Proofs.Ytnlalccnhpblkaa
open Go.RowKit
set_option linter.unusedVariables false
def anyN (f : Nat → Bool) : Nat → Bool
  | 0 => false
  | i + 1 => anyN f i || f i
def twoD (n a b : Nat) : Nat := Nat.gcd n (rest n ((b : Int) - (a : Int)))
def twoF (n a b d i : Nat) : Bool := Nat.beq (Nat.gcd n ((i * a + (d - i) * b) % n)) d
/-- Whether there is a round of two steps, told by numbers. -/
def twoN (n a b : Nat) : Bool := Nat.beq (Nat.gcd (Nat.gcd n a) b) 1 && anyN (twoF n a b (twoD n a b)) (twoD n a b + 1)
/-- Two steps that are none, or no two. -/
def NoTwo (n a b : Int) : Prop := ¬ (2 ≤ n ∧ n ≤ 12 ∧ 1 ≤ a ∧ a ≤ n - 1 ∧ 1 ≤ b ∧ b ≤ n - 1 ∧ a ≠ b)
theorem not_noTwo {n a b : Int} (h : ¬ NoTwo n a b) : ∃ m x y : Nat, n = (m : Int) ∧ a = (x : Int) ∧ b = (y : Int) ∧ 2 ≤ m ∧ m ≤ 12 ∧ 1 ≤ x ∧ x < m ∧ 1 ≤ y ∧ y < m ∧ x ≠ y := by
  have h' := Decidable.byContradiction h
  obtain ⟨a1, a2, a3, a4, a5, a6, a7⟩ := h'
  exact ⟨n.toNat, a.toNat, b.toNat, by omega, by omega, by omega, by omega, by omega, by omega, by omega, by omega, by omega, by omega⟩
theorem rest_of_nat (n x : Nat) : rest n (x : Int) = x % n := by
  unfold rest
  rw [← Int.natCast_emod]
  exact Int.toNat_natCast _
theorem anyN_false (f : Nat → Bool) (j : Nat) (h : ∀ i, i < j → f i = false) : anyN f j = false := by
  induction j with
  | zero => rfl
  | succ j ih =>
    show (anyN f j || f j) = false
    rw [ih fun i hi => h i (by omega), h j (by omega)]
    rfl
theorem anyN_true (f : Nat → Bool) (j i : Nat) (hi : i < j) (h : f i = true) : anyN f j = true := by
  induction j with
  | zero => omega
  | succ j ih =>
    show (anyN f j || f j) = true
    by_cases e : i = j
    · subst e; rw [h, Bool.or_true]
    · rw [ih (by omega), Bool.true_or]
theorem wraps_at (x : Int) (q : Nat) (h : x = (q : Int)) (hq : q ≤ 1000000) : IntKind.i64.wrap x = (q : Int) ∧ wrap64 x = (q : Int) := by
  subst h
  exact ⟨IntWalk.i64_in _ ⟨by omega, by omega⟩, IntWalk.wrap64_in _ ⟨by omega, by omega⟩⟩
theorem prod_in (a b c : Nat) (hb : a ≤ 12) (hc : b ≤ 12) : a * b ≤ 144 := Nat.mul_le_mul hb hc
/-- What is added up of both steps, in bounds. -/
theorem two_arith (a b d i : Nat) (ha : a ≤ 12) (hb : b ≤ 12) (hd : d ≤ 12) (hi : i ≤ d) : ∃ Q P1 P2 X : Nat, i * a + (d - i) * b = X ∧ X ≤ 1000 ∧
    IntKind.i64.wrap ((d : Int) - (i : Int)) = (Q : Int) ∧ wrap64 ((d : Int) - (i : Int)) = (Q : Int) ∧ IntKind.i64.wrap ((i : Int) * (a : Int)) = (P1 : Int) ∧ wrap64 ((i : Int) * (a : Int)) = (P1 : Int) ∧
    IntKind.i64.wrap ((Q : Int) * (b : Int)) = (P2 : Int) ∧ wrap64 ((Q : Int) * (b : Int)) = (P2 : Int) ∧ IntKind.i64.wrap ((P1 : Int) + (P2 : Int)) = (X : Int) ∧ wrap64 ((P1 : Int) + (P2 : Int)) = (X : Int) := by
  have hi12 : i ≤ 12 := Nat.le_trans hi hd
  have hq12 : d - i ≤ 12 := Nat.le_trans (Nat.sub_le d i) hd
  have hp1 := prod_in i a 0 hi12 ha
  have hp2 := prod_in (d - i) b 0 hq12 hb
  have hx := Nat.add_le_add hp1 hp2
  obtain ⟨w1, w2⟩ := wraps_at _ _ (Int.ofNat_sub hi).symm (Nat.le_trans hq12 (by decide))
  obtain ⟨w3, w4⟩ := wraps_at _ _ (Int.natCast_mul i a).symm (Nat.le_trans hp1 (by decide))
  obtain ⟨w5, w6⟩ := wraps_at _ _ (Int.natCast_mul (d - i) b).symm (Nat.le_trans hp2 (by decide))
  obtain ⟨w7, w8⟩ := wraps_at _ _ (Int.natCast_add (i * a) ((d - i) * b)).symm (Nat.le_trans hx (by decide))
  exact ⟨d - i, i * a, (d - i) * b, _, rfl, Nat.le_trans hx (by decide), w1, w2, w3, w4, w5, w6, w7, w8⟩
end Go.Proofs.Ytnlalccnhpblkaa

/- Rounds: the model's rounds of words. -/
namespace Go.Proofs.Ytnlalccnhpblkaa
open Go.RowKit Go.Shelf
set_option linter.unusedVariables false
attribute [local go_sem] Oper.semAt_some
theorem wpList_append_ints {ops : Array Oper} {rest : List Oper} {o : Oper} {act : Act} {Q : Exit → Act → World → Prop} (hgd : o.guard = none) (s x : Operand) (ho : o.op = .call { callee := .builtin .append, args := #[s, x], argTypes := #[23, 23] })
    (a : Value) (xs : List Int) (r : Int) (W : World) (N : Nat) (hs : act.eval s = a) (hx : act.eval x = .slice (some ⟨W.heap.size, 0, none⟩) 1 1) (hO : IsInts W N a xs) (hl : xs.length ≤ 100000) (hN : N ≤ W.heap.size)
    (h : ∀ (v' : Value) (w1 : World), IsInts w1 N v' (xs ++ [r]) → (∀ (g len c : Nat) (ys : List Int) (N' : Nat), IsInts W N' (.slice (some ⟨g, 0, none⟩) len c) ys → g < N → IsInts w1 N' (.slice (some ⟨g, 0, none⟩) len c) ys) →
      (∀ (B : Nat) (w0 : World), B ≤ N → Below B w0 W → Below B w0 w1) → wpList Try.prog ops Q rest (act.put o.dst v') w1) : wpList Try.prog ops Q (o :: rest) act (W.alloc (.cells #[.int .i64 r] 3)) :=
  wpList_plain hgd fun _ hK => wp_append_ints s x ho a xs r W N hs hx hO hl hN fun v' w1 h1 h2 h3 => hK _ _ (h v' w1 h1 h2 h3)
/-- Where the word leads. -/
def ratN (n : Nat) (xs : List Int) : Nat → Nat
  | 0 => 0
  | i + 1 => rest n ((ratN n xs i : Int) + xs.getD i 0)
theorem ratN_lt (n : Nat) (xs : List Int) (i : Nat) (h1 : 1 ≤ n) : ratN n xs i < n := by
  cases i with
  | zero => exact h1
  | succ i => exact rest_lt n _ h1
def byN (n : Nat) (xs : List Int) (j : Nat) : List Int := tabI j (fun i => ((ratN n xs i : Nat) : Int))
theorem by_snoc (n : Nat) (xs : List Int) (j : Nat) : byN n xs (j + 1) = byN n xs j ++ [((ratN n xs j : Nat) : Int)] := tab_snoc' j _
theorem by_len (n : Nat) (xs : List Int) (j : Nat) : (byN n xs j).length = j := by simp [byN, tabI]
/-- A word of a round. -/
structure OkBy (n : Nat) (xs : List Int) : Prop where
  len : xs.length = n
  inn : ∀ i, i < n → 1 ≤ xs.getD i 0 ∧ xs.getD i 0 ≤ (n : Int) - 1
  back : ratN n xs n = 0
  rnd : IsRnd n (butN n) (byN n xs n)
noncomputable def okByB (n : Nat) (xs : List Int) : Bool := @decide (OkBy n xs) (Classical.propDecidable _)
theorem okBy_yes {n : Nat} {xs : List Int} (h : OkBy n xs) : okByB n xs = true := by
  unfold okByB
  exact @decide_eq_true _ (Classical.propDecidable _) h
theorem okBy_no {n : Nat} {xs : List Int} (h : ¬ OkBy n xs) : okByB n xs = false := by
  unfold okByB
  exact @decide_eq_false _ (Classical.propDecidable _) h
theorem okBy_iff {n : Nat} {xs : List Int} : okByB n xs = true ↔ OkBy n xs :=
  ⟨fun h => Classical.byContradiction fun c => (by rw [okBy_no c] at h; cases h), okBy_yes⟩
/-- What spec.RoundBy answers. -/
noncomputable def byRes (n : Nat) (xs : List Int) : List Int := if okByB n xs then byN n xs n else []
theorem byRes_no {n : Nat} {xs : List Int} (h : ¬ OkBy n xs) : byRes n xs = [] := by unfold byRes; rw [okBy_no h]; rfl
theorem byRes_yes {n : Nat} {xs : List Int} (h : OkBy n xs) : byRes n xs = byN n xs n := by unfold byRes; rw [okBy_yes h]; rfl
theorem nil_made (w : World) (N : Nat) (h : N ≤ w.heap.size) : IsInts (w.alloc (.cells #[] 3)) N (.slice (some ⟨w.heap.size, 0, none⟩) 0 0) [] := World.ownsRow_made w #[] 0 h (by simp [maxLen]) rfl
end Go.Proofs.Ytnlalccnhpblkaa

/- Rounds: the model's search. -/
namespace Go.Proofs.Ytnlalccnhpblkaa
open Go.RowKit Go.Shelf
set_option linter.unusedVariables false
attribute [local go_sem] Oper.semAt_some
/-- The list that a search tells. -/
def putF (xs : List Int) : Option (List Int) → List Int
  | some l => xs ++ l
  | none => []
/-- A list is appended to a list of one's own. -/
theorem wp_append_list {o : Oper} {act : Act} {K : Act → World → Prop} {Q : Exit → Act → World → Prop} (s x : Operand) (ho : o.op = .call { callee := .builtin .append, args := #[s, x], argTypes := #[23, 23] })
    (a : Value) (ys xs : List Int) (W : World) (N g cap b : Nat) (hs : act.eval s = a) (hx : act.eval x = .slice (some ⟨g, 0, none⟩) xs.length cap) (hO : IsInts W N a ys) (hX : IsInts W b (.slice (some ⟨g, 0, none⟩) xs.length cap) xs)
    (hl : ys.length + xs.length ≤ 1000) (hN : N ≤ W.heap.size)
    (h : ∀ (v' : Value) (w1 : World), IsInts w1 N v' (ys ++ xs) → (∀ (g len c : Nat) (zs : List Int) (N' : Nat), IsInts W N' (.slice (some ⟨g, 0, none⟩) len c) zs → g < N → IsInts w1 N' (.slice (some ⟨g, 0, none⟩) len c) zs) →
      (∀ (B : Nat) (w0 : World), B ≤ N → Below B w0 W → Below B w0 w1) → K (act.put o.dst v') w1) : o.wp Try.prog act W K Q := by
  obtain ⟨i0, hi, hz0, hz1, hz2⟩ := info_parts Try.infoQ
  have hc1 := World.ownsRow.cells hX (g := g) rfl
  have hc2 : ∀ u ∈ xs.map (Value.int .i64), u.oneCell' = true := by
    intro u hu
    obtain ⟨z, _, rfl⟩ := List.mem_map.1 hu
    rfl
  have hc3 : ys.length + xs.length ≤ maxLen := by unfold maxLen; omega
  have hbs : ∀ k, a.ownBlock = some k → N ≤ k := fun k hk => (World.ownsRow.lt hO k hk).1
  refine wp_append_own W s x 23 ho N 3 i0 (.int .i64 0) 1 8 Try.underlying23 hi hz0 hz1 hz2 rfl (by decide) a ys.length _ hs hO ⟨g, 0, none⟩ xs.length cap (xs.map (Value.int .i64)) hx (by simp) hc1 hc2 hc3 (by omega) hN fun v' w1 hown' hgrow hiff => ?_
  refine h v' w1 ?_ (fun g len c zs N' hy hg => ?_) (fun B w0 hB hb => ?_)
  · unfold IsInts
    rw [List.length_append, List.map_append]
    exact hown'
  · refine World.ownsRow.kept hy hgrow ?_
    cases ha : a.ownBlock with
    | none => exact .inr (by simp [Value.ownBlock])
    | some k =>
      refine .inr fun e => ?_
      have e1 : some g = some k := e
      injection e1 with e1
      have := hbs k ha
      omega
  · exact hb.grown hgrow (Nat.le_trans hB hN) (fun k hk => Nat.le_trans hB (hbs k hk))
/-- What a search answers. -/
def GoPost (n s m a met most b : Nat) (xs : List Int) (w : World) (e : Ending) (w' : World) : Prop :=
  ∃ sv, e = .returned (.tuple #[.int .i64 ((min (cntN n s m a met) most : Nat) : Int), sv]) ∧ Below w.heap.size w w' ∧ IsInts w' b sv (putF xs (firN n s m a met))
end Go.Proofs.Ytnlalccnhpblkaa

/- Rounds: the model's search goes on. -/
namespace Go.Proofs.Ytnlalccnhpblkaa
open Go.RowKit Go.Shelf
set_option linter.unusedVariables false
attribute [local go_sem] Oper.semAt_some
/-- What the places below v have brought. -/
def goneN (n s m a met most v : Nat) : Nat := min (sumTo (brN n s m a met) v) most
theorem gone_no (n s m a met most v : Nat) (h : brN n s m a met v = 0) : goneN n s m a met most (v + 1) = goneN n s m a met most v := by
  unfold goneN
  show min (sumTo _ v + brN n s m a met v) most = _
  rw [h, Nat.add_zero]
theorem gone_yes (n s m a met most v : Nat) (h : goneN n s m a met most v < most) : goneN n s m a met most v + min (brN n s m a met v) (most - goneN n s m a met most v) = goneN n s m a met most (v + 1) := by
  unfold goneN at *
  show _ = min (sumTo _ v + brN n s m a met v) most
  omega
theorem gone_end (n s m a met most v : Nat) (hv : v ≤ n) (h : n ≤ v ∨ most ≤ goneN n s m a met most v) : goneN n s m a met most v = min (cntN n s (m + 1) a met) most := by
  rw [cnt_succ]
  rcases h with h | h
  · obtain rfl : v = n := by omega
    rfl
  · unfold goneN at *
    have := sum_more (brN n s m a met) v n hv
    omega
theorem gone_one (n s m a met most : Nat) : goneN n s m a met most 1 = 0 := by
  unfold goneN
  have : brN n s m a met 0 = 0 := rfl
  show min (0 + brN n s m a met 0) most = 0
  rw [this]
  exact Nat.zero_min _
theorem fst_one (n s m a met : Nat) : fstTo (bfN n s m a met) 1 = none := rfl
theorem fst_same (n s m a met v : Nat) (h : brN n s m a met v = 0) : fstTo (bfN n s m a met) (v + 1) = fstTo (bfN n s m a met) v := by
  show (match fstTo (bfN n s m a met) v with | some l => some l | none => bfN n s m a met v) = _
  rw [(br_none n s m a met v).2 h]
  cases fstTo (bfN n s m a met) v <;> rfl
theorem gone_zero (n s m a met most v : Nat) (hm : 1 ≤ most) : goneN n s m a met most v = 0 ↔ fstTo (bfN n s m a met) v = none := by
  rw [fst_none (bfN n s m a met) (brN n s m a met) (br_none n s m a met)]
  unfold goneN
  omega
theorem fst_end (n s m a met most v : Nat) (hv : v ≤ n) (hm : 1 ≤ most) (h : n ≤ v ∨ most ≤ goneN n s m a met most v) : fstTo (bfN n s m a met) v = firN n s (m + 1) a met := by
  rw [fir_succ]
  rcases h with h | h
  · obtain rfl : v = n := by omega
    rfl
  · cases hf : fstTo (bfN n s m a met) v with
    | none => have := (gone_zero n s m a met most v hm).2 hf; omega
    | some l => exact (fst_here _ v n hv l hf).symm
/-- What a branch tells. -/
theorem bf_put (n s m a met v : Nat) (xs : List Int) (h : mayN n s a met v = true) : putF xs (bfN n s m a met v) = putF (xs ++ [(v : Int)]) (firN n s m v (met ||| 2 ^ v)) ∧ brN n s m a met v = cntN n s m v (met ||| 2 ^ v) := by
  unfold bfN brN
  rw [if_pos h, if_pos h]
  refine ⟨?_, rfl⟩
  cases firN n s m v (met ||| 2 ^ v) with
  | none => rfl
  | some l => show xs ++ ((v : Int) :: l) = (xs ++ [(v : Int)]) ++ l; simp
/-- One number alone, written out. -/
theorem lit_one (W : World) (N : Nat) (r : Int) (h : N ≤ W.heap.size) : IsInts (W.alloc (.cells #[.int .i64 r] 3)) N (.slice (some ⟨W.heap.size, 0, none⟩) 1 1) [r] :=
  ⟨rfl, .inr ⟨W.heap.size, 1, #[.int .i64 r], rfl, h, heap_alloc_new W _, Nat.le_refl _, by simp [maxLen], rfl, rfl⟩⟩
theorem apart_gh {g h l c l' c' : Nat} (hne : g ≠ h) : (Value.slice (some ⟨g, 0, none⟩) l c).ownBlock = none ∨ (Value.slice (some ⟨g, 0, none⟩) l c).ownBlock ≠ (Value.slice (some ⟨h, 0, none⟩) l' c').ownBlock := .inr (fun e => by
  have e2 : some g = some h := e
  injection e2 with e2
  exact hne e2)
theorem far_g {g N l c : Nat} (h : g < N) : ∀ k, (Value.slice (some ⟨g, 0, none⟩) l c).ownBlock = some k → k < N := fun k hk => by
  have e2 : some g = some k := hk
  injection e2 with e2
  omega
theorem far_block {v : Value} {N h : Nat} (hv : ∀ k, v.ownBlock = some k → k < N) (hh : N ≤ h) : v.ownBlock = none ∨ v.ownBlock ≠ some h := by
  cases e : v.ownBlock with
  | none => exact .inl rfl
  | some k =>
    refine .inr fun e2 => ?_
    injection e2 with e2
    have := hv k e
    omega
theorem far_block2 {v a : Value} {N : Nat} (hv : ∀ k, v.ownBlock = some k → k < N) (ha : ∀ k, a.ownBlock = some k → N ≤ k) : v.ownBlock = none ∨ v.ownBlock ≠ a.ownBlock := by
  cases e : v.ownBlock with
  | none => exact .inl rfl
  | some k =>
    refine .inr fun e2 => ?_
    have h1 := hv k e
    have h2 := ha k e2.symm
    omega
/-- A list is appended to a list of one's own; all else that is apart from it stays. -/
theorem wp_append_any {o : Oper} {act : Act} {K : Act → World → Prop} {Q : Exit → Act → World → Prop} (s x : Operand) (ho : o.op = .call { callee := .builtin .append, args := #[s, x], argTypes := #[23, 23] })
    (a : Value) (ys xs : List Int) (W : World) (N g cap b : Nat) (hs : act.eval s = a) (hx : act.eval x = .slice (some ⟨g, 0, none⟩) xs.length cap) (hO : IsInts W N a ys) (hX : IsInts W b (.slice (some ⟨g, 0, none⟩) xs.length cap) xs)
    (hl : ys.length + xs.length ≤ 1000) (hN : N ≤ W.heap.size)
    (h : ∀ (v' : Value) (w1 : World), IsInts w1 N v' (ys ++ xs) → (∀ (v : Value) (zs : List Int) (N' : Nat), IsInts W N' v zs → (v.ownBlock = none ∨ v.ownBlock ≠ a.ownBlock) → IsInts w1 N' v zs) →
      (∀ (B : Nat) (w0 : World), B ≤ N → Below B w0 W → Below B w0 w1) → W.heap.size ≤ w1.heap.size → K (act.put o.dst v') w1) : o.wp Try.prog act W K Q := by
  obtain ⟨i0, hi, hz0, hz1, hz2⟩ := info_parts Try.infoQ
  have hc1 := World.ownsRow.cells hX (g := g) rfl
  have hc2 : ∀ u ∈ xs.map (Value.int .i64), u.oneCell' = true := by
    intro u hu
    obtain ⟨z, _, rfl⟩ := List.mem_map.1 hu
    rfl
  have hc3 : ys.length + xs.length ≤ maxLen := by unfold maxLen; omega
  have hbs : ∀ k, a.ownBlock = some k → N ≤ k := fun k hk => (World.ownsRow.lt hO k hk).1
  refine wp_append_own W s x 23 ho N 3 i0 (.int .i64 0) 1 8 Try.underlying23 hi hz0 hz1 hz2 rfl (by decide) a ys.length _ hs hO ⟨g, 0, none⟩ xs.length cap (xs.map (Value.int .i64)) hx (by simp) hc1 hc2 hc3 (by omega) hN fun v' w1 hown' hgrow hiff => ?_
  refine h v' w1 ?_ (fun v zs N' hy hg => World.ownsRow.kept hy hgrow hg) (fun B w0 hB hb => hb.grown hgrow (Nat.le_trans hB hN) (fun k hk => Nat.le_trans hB (hbs k hk))) hgrow.size
  unfold IsInts
  rw [List.length_append, List.map_append]
  exact hown'
/-- What the first list becomes. -/
theorem fst_case (n s m a met most v c : Nat) (xs : List Int) (hm : 1 ≤ most) (hc : goneN n s m a met most v = c) (hmay : mayN n s a met v = true) (hcm : c < most) :
    ((c = 0 ∧ 0 < min (brN n s m a met v) (most - c)) → putF xs (fstTo (bfN n s m a met) (v + 1)) = putF (xs ++ [(v : Int)]) (firN n s m v (met ||| 2 ^ v))) ∧
    (¬ (c = 0 ∧ 0 < min (brN n s m a met v) (most - c)) → putF xs (fstTo (bfN n s m a met) (v + 1)) = putF xs (fstTo (bfN n s m a met) v)) := by
  obtain ⟨b1, b2⟩ := bf_put n s m a met v xs hmay
  have hz := gone_zero n s m a met most v hm
  rw [hc] at hz
  constructor
  · rintro ⟨h0, hk⟩
    rw [fst_new _ _ (hz.1 h0), b1]
  · intro h
    by_cases h0 : c = 0
    · have hq : brN n s m a met v = 0 := by
        refine Decidable.byContradiction fun hq => h ⟨h0, ?_⟩
        omega
      rw [fst_same n s m a met v hq]
    · cases hf : fstTo (bfN n s m a met) v with
      | none => exact absurd (hz.2 hf) h0
      | some l => rw [fst_here _ v (v + 1) (by omega) l hf]
end Go.Proofs.Ytnlalccnhpblkaa
