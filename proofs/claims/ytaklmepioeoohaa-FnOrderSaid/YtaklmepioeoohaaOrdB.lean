/- Orders: the search for all lists that go on along arcs, which calls itself and yields. Written by gen100.py. -/
import Derived.Test.YtaklmepioeoohaaOrdA
import Derived.Test.YtaklmepioeoohaaFrpP
import Derived.Test.YtaklmepioeoohaaStepWA
namespace Go.Proofs.Ytaklmepioeoohaa
open Go.RowKit Go.Shelf
set_option linter.unusedVariables false
attribute [local go_sem] Oper.semAt_some
/-- All lists of m places more, from a list xs with the last place u, met being its places. -/
def allO (n s : Nat) : Nat → List Int → Nat → Nat → List (List Int)
  | 0, xs, _, _ => [xs]
  | m + 1, xs, u, met => (comeTo n (lessN (shiftN n s (u : Int)) met) n).flatMap fun v => allO n s m (xs ++ [((v.val : Nat) : Int)]) v.val (met ||| 2 ^ v.val)
theorem flat_prefix {α β : Type} (f : α → List β) {p q : List α} (h : p <+: q) : p.flatMap f <+: q.flatMap f := by
  obtain ⟨r, rfl⟩ := h
  rw [List.flatMap_append]
  exact List.prefix_append _ _
theorem comeTo_prefix (r s k d : Nat) : comeTo r s k <+: comeTo r s (k + d) := by
  induction d with
  | zero => exact List.prefix_refl _
  | succ d ih =>
    refine ih.trans ?_
    show comeTo r s (k + d) <+: comeTo r s (k + d + 1)
    cases hb : s.testBit (k + d)
    · rw [comeTo_no hb]; exact List.prefix_refl _
    · by_cases h : k + d < r
      · rw [comeTo_yes h hb]; exact List.prefix_append _ _
      · have e : comeTo r s (k + d + 1) = comeTo r s (k + d) := by simp [comeTo, h]
        rw [e]; exact List.prefix_refl _
theorem flat_len {α β : Type} (f : α → List β) (c : Nat) (hf : ∀ x, (f x).length ≤ c) (l : List α) : (l.flatMap f).length ≤ l.length * c := by
  induction l with
  | nil => simp
  | cons x l ih =>
    rw [List.flatMap_cons, List.length_append, List.length_cons, Nat.succ_mul]
    have := hf x
    omega
theorem allO_len (n s : Nat) (h2 : n ≤ 12) (m : Nat) (xs : List Int) (u met : Nat) : (allO n s m xs u met).length ≤ 101 ^ m := by
  induction m generalizing xs u met with
  | zero => exact Nat.le_refl _
  | succ m ih =>
    have h := flat_len (fun v : Fin n => allO n s m (xs ++ [((v.val : Nat) : Int)]) v.val (met ||| 2 ^ v.val)) (101 ^ m) (fun v => ih _ _ _) (comeTo n (lessN (shiftN n s (u : Int)) met) n)
    have hc := comeTo_len n (lessN (shiftN n s (u : Int)) met) n
    have h' : (allO n s (m + 1) xs u met).length ≤ (comeTo n (lessN (shiftN n s (u : Int)) met) n).length * 101 ^ m := h
    refine Nat.le_trans h' ?_
    rw [Nat.pow_succ, Nat.mul_comm]
    exact Nat.mul_le_mul_left _ (by omega)
/-- v reads as a list of n places. -/
def RdL (n : Nat) (x : List Int) (v : Value) (W : World) : Prop := x.length = n ∧ ∃ g, v = .slice (some ⟨g, 0, none⟩) n n ∧ IsInts W 0 v x
/-- W' has all that W has from block B on, but for block g, where the list xs still is. -/
structure StaysG (B : Nat) (C : Nat → Prop) (g n : Nat) (xs : List Int) (W W' : World) : Prop where
  os : W'.os = W.os
  tape : W'.tape = W.tape
  output : W'.output = W.output
  size : W.heap.size ≤ W'.heap.size
  block : ∀ k, (B ≤ k ∨ C k) → k < W.heap.size → k ≠ g → W'.heap[k]? = W.heap[k]?
  list : IsInts W' B (.slice (some ⟨g, 0, none⟩) xs.length n) xs
/-- How the search ends. -/
def ExtPost (B : Nat) (C : Nat → Prop) (g n : Nat) (J : List (List Int) → World → Prop) (Jx : Nat → List (List Int) → World → Prop) (xs : List Int) (pre0 ys : List (List Int)) (W : World) (e : Ending) (W' : World) : Prop :=
  StaysG B C g n xs W W' ∧ ((e = .returned (.bool true) ∧ J (pre0 ++ ys) W') ∨ (e = .returned (.bool false) ∧ ∃ M q, W.heap.size ≤ M ∧ q <+: ys ∧ Jx M (pre0 ++ q) W'))
def ExtOk (n s l B : Nat) (C : Nat → Prop) (g N m : Nat) (J : List (List Int) → World → Prop) (Jx : Nat → List (List Int) → World → Prop) : Prop :=
  ∀ (xs : List Int) (u met : Nat) (pre0 : List (List Int)) (W : World), xs.length + m = n → 1 ≤ xs.length → xs.getD (xs.length - 1) 0 = (u : Int) → u < n → met < 2 ^ n →
    IsInts W B (.slice (some ⟨g, 0, none⟩) xs.length n) xs → J pre0 W → pre0.length + 101 ^ m ≤ N →
    Calls Try.prog 101 #[.agg #[.int .i64 (n:Int), .int .i64 (s:Int)], .slice (some ⟨g, 0, none⟩) xs.length n, .int .i64 (met:Int), .func (.yield l) #[] #[]] W (ExtPost B C g n J Jx xs pre0 (allO n s m xs u met) W)
theorem ints_stays {W W' : World} {b g len cap : Nat} {xs : List Int} (h : IsInts W b (.slice (some ⟨g, 0, none⟩) len cap) xs) (e : W'.heap[g]? = W.heap[g]?) : IsInts W' b (.slice (some ⟨g, 0, none⟩) len cap) xs := by
  refine ⟨h.1, ?_⟩
  rcases h.2 with hn | ⟨g', cap', cur, hv, h1, hgg, rest⟩
  · exact .inl hn
  · cases hv
    exact .inr ⟨g, cap, cur, rfl, h1, e.trans hgg, rest⟩
theorem staysG_of {B g n : Nat} {C : Nat → Prop} {xs : List Int} {W V5 W3 : World} (hB : B ≤ g) (hg : g < W.heap.size) (h5 : Below W.heap.size W V5) (h3 : Stays B C V5 W3) (hI : IsInts W B (.slice (some ⟨g, 0, none⟩) xs.length n) xs) : StaysG B C g n xs W W3 :=
  ⟨h3.os.trans h5.os, h3.tape.trans h5.tape, h3.output.trans h5.output, Nat.le_trans h5.size h3.size, fun k h1 h2 _ => (h3.block k h1 (Nat.lt_of_lt_of_le h2 h5.size)).trans (h5.block k h2), ints_stays hI ((h3.block g (.inl hB) (Nat.lt_of_lt_of_le hg h5.size)).trans (h5.block g hg))⟩
theorem StaysG.setCell {B g n : Nat} {C : Nat → Prop} {xs : List Int} {W W3 : World} (h : StaysG B C g n xs W W3) (R : Nat) (hR : W.heap.size ≤ R) (hg : g < W.heap.size) (u : Value) : StaysG B C g n xs W (W3.setCell ⟨R, 0, none⟩ u) :=
  ⟨h.os, h.tape, h.output, by simpa [World.setCell] using h.size, fun k h1 h2 h3 => (Below.heap_setCell W3 ⟨R, 0, none⟩ u k (by show k ≠ R; omega)).trans (h.block k h1 h2 h3), ints_stays h.list (Below.heap_setCell W3 ⟨R, 0, none⟩ u g (by show g ≠ R; omega))⟩
theorem StaysG.putObj {B g n : Nat} {C : Nat → Prop} {xs : List Int} {W W3 : World} (h : StaysG B C g n xs W W3) (R : Nat) (hR : W.heap.size ≤ R) (hg : g < W.heap.size) (o : Obj) : StaysG B C g n xs W (W3.putObj R o) :=
  ⟨h.os, h.tape, h.output, by simpa using h.size, fun k h1 h2 h3 => (World.putObj_heap_other (by omega)).trans (h.block k h1 h2 h3), ints_stays h.list (World.putObj_heap_other (by omega))⟩
theorem StaysG.trans {B g n : Nat} {C : Nat → Prop} {xs : List Int} {X Y Z : World} (h : StaysG B C g n xs X Y) (k : StaysG B C g n xs Y Z) : StaysG B C g n xs X Z :=
  ⟨k.os.trans h.os, k.tape.trans h.tape, k.output.trans h.output, Nat.le_trans h.size k.size, fun i h1 h2 h3 => (k.block i h1 (Nat.lt_of_lt_of_le h2 h.size) h3).trans (h.block i h1 h2 h3), k.list⟩
set_option maxRecDepth 100000 in
set_option maxHeartbeats 4000000 in
theorem extend_zero (n s l B : Nat) (C : Nat → Prop) (g N : Nat) (J : List (List Int) → World → Prop) (Jx : Nat → List (List Int) → World → Prop)
    (hJ : ∀ pre X Y, J pre X → Below B X Y → J pre Y) (hJx : ∀ M pre X Y, B ≤ M → Jx M pre X → Outside B M X Y → Jx M pre Y)
    (hY : ∀ pre x v W1, J pre W1 → B ≤ W1.heap.size → RdL n x v W1 → pre.length < N → YieldAt Fence.wide 8 Try.prog l #[v] W1 fun e W' =>
      (e = .returned (.bool true) ∧ J (pre ++ [x]) W' ∧ Stays B C W1 W') ∨ (e = .returned (.bool false) ∧ Jx W1.heap.size (pre ++ [x]) W' ∧ Stays B C W1 W')) :
    ExtOk n s l B C g N 0 J Jx := by
  intro xs u met pre0 W hl hl1 hu hun hmet hI hJ0 hN
  have hgB : B ≤ g := (World.ownsRow.lt hI g rfl).1
  have hgW : g < W.heap.size := (World.ownsRow.lt hI g rfl).2
  have hB5 : Below W.heap.size W (((((W.alloc (.cells #[.int .i64 (n:Int), .int .i64 (s:Int)] 45)).alloc (.cells #[.slice (some ⟨g, 0, none⟩) xs.length n] 31)).alloc (.cells #[.int .i64 (met:Int)] 43)).alloc (.cells #[.func (.yield l) #[] #[]] 102)).alloc (.cells #[.bool false] 4)) := ((((((Below.refl _ W).alloc (Nat.le_refl _) _).alloc (by simp) _).alloc (by simp; omega) _).alloc (by simp; omega) _).alloc (by simp; omega) _)
  have hz5 : (((((W.alloc (.cells #[.int .i64 (n:Int), .int .i64 (s:Int)] 45)).alloc (.cells #[.slice (some ⟨g, 0, none⟩) xs.length n] 31)).alloc (.cells #[.int .i64 (met:Int)] 43)).alloc (.cells #[.func (.yield l) #[] #[]] 102)).alloc (.cells #[.bool false] 4)).heap.size = W.heap.size + 5 := by simp
  have hR5 := Boxed.new ((((W.alloc (.cells #[.int .i64 (n:Int), .int .i64 (s:Int)] 45)).alloc (.cells #[.slice (some ⟨g, 0, none⟩) xs.length n] 31)).alloc (.cells #[.int .i64 (met:Int)] 43)).alloc (.cells #[.func (.yield l) #[] #[]] 102)) 4 (.bool false)
  simp only [World.size_alloc] at hR5
  have hI5 := hI.belowAll hB5
  obtain ⟨fn, tmps, assign, body, hy, hRn⟩ := hY pre0 xs (.slice (some ⟨g, 0, none⟩) xs.length n) (((((W.alloc (.cells #[.int .i64 (n:Int), .int .i64 (s:Int)] 45)).alloc (.cells #[.slice (some ⟨g, 0, none⟩) xs.length n] 31)).alloc (.cells #[.int .i64 (met:Int)] 43)).alloc (.cells #[.func (.yield l) #[] #[]] 102)).alloc (.cells #[.bool false] 4)) (hJ _ _ _ hJ0 (hB5.mono (by omega))) (by rw [hz5]; omega) ⟨by omega, g, by rw [show xs.length = n by omega], hI5.base (Nat.zero_le _)⟩ (by have : pre0.length + 1 ≤ N := hN; omega)
  have e1 : ((xs.length : Int) == (n : Int)) = true := by rw [show xs.length = n by omega]; simp
  have HG := Lib.hid (⟨hgB, hgW⟩ : B ≤ g ∧ g < W.heap.size)
  have HBz := Lib.hid (⟨hB5, hz5⟩ : Below W.heap.size W (((((W.alloc (.cells #[.int .i64 (n:Int), .int .i64 (s:Int)] 45)).alloc (.cells #[.slice (some ⟨g, 0, none⟩) xs.length n] 31)).alloc (.cells #[.int .i64 (met:Int)] 43)).alloc (.cells #[.func (.yield l) #[] #[]] 102)).alloc (.cells #[.bool false] 4)) ∧ (((((W.alloc (.cells #[.int .i64 (n:Int), .int .i64 (s:Int)] 45)).alloc (.cells #[.slice (some ⟨g, 0, none⟩) xs.length n] 31)).alloc (.cells #[.int .i64 (met:Int)] 43)).alloc (.cells #[.func (.yield l) #[] #[]] 102)).alloc (.cells #[.bool false] 4)).heap.size = W.heap.size + 5)
  have HR5 := Lib.hid hR5
  have HI0 := Lib.hid hI
  have HL := Lib.hid hl
  clear hY hJ0 hl hl1 hu hun hmet hI hB5 hz5 hR5 hI5 hN
  refine (callsIn_wide (n := 9)).1 ?_
  refine callsIn_of_wp Try.func101 rfl trivial ?_ rfl
  simp only [Try.ntmps101, List.size_toArray, List.length_cons, List.length_nil, Nat.reduceAdd, Nat.reduceSub, Array.replicate_succ, Array.replicate_zero, List.push_toArray, List.append_toArray, List.nil_append, List.cons_append]

  gi_wp2
  refine hRn.mono ?_
  rintro e W3 (⟨rfl, hJ3, hS3⟩ | ⟨rfl, hJ3, hS3⟩)
  · have hg := HG.out
    have hz5 := HBz.out.2
    have hR3 := hS3.box HR5.out (by omega)
    have c9 := hR3.cell
    have f9 := hR3.frozen
    have HS3 := Lib.hid (staysG_of hg.1 hg.2 HBz.out.1 hS3 HI0.out)
    have HJ3 := Lib.hid hJ3
    have q9 := (hR3.set (.bool true)).cell
    have HZ := Lib.hid (show W.heap.size + 5 ≤ W3.heap.size by have := hS3.size; omega)
    clear hz5 hS3 hJ3 hR3
    gi_wp2
    refine bodyPost_ret (v := .bool true) ?_ rfl ?_
    · simp [results, Try.results101, go_sem, q9]
    · refine ⟨HS3.out.setCell (W.heap.size + 1 + 1 + 1 + 1) (by omega) hg.2 _, .inl ⟨rfl, hJ _ _ _ HJ3.out ((Below.refl _ _).setCell (p := ⟨W.heap.size + 1 + 1 + 1 + 1, 0, none⟩) (by show B ≤ W.heap.size + 1 + 1 + 1 + 1; omega) _)⟩⟩
  · have hg := HG.out
    have hz5 := HBz.out.2
    have hR3 := hS3.box HR5.out (by omega)
    have c9 := hR3.cell
    have f9 := hR3.frozen
    have HS3 := Lib.hid (staysG_of hg.1 hg.2 HBz.out.1 hS3 HI0.out)
    have HJ3 := Lib.hid hJ3
    have q9 := (hR3.set (.bool false)).cell
    have HZ := Lib.hid (show W.heap.size + 5 ≤ W3.heap.size by have := hS3.size; omega)
    clear hz5 hS3 hJ3 hR3
    gi_wp2
    refine bodyPost_ret (v := .bool false) ?_ rfl ?_
    · simp [results, Try.results101, go_sem, q9]
    · refine ⟨HS3.out.setCell (W.heap.size + 1 + 1 + 1 + 1) (by omega) hg.2 _, .inr ⟨rfl, _, [xs], by have := HBz.out.2; omega, List.prefix_refl _, hJx _ _ _ _ (by have := HBz.out.2; omega) HJ3.out (Outside.setCell _ _ _ (by show B ≤ W.heap.size + 1 + 1 + 1 + 1; omega) (by have := HBz.out.2; show W.heap.size + 1 + 1 + 1 + 1 < _; omega))⟩⟩
/-- The boxes of a call of the search. -/
def ExtBox (W2 : World) (A n s g len met l : Nat) : Prop :=
  Duo W2 A 45 (.int .i64 (n:Int)) (.int .i64 (s:Int)) ∧ Boxed W2 (A + 1) 31 (.slice (some ⟨g, 0, none⟩) len n) ∧ Boxed W2 (A + 1 + 1) 43 (.int .i64 (met:Int)) ∧
  Boxed W2 (A + 1 + 1 + 1) 102 (.func (.yield l) #[] #[]) ∧ Boxed W2 (A + 1 + 1 + 1 + 1) 4 (.bool false)
theorem ExtBox.same {W2 W3 : World} {A n s g len met l : Nat} (h : ExtBox W2 A n s g len met l) (he : ∀ k, A ≤ k → k < A + 5 → W3.heap[k]? = W2.heap[k]?) : ExtBox W3 A n s g len met l :=
  ⟨(he _ (by omega) (by omega)).trans h.1, (he _ (by omega) (by omega)).trans h.2.1, (he _ (by omega) (by omega)).trans h.2.2.1, (he _ (by omega) (by omega)).trans h.2.2.2.1, (he _ (by omega) (by omega)).trans h.2.2.2.2⟩
theorem ExtBox.lt {W2 : World} {A n s g len met l : Nat} (h : ExtBox W2 A n s g len met l) : A + 5 ≤ W2.heap.size := by have := h.2.2.2.2.lt; omega
theorem cells_row {W2 W3 : World} {row : Option Nat} (hg : W2.grownBy W3 row) (hr : ∀ r, row = some r → ∃ o : Obj, W2.heap[r]? = some o ∧ o.isCells = false) {k : Nat} {o : Obj} (hk : W2.heap[k]? = some o) (hc : o.isCells = true) : W3.heap[k]? = some o :=
  (hg.block k (Array.getElem?_eq_some_iff.1 hk).1 (fun e => by
    obtain ⟨o2, h1, h2⟩ := hr k e.symm
    rw [hk] at h1; cases h1; rw [hc] at h2; cases h2)).trans hk
theorem ExtBox.grown {W2 W3 : World} {A n s g len met l : Nat} (h : ExtBox W2 A n s g len met l) {row : Option Nat} (hg : W2.grownBy W3 row) (hr : ∀ r, row = some r → ∃ o : Obj, W2.heap[r]? = some o ∧ o.isCells = false) : ExtBox W3 A n s g len met l :=
  ⟨cells_row hg hr h.1 rfl, cells_row hg hr h.2.1 rfl, cells_row hg hr h.2.2.1 rfl, cells_row hg hr h.2.2.2.1 rfl, cells_row hg hr h.2.2.2.2 rfl⟩
theorem StaysG.keeps {B g n b : Nat} {C : Nat → Prop} {xs : List Int} {X Y : World} (h : StaysG B C g n xs X Y) (hg : g < b) (hB : B ≤ b) : KeepsFrom b X Y :=
  ⟨h.size, fun k o h1 h2 _ => (h.block k (.inl (by omega)) (Array.getElem?_eq_some_iff.1 h2).1 (by omega)).trans h2⟩
theorem StaysG.kb {B g n P : Nat} {C : Nat → Prop} {xs : List Int} {X Y : World} (h : StaysG B C g n xs X Y) (hB : B ≤ P) (hn : P ≠ g) : KB P 0 X Y :=
  ⟨fun t v hb => (h.block P (.inl hB) hb.lt hn).trans hb, ⟨h.os, h.tape, h.output, h.size, fun k hk => absurd hk (Nat.not_lt_zero _)⟩⟩
theorem StaysG.init {B g n : Nat} {C : Nat → Prop} {xs : List Int} {r : Int} {X Y : World} (h : StaysG B C g n (xs ++ [r]) X Y) : StaysG B C g n xs X Y :=
  ⟨h.os, h.tape, h.output, h.size, h.block, by
    have a := h.list
    rw [List.length_append, List.length_singleton] at a
    exact ints_init rfl a⟩
theorem StaysG.low {B g n : Nat} {C : Nat → Prop} {xs : List Int} {W X Y : World} (h : StaysG B C g n xs W X) {row : Option Nat} (hg : X.grownBy Y row) (hr : ∀ r, row = some r → W.heap.size ≤ r) (hgW : g < W.heap.size) : StaysG B C g n xs W Y :=
  ⟨hg.os.trans h.os, hg.tape.trans h.tape, hg.output.trans h.output, Nat.le_trans h.size hg.size, fun k h1 h2 h3 => (hg.block k (Nat.lt_of_lt_of_le h2 h.size) (fun e => by have := hr k e.symm; omega)).trans (h.block k h1 h2 h3),
    ints_stays h.list (hg.block g (Nat.lt_of_lt_of_le hgW h.size) (fun e => by have := hr g e.symm; omega))⟩
/-- What holds when some places have come. -/
def ExtI (n s l B : Nat) (C : Nat → Prop) (g met : Nat) (xs : List Int) (pre0 : List (List Int)) (J : List (List Int) → World → Prop) (F : Fin n → List (List Int)) (W : World) (pre : List (Fin n)) (W2 : World) : Prop :=
  J (pre0 ++ pre.flatMap F) W2 ∧ ExtBox W2 W.heap.size n s g xs.length met l ∧ StaysG B C g n xs W W2
def ExtX (n s l B : Nat) (C : Nat → Prop) (g met : Nat) (xs : List Int) (pre0 : List (List Int)) (Jx : Nat → List (List Int) → World → Prop) (F : Fin n → List (List Int)) (W : World) (c : Code) (pre : List (Fin n)) (W2 : World) : Prop :=
  c = .ret ∧ (∃ M q, W.heap.size + 5 ≤ M ∧ q <+: pre.flatMap F ∧ Jx M (pre0 ++ q) W2) ∧ ExtBox W2 W.heap.size n s g xs.length met l ∧ StaysG B C g n xs W W2
theorem extI_own (n s l B : Nat) (C : Nat → Prop) (g met b : Nat) (xs : List Int) (pre0 : List (List Int)) (J : List (List Int) → World → Prop) (F : Fin n → List (List Int)) (W : World) (hJ : ∀ pre X Y, J pre X → Below B X Y → J pre Y) (hgB : B ≤ g) (hgW : g < W.heap.size) (hb : W.heap.size ≤ b) :
    OwnFrom b (ExtI n s l B C g met xs pre0 J F W) := by
  rintro pre X Y row ⟨h1, h2, h3⟩ hg hr
  have hz := h3.size
  exact ⟨hJ _ _ _ h1 ⟨hg.os, hg.tape, hg.output, hg.size, fun k hk => hg.block k (by omega) (fun e => by have := (hr k e.symm).1; omega)⟩, h2.grown hg (fun r e => (hr r e).2), h3.low hg (fun r e => Nat.le_trans hb (hr r e).1) hgW⟩
theorem extX_own (n s l B : Nat) (C : Nat → Prop) (g met b : Nat) (xs : List Int) (pre0 : List (List Int)) (Jx : Nat → List (List Int) → World → Prop) (F : Fin n → List (List Int)) (W : World) (hJx : ∀ M pre X Y, B ≤ M → Jx M pre X → Outside B M X Y → Jx M pre Y) (hgB : B ≤ g) (hgW : g < W.heap.size) (hb : W.heap.size ≤ b) (c : Code) :
    OwnFrom b (ExtX n s l B C g met xs pre0 Jx F W c) := by
  rintro pre X Y row ⟨hc, ⟨M, q, hM, hq, h1⟩, h2, h3⟩ hg hr
  have hz := h3.size
  exact ⟨hc, ⟨M, q, hM, hq, hJx _ _ _ _ (by omega) h1 (Outside.grown hg (by omega) (fun r e => ⟨by have := (hr r e).1; omega, (hr r e).2⟩))⟩, h2.grown hg (fun r e => (hr r e).2), h3.low hg (fun r e => Nat.le_trans hb (hr r e).1) hgW⟩
set_option maxRecDepth 100000 in
set_option maxHeartbeats 8000000 in
theorem extend_succ (n s l B : Nat) (C : Nat → Prop) (g N m : Nat) (J : List (List Int) → World → Prop) (Jx : Nat → List (List Int) → World → Prop) (h1 : 1 ≤ n) (h2 : n ≤ 12) (hs : s < 2 ^ n)
    (hJ : ∀ pre X Y, J pre X → Below B X Y → J pre Y) (hJx : ∀ M pre X Y, B ≤ M → Jx M pre X → Outside B M X Y → Jx M pre Y)
    (hIH : ExtOk n s l B C g N m J Jx) : ExtOk n s l B C g N (m + 1) J Jx := by
  intro xs u met pre0 W hl hl1 hu hun hmet hI hJ0 hN
  have hmx : Try.prog.follows .mixedOrders = true := by kernel_rfl
  have hgB : B ≤ g := (World.ownsRow.lt hI g rfl).1
  have hgW : g < W.heap.size := (World.ownsRow.lt hI g rfl).2
  have hp := pow_le n h2
  have hsh := shiftN_lt n s (u : Int)
  have ht : lessN (shiftN n s (u : Int)) met < 2 ^ n := lessN_lt _ hsh
  have HNx := Lib.hid (fun W => next_any n s (u : Int) W h1 h2 hs (by omega) (by omega))
  have hle := less_nat (shiftN n s (u : Int)) met (by omega) (by omega)
  obtain ⟨F, hF⟩ : ∃ F : Fin n → List (List Int), F = fun v => allO n s m (xs ++ [((v.val : Nat) : Int)]) v.val (met ||| 2 ^ v.val) := ⟨_, rfl⟩
  have HAll : Hid (allO n s (m + 1) xs u met = (comeTo n (lessN (shiftN n s (u : Int)) met) n).flatMap F) := Lib.hid (by rw [hF]; rfl)
  have HFl : Hid (∀ v, (F v).length ≤ 101 ^ m) := Lib.hid (fun v => by rw [hF]; exact allO_len n s h2 m _ _ _)
  have HIH : Hid (∀ (x : Fin n) (pre : List (List Int)) (V : World), IsInts V B (.slice (some ⟨g, 0, none⟩) (xs.length + 1) n) (xs ++ [((x.val : Nat) : Int)]) → J pre V → pre.length + 101 ^ m ≤ N →
      Calls Try.prog 101 #[.agg #[.int .i64 (n:Int), .int .i64 (s:Int)], .slice (some ⟨g, 0, none⟩) (xs.length + 1) n, .int .i64 ((met ||| 2 ^ x.val : Nat) : Int), .func (.yield l) #[] #[]] V (ExtPost B C g n J Jx (xs ++ [((x.val : Nat) : Int)]) pre (F x) V)) := Lib.hid (fun x pre V hV hj hb => by
    have hll : (xs ++ [((x.val : Nat) : Int)]).length = xs.length + 1 := by rw [List.length_append]; rfl
    have h := hIH (xs ++ [((x.val : Nat) : Int)]) x.val (met ||| 2 ^ x.val) pre V (by rw [hll]; omega) (by rw [hll]; omega) (by rw [hll, Nat.add_sub_cancel]; simp [List.getD_eq_getElem?_getD]) x.isLt (or_pow_lt n met _ hmet x.isLt) (by rw [hll]; exact hV) hj hb
    rw [hll] at h
    rw [hF]
    exact h)
  generalize lessN (shiftN n s (u : Int)) met = t at *
  obtain ⟨k, hk⟩ : ∃ k, xs.length = k + 1 := ⟨xs.length - 1, by omega⟩
  have hne : ((xs.length : Int) == (n : Int)) = false := beq_cast_ne (by omega)
  have hwl : IntKind.i64.wrap ((xs.length : Int) - 1) = (k : Int) := by rw [IntWalk.i64_in _ ⟨by omega, by omega⟩]; omega
  have hwl2 : wrap64 ((xs.length : Int) - 1) = (k : Int) := by rw [IntWalk.wrap64_in _ (by omega)]; omega
  have i1 : (0 : Int) ≤ (k : Int) := by omega
  have i2 : (k : Int) < (xs.length : Int) := by omega
  have i3 : k < xs.length := by omega
  have hB5 : Below W.heap.size W (((((W.alloc (.cells #[.int .i64 (n:Int), .int .i64 (s:Int)] 45)).alloc (.cells #[.slice (some ⟨g, 0, none⟩) xs.length n] 31)).alloc (.cells #[.int .i64 (met:Int)] 43)).alloc (.cells #[.func (.yield l) #[] #[]] 102)).alloc (.cells #[.bool false] 4)) := ((((((Below.refl _ W).alloc (Nat.le_refl _) _).alloc (by simp) _).alloc (by simp; omega) _).alloc (by simp; omega) _).alloc (by simp; omega) _)
  have hz5 : (((((W.alloc (.cells #[.int .i64 (n:Int), .int .i64 (s:Int)] 45)).alloc (.cells #[.slice (some ⟨g, 0, none⟩) xs.length n] 31)).alloc (.cells #[.int .i64 (met:Int)] 43)).alloc (.cells #[.func (.yield l) #[] #[]] 102)).alloc (.cells #[.bool false] 4)).heap.size = W.heap.size + 5 := by simp
  have hc0 : W.cell? ⟨g, k, none⟩ = some (.int .i64 (u:Int)) := by
    have h := hI.cell i3
    rw [show xs.length - 1 = k by omega] at hu
    rw [hu] at h
    exact h
  have hI5 := hI.belowAll hB5
  have hc5 := (hB5.cell (p := ⟨g, k, none⟩) hgW).trans hc0
  have hp5 := ((((Duo.new W 45 (.int .i64 (n:Int)) (.int .i64 (s:Int))).alloc (.cells #[.slice (some ⟨g, 0, none⟩) xs.length n] 31)).alloc (.cells #[.int .i64 (met:Int)] 43)).alloc (.cells #[.func (.yield l) #[] #[]] 102)).alloc (.cells #[.bool false] 4)
  have hq5 := (((Boxed.new (W.alloc (.cells #[.int .i64 (n:Int), .int .i64 (s:Int)] 45)) 31 (.slice (some ⟨g, 0, none⟩) xs.length n)).alloc (.cells #[.int .i64 (met:Int)] 43)).alloc (.cells #[.func (.yield l) #[] #[]] 102)).alloc (.cells #[.bool false] 4)
  have hr5 := ((Boxed.new ((W.alloc (.cells #[.int .i64 (n:Int), .int .i64 (s:Int)] 45)).alloc (.cells #[.slice (some ⟨g, 0, none⟩) xs.length n] 31)) 43 (.int .i64 (met:Int))).alloc (.cells #[.func (.yield l) #[] #[]] 102)).alloc (.cells #[.bool false] 4)
  have hy5 := (Boxed.new (((W.alloc (.cells #[.int .i64 (n:Int), .int .i64 (s:Int)] 45)).alloc (.cells #[.slice (some ⟨g, 0, none⟩) xs.length n] 31)).alloc (.cells #[.int .i64 (met:Int)] 43)) 102 (.func (.yield l) #[] #[])).alloc (.cells #[.bool false] 4)
  have ho5 := Boxed.new ((((W.alloc (.cells #[.int .i64 (n:Int), .int .i64 (s:Int)] 45)).alloc (.cells #[.slice (some ⟨g, 0, none⟩) xs.length n] 31)).alloc (.cells #[.int .i64 (met:Int)] 43)).alloc (.cells #[.func (.yield l) #[] #[]] 102)) 4 (.bool false)
  simp only [World.size_alloc] at hq5 hr5 hy5 ho5
  have hX5 : ExtBox (((((W.alloc (.cells #[.int .i64 (n:Int), .int .i64 (s:Int)] 45)).alloc (.cells #[.slice (some ⟨g, 0, none⟩) xs.length n] 31)).alloc (.cells #[.int .i64 (met:Int)] 43)).alloc (.cells #[.func (.yield l) #[] #[]] 102)).alloc (.cells #[.bool false] 4)) W.heap.size n s g xs.length met l := ⟨hp5, hq5, hr5, hy5, ho5⟩
  have c0 := hp5.cell0
  have c1 := hp5.cell1
  have c2 := hq5.cell
  have HG := Lib.hid (⟨hgB, hgW⟩ : B ≤ g ∧ g < W.heap.size)
  have HI0 := Lib.hid hI
  have HK := Lib.hid hk
  have HL := Lib.hid hl
  have HN := Lib.hid hN
  have HU := Lib.hid hun
  have HM := Lib.hid hmet
  have HJ0 := Lib.hid hJ0
  clear hp5 hq5 hr5 hy5 ho5 hc0 hu hun hl hl1 hk hI hN hmet hF hIH hgB hgW hJ0
  refine (callsIn_wide (n := 9)).1 ?_
  refine callsIn_of_wp_marks Try.func101 rfl trivial ?_ rfl
  simp only [Try.ntmps101, List.size_toArray, List.length_cons, List.length_nil, Nat.reduceAdd, Nat.reduceSub, Array.replicate_succ, Array.replicate_zero, List.push_toArray, List.append_toArray, List.nil_append, List.cons_append]
  gi_wp2
  clear c0 c1 c2
  obtain ⟨W0, hW0⟩ : ∃ W0, (((((W.alloc (.cells #[.int .i64 (n:Int), .int .i64 (s:Int)] 45)).alloc (.cells #[.slice (some ⟨g, 0, none⟩) xs.length n] 31)).alloc (.cells #[.int .i64 (met:Int)] 43)).alloc (.cells #[.func (.yield l) #[] #[]] 102)).alloc (.cells #[.bool false] 4)) = W0 := ⟨_, rfl⟩
  rw [hW0] at hX5 hB5 hz5 hI5 hc5 ⊢
  clear hW0
  have hA0 : ExtBox W0.drew W.heap.size n s g xs.length met l ∧ W0.drew.cell? ⟨g, k, none⟩ = some (.int .i64 (u:Int)) := ⟨hX5, hc5⟩
  have hBd : Below W.heap.size W W0.drew := hB5.drew
  have hzd : W0.drew.heap.size = W.heap.size + 5 := hz5
  refine region_wide (fun W2 => ExtBox W2 W.heap.size n s g xs.length met l ∧ W2.cell? ⟨g, k, none⟩ = some (.int .i64 (u:Int))) hmx hA0 (fun _ => ?_)
  generalize W0.drew = V0 at *
  refine take1 0 (v := ?_) rfl (by kernel_rfl) (by kernel_rfl) (by kernel_rfl) (fun _ _ _ h => h) (by rfl) ?_ hA0 ?_
  rotate_left
  · intro W9 hA
    obtain ⟨⟨hp, hq, hr, hy, hz⟩, hc⟩ := hA
    have c0 := hp.cell0
    have c1 := hp.cell1
    have c2 := hq.cell
    have c3 := hr.cell
    have c4 := hy.cell
    clear hp hq hr hy hz
    go_simp
    try with_reducible rfl
  try simp only [Act.put, List.setIfInBounds_toArray, List.set_cons_zero, List.set_cons_succ]
  refine take1 1 (v := ?_) rfl (by kernel_rfl) (by kernel_rfl) (by kernel_rfl) (fun _ _ _ h => h) (by rfl) ?_ hA0 ?_
  rotate_left
  · intro W9 hA
    obtain ⟨⟨hp, hq, hr, hy, hz⟩, hc⟩ := hA
    have c0 := hp.cell0
    have c1 := hp.cell1
    have c2 := hq.cell
    have c3 := hr.cell
    have c4 := hy.cell
    clear hp hq hr hy hz
    go_simp
    try with_reducible rfl
  try simp only [Act.put, List.setIfInBounds_toArray, List.set_cons_zero, List.set_cons_succ]
  refine take1 2 (v := ?_) rfl (by kernel_rfl) (by kernel_rfl) (by kernel_rfl) (fun _ _ _ h => h) (by rfl) ?_ hA0 ?_
  rotate_left
  · intro W9 hA
    obtain ⟨⟨hp, hq, hr, hy, hz⟩, hc⟩ := hA
    have c0 := hp.cell0
    have c1 := hp.cell1
    have c2 := hq.cell
    have c3 := hr.cell
    have c4 := hy.cell
    clear hp hq hr hy hz
    go_simp
    try with_reducible rfl
  try simp only [Act.put, List.setIfInBounds_toArray, List.set_cons_zero, List.set_cons_succ]
  refine take1 3 (v := ?_) rfl (by kernel_rfl) (by kernel_rfl) (by kernel_rfl) (fun _ _ _ h => h) (by rfl) ?_ hA0 ?_
  rotate_left
  · intro W9 hA
    obtain ⟨⟨hp, hq, hr, hy, hz⟩, hc⟩ := hA
    have c0 := hp.cell0
    have c1 := hp.cell1
    have c2 := hq.cell
    have c3 := hr.cell
    have c4 := hy.cell
    clear hp hq hr hy hz
    go_simp
    try with_reducible rfl
  try simp only [Act.put, List.setIfInBounds_toArray, List.set_cons_zero, List.set_cons_succ]
  refine take1 4 (v := ?_) rfl (by kernel_rfl) (by kernel_rfl) (by kernel_rfl) (fun _ _ _ h => h) (by rfl) ?_ hA0 ?_
  rotate_left
  · intro W9 hA
    obtain ⟨⟨hp, hq, hr, hy, hz⟩, hc⟩ := hA
    have c0 := hp.cell0
    have c1 := hp.cell1
    have c2 := hq.cell
    have c3 := hr.cell
    have c4 := hy.cell
    clear hp hq hr hy hz
    go_simp
    try with_reducible rfl
  try simp only [Act.put, List.setIfInBounds_toArray, List.set_cons_zero, List.set_cons_succ]
  refine take1 5 (v := ?_) rfl (by kernel_rfl) (by kernel_rfl) (by kernel_rfl) (fun _ _ _ h => h) (by rfl) ?_ hA0 ?_
  rotate_left
  · intro W9 hA
    obtain ⟨⟨hp, hq, hr, hy, hz⟩, hc⟩ := hA
    have c0 := hp.cell0
    have c1 := hp.cell1
    have c2 := hq.cell
    have c3 := hr.cell
    have c4 := hy.cell
    clear hp hq hr hy hz
    go_simp
    try with_reducible rfl
  try simp only [Act.put, List.setIfInBounds_toArray, List.set_cons_zero, List.set_cons_succ]
  refine take1 6 (v := ?_) rfl (by kernel_rfl) (by kernel_rfl) (by kernel_rfl) (fun _ _ _ h => h) (by rfl) ?_ hA0 ?_
  rotate_left
  · intro W9 hA
    obtain ⟨⟨hp, hq, hr, hy, hz⟩, hc⟩ := hA
    have c0 := hp.cell0
    have c1 := hp.cell1
    have c2 := hq.cell
    have c3 := hr.cell
    have c4 := hy.cell
    clear hp hq hr hy hz
    go_simp
    try with_reducible rfl
  try simp only [Act.put, List.setIfInBounds_toArray, List.set_cons_zero, List.set_cons_succ]
  refine take1 8 (v := ?_) rfl (by kernel_rfl) (by kernel_rfl) (by kernel_rfl) (fun _ _ _ h => h) (by rfl) ?_ hA0 ?_
  rotate_left
  · intro W9 hA
    obtain ⟨⟨hp, hq, hr, hy, hz⟩, hc⟩ := hA
    have c0 := hp.cell0
    have c1 := hp.cell1
    have c2 := hq.cell
    have c3 := hr.cell
    have c4 := hy.cell
    clear hp hq hr hy hz
    go_simp
    try with_reducible rfl
  try simp only [Act.put, List.setIfInBounds_toArray, List.set_cons_zero, List.set_cons_succ]
  refine step1 7 (by kernel_rfl) rfl (fun K hK => ?_)
  go_simp
  refine (HNx.out _).mono ?_
  rintro e W7 ⟨rfl, hb7⟩
  go_wp2_with fail
  have hA7 : ExtBox W7 W.heap.size n s g xs.length met l ∧ W7.cell? ⟨g, k, none⟩ = some (.int .i64 (u:Int)) := ⟨hA0.1.same (fun q _ h => hb7.block q (by omega)), (hb7.cell (p := ⟨g, k, none⟩) (by have := HG.out; show g < _; omega)).trans hA0.2⟩
  have hB7 := hBd.trans (hb7.mono (by omega))
  have hz7 := hb7.size
  refine hK.out _ _ hA7 ?_
  clear hK K
  try simp only [Act.put, List.setIfInBounds_toArray, List.set_cons_zero, List.set_cons_succ]
  refine take1 9 (v := ?_) rfl (by kernel_rfl) (by kernel_rfl) (by kernel_rfl) (fun _ _ _ h => h) (by rfl) ?_ hA7 ?_
  rotate_left
  · intro W9 hA
    obtain ⟨⟨hp, hq, hr, hy, hz⟩, hc⟩ := hA
    have c0 := hp.cell0
    have c1 := hp.cell1
    have c2 := hq.cell
    have c3 := hr.cell
    have c4 := hy.cell
    clear hp hq hr hy hz
    go_simp
    try with_reducible rfl
  try simp only [Act.put, List.setIfInBounds_toArray, List.set_cons_zero, List.set_cons_succ]
  refine step1 10 (by kernel_rfl) rfl (fun K hK => ?_)
  go_simp
  refine (places_any _ _).mono ?_
  rintro e W8 ⟨rfl, rfl⟩
  go_wp2_with fail
  have hA8 : ExtBox (W7.alloc (.cells #[.int .i64 (t:Int)] 43)) W.heap.size n s g xs.length met l ∧ (W7.alloc (.cells #[.int .i64 (t:Int)] 43)).cell? ⟨g, k, none⟩ = some (.int .i64 (u:Int)) := ⟨hA7.1.same (fun q _ h => Below.heap_alloc W7 _ q (by omega)), (((Below.refl W7.heap.size W7).alloc (Nat.le_refl _) _).cell (p := ⟨g, k, none⟩) (by have := HG.out; show g < _; omega)).trans hA7.2⟩
  have bP := Boxed.new W7 43 (.int .i64 (t:Int))
  have hB8 : Below W.heap.size W (W7.alloc (.cells #[.int .i64 (t:Int)] 43)) := hB7.alloc (by omega) _
  have hz8 : (W7.alloc (.cells #[.int .i64 (t:Int)] 43)).heap.size = W7.heap.size + 1 := by simp
  refine hK.out _ _ hA8 ?_
  clear hK K
  try simp only [Act.put, List.setIfInBounds_toArray, List.set_cons_zero, List.set_cons_succ]
  refine stop1 (by kernel_rfl) ?_
  simp only [onlyN]
  gi_wp2
  obtain ⟨Wp, hWp⟩ : ∃ Wp, W7.alloc (.cells #[.int .i64 (t:Int)] 43) = Wp := ⟨_, rfl⟩
  rw [hWp] at hA8 bP hB8 hz8 ⊢
  clear hWp hA7 hA0 hX5 hB5 hI5 hc5
  have hSp : StaysG B C g n xs W Wp := staysG_of HG.out.1 HG.out.2 hB8 (Stays.refl B C Wp) HI0.out
  refine wpIn_rangeFunc_ownG rfl (by omega) (gf := 93) (lb := #[.pointer (some ⟨W7.heap.size, 0, none⟩)]) rfl trivial (enters_of Try.func93 (by kernel_rfl) rfl)
    (places_stops 8 (by omega) W7.heap.size 0 n t ht h2 Wp bP) KB.trans (KB.put (Nat.zero_le _)) (Below.refl _ _) (fun _ => rfl)
    (ExtI n s l B C g met xs pre0 J F W) (ExtX n s l B C g met xs pre0 Jx F W)
    (extI_own n s l B C g met _ xs pre0 J F W hJ HG.out.1 HG.out.2 (by omega)) (extX_own n s l B C g met _ xs pre0 Jx F W hJx HG.out.1 HG.out.2 (by omega))
    ⟨by rw [List.flatMap_nil, List.append_nil]; exact hJ _ _ _ HJ0.out (hB8.mono (by have := HG.out; omega)), hA8.1, hSp⟩
    (fun x => { tmps := #[.agg #[.int .i64 (n:Int), .int .i64 (s:Int)], .slice (some ⟨g, 0, none⟩) xs.length n, .int .i64 (met:Int), .func (.yield l) #[] #[], .pointer (some ⟨W.heap.size, 0, none⟩), .pointer (some ⟨W.heap.size + 1, 0, none⟩), .pointer (some ⟨W.heap.size + 1 + 1, 0, none⟩), .pointer (some ⟨W.heap.size + 1 + 1 + 1, 0, none⟩), .pointer (some ⟨W.heap.size + 1 + 1 + 1 + 1, 0, none⟩), .int .i64 (x.val : Int), .slice (some ⟨g, 0, none⟩) xs.length n, .int .i64 (xs.length : Int), .pointer (some ⟨W.heap.size, 0, none⟩), .pointer (some ⟨W.heap.size, 0, none⟩), .int .i64 (n:Int), .bool false, undef, undef, undef, .agg #[.int .i64 (n:Int), .int .i64 (s:Int)], .slice (some ⟨g, 0, none⟩) xs.length n, .slice (some ⟨g, 0, none⟩) xs.length n, .int .i64 (xs.length : Int), .int .i64 (k:Int), .pointer (some ⟨g, k, none⟩), .int .i64 (u:Int), .int .i64 ((shiftN n s (u:Int) : Nat) : Int), .int .i64 (met:Int), .int .i64 (t:Int), .func (.func 93) #[] #[.pointer (some ⟨W7.heap.size, 0, none⟩)], .int .i64 (x.val : Int), undef, undef, undef, undef, undef, undef, undef, undef, undef, undef, undef], defers := [] }) ?assign ?body ?done ?stop
  case assign =>
    intro l2 x W9 K hK
    gi_wp2
    exact hK
  case body =>
    rintro l2 pre x W2 ⟨hJ2, hX2, hS2⟩ hlen
    have hg := HG.out
    have hx := x.isLt
    have hsz := hS2.size
    have hlt := hX2.lt
    have hm := HM.out
    have Hwith := Lib.hid (fun W => with_any met x.val W (by omega) (by omega))
    have HI2 := Lib.hid hS2.list
    have HS2 := Lib.hid hS2
    have HX2 := Lib.hid hX2
    have HJ2 := Lib.hid hJ2
    have HPl : Hid ((pre0 ++ pre.flatMap F).length + 101 ^ m ≤ N) := Lib.hid (by
      have a := flat_len F (101 ^ m) HFl.out pre
      have b := HN.out
      rw [List.length_append]
      rw [Nat.pow_succ] at b
      have c : pre.length * 101 ^ m ≤ 99 * 101 ^ m := Nat.mul_le_mul_right _ (by omega)
      omega)
    have hBn : B ≤ W2.heap.size := by omega
    gi_wp2
    have hA0 : ExtBox W2.drew W.heap.size n s g xs.length met l := HX2.out
    refine region_round (fun W3 => ExtBox W3 W.heap.size n s g xs.length met l) hmx (by kernel_rfl) (fun ⟨_, _, h⟩ => h) hA0 (fun _ => ?_)
    refine take1 0 (v := ?_) rfl (by kernel_rfl) (by kernel_rfl) (by kernel_rfl) (fun _ _ _ h => h) (by rfl) ?_ hA0 ?_
    rotate_left
    · intro W9 hA
      obtain ⟨hp, hq, hr, hy, hz⟩ := hA
      have c0 := hp.cell0
      have c1 := hp.cell1
      have c2 := hq.cell
      have c3 := hr.cell
      have c4 := hy.cell
      clear hp hq hr hy hz
      go_simp
      try with_reducible rfl
    try simp only [Act.put, List.setIfInBounds_toArray, List.set_cons_zero, List.set_cons_succ]
    refine take1 1 (v := ?_) rfl (by kernel_rfl) (by kernel_rfl) (by kernel_rfl) (fun _ _ _ h => h) (by rfl) ?_ hA0 ?_
    rotate_left
    · intro W9 hA
      obtain ⟨hp, hq, hr, hy, hz⟩ := hA
      have c0 := hp.cell0
      have c1 := hp.cell1
      have c2 := hq.cell
      have c3 := hr.cell
      have c4 := hy.cell
      clear hp hq hr hy hz
      go_simp
      try with_reducible rfl
    try simp only [Act.put, List.setIfInBounds_toArray, List.set_cons_zero, List.set_cons_succ]
    refine take1 2 (v := ?_) rfl (by kernel_rfl) (by kernel_rfl) (by kernel_rfl) (fun _ _ _ h => h) (by rfl) ?_ hA0 ?_
    rotate_left
    · intro W9 hA
      obtain ⟨hp, hq, hr, hy, hz⟩ := hA
      have c0 := hp.cell0
      have c1 := hp.cell1
      have c2 := hq.cell
      have c3 := hr.cell
      have c4 := hy.cell
      clear hp hq hr hy hz
      go_simp
      try with_reducible rfl
    try simp only [Act.put, List.setIfInBounds_toArray, List.set_cons_zero, List.set_cons_succ]
    refine take1 5 (v := ?_) rfl (by kernel_rfl) (by kernel_rfl) (by kernel_rfl) (fun _ _ _ h => h) (by rfl) ?_ hA0 ?_
    rotate_left
    · intro W9 hA
      obtain ⟨hp, hq, hr, hy, hz⟩ := hA
      have c0 := hp.cell0
      have c1 := hp.cell1
      have c2 := hq.cell
      have c3 := hr.cell
      have c4 := hy.cell
      clear hp hq hr hy hz
      go_simp
      try with_reducible rfl
    try simp only [Act.put, List.setIfInBounds_toArray, List.set_cons_zero, List.set_cons_succ]
    refine take1 6 (v := ?_) rfl (by kernel_rfl) (by kernel_rfl) (by kernel_rfl) (fun _ _ _ h => h) (by rfl) ?_ hA0 ?_
    rotate_left
    · intro W9 hA
      obtain ⟨hp, hq, hr, hy, hz⟩ := hA
      have c0 := hp.cell0
      have c1 := hp.cell1
      have c2 := hq.cell
      have c3 := hr.cell
      have c4 := hy.cell
      clear hp hq hr hy hz
      go_simp
      try with_reducible rfl
    try simp only [Act.put, List.setIfInBounds_toArray, List.set_cons_zero, List.set_cons_succ]
    refine take1 8 (v := ?_) rfl (by kernel_rfl) (by kernel_rfl) (by kernel_rfl) (fun _ _ _ h => h) (by rfl) ?_ hA0 ?_
    rotate_left
    · intro W9 hA
      obtain ⟨hp, hq, hr, hy, hz⟩ := hA
      have c0 := hp.cell0
      have c1 := hp.cell1
      have c2 := hq.cell
      have c3 := hr.cell
      have c4 := hy.cell
      clear hp hq hr hy hz
      go_simp
      try with_reducible rfl
    try simp only [Act.put, List.setIfInBounds_toArray, List.set_cons_zero, List.set_cons_succ]
    refine step1 3 (by kernel_rfl) rfl (fun K hK => ?_)
    go_simp
    have hA3 : ExtBox (W2.drew.alloc (.cells #[.int .i64 (x.val : Int)] 3)) W.heap.size n s g xs.length met l := hA0.same (fun q _ h => Below.heap_alloc W2.drew _ q (by show q < W2.heap.size; omega))
    refine hK.out _ _ hA3 ?_
    clear hK K
    try simp only [Act.put, List.setIfInBounds_toArray, List.set_cons_zero, List.set_cons_succ]
    refine step1 4 (by kernel_rfl) rfl (fun K hK => ?_)
    rw [if_pos (by rfl)]
    refine wp_append_fit (.tmp 32) (.tmp 34) rfl g n xs.length xs (x.val : Int) W2.drew B rfl rfl rfl HI2.out (by have := HL.out; omega) (fun W4 hI4 hg4 => ?_)
    have hsz4 : W2.heap.size ≤ W4.heap.size := by have := hg4.size; simp at this; exact Nat.le_trans (by omega) this
    have hb4 : ∀ q, q < W2.heap.size → q ≠ g → W4.heap[q]? = W2.heap[q]? := fun q h h' => (hg4.block q (by simp; omega) (fun e => h' (by injection e))).trans (Below.heap_alloc W2.drew _ q h)
    have HI4 := Lib.hid hI4
    have HS4 : Hid (StaysG B C g n xs W2 W4) := Lib.hid ⟨hg4.os, hg4.tape, hg4.output, hsz4, fun q _ h h' => hb4 q h h', ints_init rfl hI4⟩
    have HJ4 := Lib.hid (hJ _ _ _ HJ2.out (⟨hg4.os, hg4.tape, hg4.output, hsz4, fun q hq => hb4 q (by omega) (by omega)⟩ : Below B W2 W4))
    have hA4 : ExtBox W4 W.heap.size n s g xs.length met l := HX2.out.same (fun q h h' => hb4 q (by omega) (by omega))
    clear hI4 hg4 hb4
    refine hK.out _ _ hA4 ?_
    clear hK K
    try simp only [Act.put, List.setIfInBounds_toArray, List.set_cons_zero, List.set_cons_succ]
    refine step1 7 (by kernel_rfl) rfl (fun K hK => ?_)
    go_simp
    refine (Hwith.out _).mono ?_
    rintro e V5' ⟨rfl, rfl⟩
    go_wp2_with fail
    refine hK.out _ _ hA4 ?_
    clear hK K
    try simp only [Act.put, List.setIfInBounds_toArray, List.set_cons_zero, List.set_cons_succ]
    refine step1 9 (by kernel_rfl) rfl (fun K hK => ?_)
    go_simp
    refine (HIH.out x _ _ HI4.out HJ4.out HPl.out).mono ?_
    rintro e W9 ⟨hS9, (⟨rfl, hJ9⟩ | ⟨rfl, M, q, hM, hq, hJ9⟩)⟩
    · have hS9' := HS4.out.trans hS9.init
      have hA9 : ExtBox W9 W.heap.size n s g xs.length met l := HX2.out.same (fun q h h' => hS9'.block q (.inl (by omega)) (by omega) (by omega))
      go_wp2_with fail
      refine hK.out _ _ hA9 ?_
      clear hK K
      try simp only [Act.put, List.setIfInBounds_toArray, List.set_cons_zero, List.set_cons_succ]
      refine take1 10 (v := ?_) rfl (by kernel_rfl) (by kernel_rfl) (by kernel_rfl) (fun _ _ _ h => h) (by rfl) ?_ hA9 ?_
      rotate_left
      · intro W9 hA
        obtain ⟨hp, hq, hr, hy, hz⟩ := hA
        have c0 := hp.cell0
        have c1 := hp.cell1
        have c2 := hq.cell
        have c3 := hr.cell
        have c4 := hy.cell
        clear hp hq hr hy hz
        go_simp
        try with_reducible rfl
      try simp only [Act.put, List.setIfInBounds_toArray, List.set_cons_zero, List.set_cons_succ]
      refine stop1 (by kernel_rfl) ?_
      gi_wp2
      exact ⟨hS9'.keeps (by omega) (by omega), hS9'.kb (by omega) (by omega), by rw [List.flatMap_append, List.flatMap_singleton, ← List.append_assoc]; exact hJ9, hA9, HS2.out.trans hS9'⟩
    · have hS9' := HS4.out.trans hS9.init
      have hA9 : ExtBox W9 W.heap.size n s g xs.length met l := HX2.out.same (fun q h h' => hS9'.block q (.inl (by omega)) (by omega) (by omega))
      go_wp2_with fail
      refine hK.out _ _ hA9 ?_
      clear hK K
      try simp only [Act.put, List.setIfInBounds_toArray, List.set_cons_zero, List.set_cons_succ]
      refine take1 10 (v := ?_) rfl (by kernel_rfl) (by kernel_rfl) (by kernel_rfl) (fun _ _ _ h => h) (by rfl) ?_ hA9 ?_
      rotate_left
      · intro W9 hA
        obtain ⟨hp, hq, hr, hy, hz⟩ := hA
        have c0 := hp.cell0
        have c1 := hp.cell1
        have c2 := hq.cell
        have c3 := hr.cell
        have c4 := hy.cell
        clear hp hq hr hy hz
        go_simp
        try with_reducible rfl
      try simp only [Act.put, List.setIfInBounds_toArray, List.set_cons_zero, List.set_cons_succ]
      refine stop1 (by kernel_rfl) ?_
      have c9 := hA9.2.2.2.2.cell
      have f9 := hA9.2.2.2.2.frozen
      gi_wp2
      exact ⟨(hS9'.keeps (by omega) (by omega)).trans ((KeepsOthers.setCell _ _ _).from _), rfl, ⟨M, pre.flatMap F ++ q, by omega, by rw [List.flatMap_append, List.flatMap_singleton]; exact (List.prefix_append_right_inj _).2 hq, by
          rw [← List.append_assoc]
          exact hJx _ _ _ _ (by omega) hJ9 (Outside.setCell _ _ _ (by show B ≤ W.heap.size + 1 + 1 + 1 + 1; omega) (by show W.heap.size + 1 + 1 + 1 + 1 < M; omega))⟩,
        ⟨hA9.1.other (by omega) _, hA9.2.1.other (by omega) _, hA9.2.2.1.other (by omega) _, hA9.2.2.2.1.other (by omega) _, hA9.2.2.2.2.set _⟩, (HS2.out.trans hS9').setCell (W.heap.size + 1 + 1 + 1 + 1) (by omega) hg.2 _⟩
  case done =>
    rintro D ys W2 hD hys ⟨hJ2, hX2, hS2⟩ hK
    have hg := HG.out
    have hsz := hS2.size
    have c9 := hX2.2.2.2.2.cell
    have f9 := hX2.2.2.2.2.frozen
    have hR2 := hX2.2.2.2.2.set (.bool true)
    have hne9 : D ≠ W.heap.size + 1 + 1 + 1 + 1 := by omega
    have hK2 : (W2.setCell ⟨W.heap.size + 1 + 1 + 1 + 1, 0, none⟩ (.bool true)).heap[D]? = some (.deferred (some [])) := (Below.heap_setCell _ ⟨W.heap.size + 1 + 1 + 1 + 1, 0, none⟩ _ D hne9).trans hK
    have HJ2 := Lib.hid hJ2
    have HS2 := Lib.hid hS2
    have HY := Lib.hid hys
    clear hJ2 hS2 hys
    gi_wp2
    refine ⟨by simp, .inl ⟨_, _, rfl, run_takeDeferred hK2, ?_⟩⟩
    have hR3 : Boxed ((W2.setCell ⟨W.heap.size + 1 + 1 + 1 + 1, 0, none⟩ (.bool true)).putObj D (.deferred none)) (W.heap.size + 1 + 1 + 1 + 1) 4 (.bool true) := (World.putObj_heap_other (fun e => hne9 e.symm)).trans hR2
    have q9 := hR3.cell
    refine ⟨.bool true, ?_, (HS2.out.setCell (W.heap.size + 1 + 1 + 1 + 1) (by omega) hg.2 _).putObj D (by omega) hg.2 _, .inl ⟨rfl, ?_⟩⟩
    · simp [results, Try.results101, go_sem, q9]
    · rw [HAll.out, ← HY.out]
      refine hJ _ _ _ HJ2.out ?_
      exact ((Below.refl _ _).setCell (p := ⟨W.heap.size + 1 + 1 + 1 + 1, 0, none⟩) (by show B ≤ W.heap.size + 1 + 1 + 1 + 1; omega) _).trans ⟨rfl, rfl, rfl, by simp, fun q hq => World.putObj_heap_other (by omega)⟩
  case stop =>
    rintro D c pre W2 hD hSq ⟨rfl, ⟨M, q, hM, hq, hJ2⟩, hX2, hS2⟩ hK
    have hg := HG.out
    have hsz := hS2.size
    have hR3 : Boxed (W2.putObj D (.deferred none)) (W.heap.size + 1 + 1 + 1 + 1) 4 (.bool false) := (World.putObj_heap_other (by omega)).trans hX2.2.2.2.2
    have q9 := hR3.cell
    have HJ2 := Lib.hid hJ2
    have HS2 := Lib.hid hS2
    have HQ : Hid (q <+: allO n s (m + 1) xs u met) := Lib.hid (by
      rw [HAll.out]
      obtain ⟨k9, hk9, e9⟩ := hSq
      refine hq.trans (flat_prefix F ?_)
      obtain ⟨d9, hd9⟩ : ∃ d, n = k9 + d := ⟨n - k9, by omega⟩
      rw [e9]
      have h9 := comeTo_prefix n t k9 d9
      rw [← hd9] at h9
      exact h9)
    clear hJ2 hS2 hSq hq
    gi_wp2
    refine ⟨by simp, .inl ⟨_, _, rfl, run_takeDeferred hK, ?_⟩⟩
    refine ⟨.bool false, ?_, HS2.out.putObj D (by omega) hg.2 _, .inr ⟨rfl, M, q, by omega, HQ.out, hJx _ _ _ _ (by omega) HJ2.out (Outside.putObj _ _ (by omega) hK rfl)⟩⟩
    simp [results, Try.results101, go_sem, q9]
end Go.Proofs.Ytaklmepioeoohaa
