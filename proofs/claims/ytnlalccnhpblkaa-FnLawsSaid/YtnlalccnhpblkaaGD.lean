/- Texts of mine, laid together: Ints Counts FarS FarT FarU FarV. -/
import Derived.Test.YtnlalccnhpblkaaGA
import Derived.Laws.OwnMore
import Derived.Laws.MakeOwn
import Derived.WalkSpells
import Derived.Test.YtnlalccnhpblkaaGB
import Derived.RegionTactic
import Derived.Test.YtnlalccnhpblkaaGC
import Derived.Laws.AppendOwn
/- Lists of integers that a call has made: what the laws ask of them (eqIntS, markIntS, heldIntS). -/
namespace Go.Proofs.Ytnlalccnhpblkaa
open Go.RowKit
set_option linter.unusedVariables false
/-- v reads as the list xs, in memory from block b on. -/
def IsInts (W : World) (b : Nat) (v : Value) (xs : List Int) : Prop := W.ownsRow b 3 1 v xs.length (xs.map (Value.int .i64))
/-- The block of a list that is not empty. -/
theorem IsInts.shape {W : World} {b : Nat} {v : Value} {xs : List Int} (h : IsInts W b v xs) : (v = .slice none 0 0 ∧ xs = []) ∨ ∃ g cap, v = .slice (some ⟨g, 0, none⟩) xs.length cap ∧ b ≤ g ∧ g < W.heap.size ∧ xs.length ≤ maxLen := by
  obtain ⟨h1, h2⟩ := h
  rcases h2 with ⟨h3, h4⟩ | ⟨g, cap, cur, h3, h4, h5, h6, h7, h8, h9⟩
  · exact .inl ⟨h3, List.eq_nil_of_length_eq_zero h4⟩
  · exact .inr ⟨g, cap, h3, h4, (Array.getElem?_eq_some_iff.1 h5).1, Nat.le_trans h6 h7⟩
theorem IsInts.cell {W : World} {b g cap len : Nat} {xs : List Int} (h : IsInts W b (.slice (some ⟨g, 0, none⟩) len cap) xs) {i : Nat} (hi : i < xs.length) : W.cell? ⟨g, i, none⟩ = some (.int .i64 (xs.getD i 0)) := by
  have hx : (xs.map (Value.int .i64))[i]? = some (.int .i64 (xs.getD i 0)) := by
    rw [List.getElem?_map, List.getElem?_eq_getElem hi, List.getD_eq_getElem?_getD, List.getElem?_eq_getElem hi]; rfl
  have h2 := World.ownsRow.cells h (g := g) rfl i _ hx
  have hadd : (⟨g, 0, none⟩ : Addr).add i = ⟨g, i, none⟩ := by unfold Addr.add; split <;> simp_all
  rw [hadd] at h2
  exact h2
theorem IsInts.frozen {W : World} {b g cap : Nat} {xs : List Int} (h : IsInts W b (.slice (some ⟨g, 0, none⟩) xs.length cap) xs) (i : Nat) : W.frozen? ⟨g, i, none⟩ = false := World.ownsRow.frozenAt h i
theorem IsInts.set {W : World} {b g cap : Nat} {xs : List Int} (h : IsInts W b (.slice (some ⟨g, 0, none⟩) xs.length cap) xs) (i : Nat) (z : Int) :
    IsInts (W.setCell ⟨g, i, none⟩ (.int .i64 z)) b (.slice (some ⟨g, 0, none⟩) (xs.set i z).length cap) (xs.set i z) := by
  have := (World.ownsRow.stored h i (.int .i64 z)).1
  unfold IsInts
  rw [List.length_set, List.map_set]
  exact this
theorem IsInts.below {W W' : World} {b : Nat} {v : Value} {xs : List Int} (h : IsInts W b v xs) {N : Nat} (hN : ∀ g, v.ownBlock = some g → g < N) (hb : Below N W W') : IsInts W' b v xs := by
  refine ⟨h.1, ?_⟩
  rcases h.2 with hn | ⟨g, cap, cur, rfl, h1, hgg, rest⟩
  · exact .inl hn
  · exact .inr ⟨g, cap, cur, rfl, h1, (hb.block g (hN g rfl)).trans hgg, rest⟩
theorem IsInts.belowAll {W W' : World} {b : Nat} {v : Value} {xs : List Int} (h : IsInts W b v xs) (hb : Below W.heap.size W W') : IsInts W' b v xs :=
  h.below (fun g hg => (World.ownsRow.lt h g hg).2) hb
theorem IsInts.base {W : World} {b b' : Nat} {v : Value} {xs : List Int} (h : IsInts W b v xs) (hb : b' ≤ b) : IsInts W b' v xs := by
  refine ⟨h.1, ?_⟩
  rcases h.2 with hn | ⟨g, cap, cur, rfl, h1, rest⟩
  · exact .inl hn
  · exact .inr ⟨g, cap, cur, rfl, by omega, rest⟩
theorem isInts_nil (W : World) (b : Nat) : IsInts W b (.slice none 0 0) [] := World.ownsRow_nil W b _ _
theorem IsInts.fresh {W : World} {v : Value} {xs : List Int} {b c : Nat} (h : IsInts W b v xs) (hc : ∀ g, v.ownBlock = some g → c ≤ g) : IsInts W c v xs := by
  refine ⟨h.1, ?_⟩
  rcases h.2 with hn | ⟨g, cap, cur, rfl, h1, rest⟩
  · exact .inl hn
  · exact .inr ⟨g, cap, cur, rfl, hc g rfl, rest⟩
/-- The numbers from k on. -/
def marks (k : Int) (n : Nat) : List Int := (List.range n).map (fun i : Nat => k + (i : Int))
theorem marks_len (k : Int) (n : Nat) : (marks k n).length = n := by simp [marks]
theorem marks_get (k : Int) (n i : Nat) (hi : i < n) : (marks k n).getD i 0 = k + (i : Int) := by
  simp [marks, List.getD_eq_getElem?_getD, hi]
/-- A list of which the first j have been marked. -/
def marked (k : Int) (xs : List Int) (j : Nat) : List Int := marks k j ++ xs.drop j
theorem marked_len (k : Int) (xs : List Int) (j : Nat) (hj : j ≤ xs.length) : (marked k xs j).length = xs.length := by simp [marked, marks]; omega
theorem marked_set (k : Int) (xs : List Int) (j : Nat) (hj : j < xs.length) : (marked k xs j).set j (k + (j : Int)) = marked k xs (j + 1) := by
  unfold marked
  have hl := marks_len k j
  rw [List.set_append_right _ _ (by omega), hl, Nat.sub_self, List.drop_eq_getElem_cons hj, List.set_cons_zero]
  simp [marks, List.range_succ]
theorem marked_end (k : Int) (xs : List Int) : marked k xs xs.length = marks k xs.length := by simp [marked]
/-- What marking leaves. -/
def MarkPost (w : World) (b : Nat) (sa : Value) (k : Int) (n : Nat) (e : Ending) (w' : World) : Prop :=
  e = .returned (.int .i64 (k + (n : Int))) ∧ IsInts w' b sa (marks k n) ∧ w.grownBy w' sa.ownBlock
end Go.Proofs.Ytnlalccnhpblkaa

/- RingCounts: the program, the model. -/
namespace Go.Proofs.Ytnlalccnhpblkaa
open Go.RowKit Go.Shelf
set_option linter.unusedVariables false
def stepC (n v w : Nat) (xs : List Int) : List Int := xs.set ((v + w) % n) (xs.getD ((v + w) % n) 0 + 1)
/-- What one place of the first set adds, w places of the second one having been asked. -/
def rowC (n b v k : Nat) (xs : List Int) : List Int := overSet b (stepC n v) k xs
def countsN (n a b : Nat) (k : Nat) : List Int := overSet a (fun v xs => rowC n b v n xs) k (List.replicate n 0)
theorem Try.infoInt : (Try.prog.info? 3).map (fun i => (i.zero, i.size, i.bytes)) = some (some (.int .i64 0), 1, 8) := by kernel_rfl
theorem make_ints (n : Nat) (hn : n ≤ 1000) (w : World) :
    (Instr.makeSlice 23 (.int .i64 (n:Int)) (.int .i64 (n:Int))).run Try.prog w = .ok (.slice (some ⟨w.heap.size, 0, none⟩) n n) (w.alloc (.cells (madeCells #[.int .i64 0] n) 3)) := by
  obtain ⟨i0, hi, hz0, hz1, hz2⟩ := info_parts Try.infoInt
  have h := run_make (P := Try.prog) w 23 3 i0 _ Try.underlying23 hi hz0 .i64 .i64 (n:Int) (n:Int) (by omega) (Int.le_refl _) (by rw [hz2]; omega) (by omega)
  simp only [hz1, Nat.mul_one, Int.toNat_natCast] at h
  exact h
theorem made_ints (n : Nat) (hn : n ≤ 1000) (w : World) : IsInts (w.alloc (.cells (madeCells #[.int .i64 0] n) 3)) w.heap.size (.slice (some ⟨w.heap.size, 0, none⟩) n n) (List.replicate n 0) := by
  have h := World.ownsRow_lit (base := w.heap.size) (e := 3) (size := 1) w (madeCells #[.int .i64 0] n) n (Nat.le_refl _) (by unfold maxLen; omega) (by simpa using size_madeCells #[Value.int .i64 0] n)
  unfold IsInts
  rw [List.length_replicate]
  have e : (List.replicate n (0 : Int)).map (Value.int .i64) = (madeCells #[Value.int .i64 0] n).toList := by
    rw [toList_madeCells_one, List.map_replicate]
  rw [e]
  exact h
def Bd (c : Nat) (xs : List Int) : Prop := ∀ i : Nat, 0 ≤ xs.getD i 0 ∧ xs.getD i 0 ≤ (c : Int)
theorem Bd.mono {c d : Nat} {xs : List Int} (h : Bd c xs) (hd : c ≤ d) : Bd d xs := fun i => ⟨(h i).1, Int.le_trans (h i).2 (by omega)⟩
theorem getD_set_int (xs : List Int) (p i : Nat) (z : Int) : (xs.set p z).getD i 0 = if p = i ∧ p < xs.length then z else xs.getD i 0 := by
  rw [List.getD_eq_getElem?_getD, List.getElem?_set, List.getD_eq_getElem?_getD]
  by_cases h1 : p = i
  · subst h1
    by_cases h2 : p < xs.length
    · simp [h2]
    · simp [h2]
  · simp [h1]
theorem Bd.step {c n v w : Nat} {xs : List Int} (h : Bd c xs) : Bd (c + 1) (stepC n v w xs) := by
  intro i
  have h1 := h i
  have h2 := h ((v + w) % n)
  unfold stepC
  rw [getD_set_int]
  split <;> omega
theorem stepC_len (n v w : Nat) (xs : List Int) : (stepC n v w xs).length = xs.length := by simp [stepC]
theorem rowC_len (n b v k : Nat) (xs : List Int) : (rowC n b v k xs).length = xs.length := by
  induction k with
  | zero => rfl
  | succ k ih =>
    show (if b.testBit k then stepC n v k (rowC n b v k xs) else rowC n b v k xs).length = xs.length
    split
    · rw [stepC_len, ih]
    · exact ih
theorem rowC_bd {n b v k c : Nat} {xs : List Int} (h : Bd c xs) : Bd (c + k) (rowC n b v k xs) := by
  induction k with
  | zero => exact h
  | succ k ih =>
    show Bd (c + (k + 1)) (if b.testBit k then stepC n v k (rowC n b v k xs) else rowC n b v k xs)
    split
    · exact ih.step
    · exact ih.mono (by omega)
theorem countsN_succ (n a b j : Nat) : countsN n a b (j + 1) = if a.testBit j then rowC n b j n (countsN n a b j) else countsN n a b j := rfl
theorem countsN_len (n a b j : Nat) : (countsN n a b j).length = n := by
  induction j with
  | zero => simp [countsN, overSet, upto]
  | succ j ih =>
    rw [countsN_succ]
    split
    · rw [rowC_len, ih]
    · exact ih
theorem countsN_bd (n a b j : Nat) : Bd (n * j) (countsN n a b j) := by
  induction j with
  | zero =>
    intro i
    have : (countsN n a b 0).getD i 0 = 0 := by
      show (List.replicate n (0 : Int)).getD i 0 = 0
      rw [List.getD_eq_getElem?_getD, List.getElem?_replicate]
      split <;> rfl
    rw [this]; simp
  | succ j ih =>
    rw [countsN_succ]
    split
    · exact (rowC_bd ih).mono (by rw [Nat.mul_succ]; omega)
    · exact ih.mono (by rw [Nat.mul_succ]; omega)
/-- What the inner loop of the model has made. -/
def inC (n a b j k : Nat) : List Int := if a.testBit j then rowC n b j k (countsN n a b j) else countsN n a b j
theorem inC_len (n a b j k : Nat) : (inC n a b j k).length = n := by
  unfold inC; split
  · rw [rowC_len, countsN_len]
  · exact countsN_len n a b j
theorem inC_zero (n a b j : Nat) : inC n a b j 0 = countsN n a b j := by unfold inC; split <;> rfl
theorem inC_end (n a b j : Nat) : inC n a b j n = countsN n a b (j + 1) := rfl
theorem inC_yes (n a b j k : Nat) (ha : a.testBit j = true) (hb : b.testBit k = true) : inC n a b j (k + 1) = (inC n a b j k).set ((j + k) % n) ((inC n a b j k).getD ((j + k) % n) 0 + 1) := by
  simp [inC, ha, rowC, overSet, upto, hb, stepC]
theorem set_same (xs : List Int) (i : Nat) (z : Int) (h : xs.getD i 0 = z) (hi : i < xs.length) : xs.set i z = xs := by
  have e : z = xs[i] := by rw [← h, List.getD_eq_getElem?_getD, List.getElem?_eq_getElem hi]; rfl
  rw [e, List.set_getElem_self]
theorem inC_no (n a b j k : Nat) (h : ¬ (a.testBit j = true ∧ b.testBit k = true)) : inC n a b j (k + 1) = inC n a b j k := by
  unfold inC
  by_cases ha : a.testBit j = true
  · have hb : b.testBit k = false := by
      cases hb : b.testBit k
      · rfl
      · exact absurd ⟨ha, hb⟩ h
    simp [ha, rowC, overSet, upto, hb]
  · simp [ha]
theorem inC_bd (n a b j k : Nat) (hn : n ≤ 12) (hj : j < n) (hk : k ≤ n) : Bd 200 (inC n a b j k) := by
  have h0 := countsN_bd n a b j
  have hm : n * j ≤ 12 * 12 := Nat.mul_le_mul hn (by omega)
  unfold inC; split
  · exact (rowC_bd h0).mono (by omega)
  · exact h0.mono (by omega)
theorem bit_one {s v : Nat} (hs : s < 2 ^ 40) (h : s.testBit v = true) : bits .and .i64 ((s : Int) / 2 ^ v) 1 = 1 := by
  have := has_nat s v hs
  rw [h] at this
  exact eq_of_beq this
theorem bit_none {s v : Nat} (hs : s < 2 ^ 40) (h : s.testBit v = false) : bits .and .i64 ((s : Int) / 2 ^ v) 1 = 0 := by
  have := has_nat0 s v hs
  rw [h] at this
  exact eq_of_beq this
end Go.Proofs.Ytnlalccnhpblkaa

/- The model's list of distances. -/
namespace Go.Proofs.Ytnlalccnhpblkaa
open Go.RowKit
set_option linter.unusedVariables false
theorem Try.infoI : (Try.prog.info? 3).map (fun i => (i.zero, i.size, i.bytes)) = some (some (.int .i64 0), 1, 8) := by kernel_rfl
theorem ints_snoc (n : Nat) (f : Nat → Int) : (tabI n f).map (Value.int .i64) ++ [.int .i64 (f n)] = (tabI (n + 1) f).map (Value.int .i64) := by rw [tabI_snoc]; simp
theorem own_tab {W : World} {b : Nat} {v : Value} {n : Nat} {f : Nat → Int} (h : W.ownsRow b 3 1 v n ((tabI n f).map (Value.int .i64))) : IsInts W b v (tabI n f) := by
  unfold IsInts
  rw [tabI_len]
  exact h
theorem tab_own {W : World} {b : Nat} {v : Value} {n : Nat} {f : Nat → Int} (h : IsInts W b v (tabI n f)) : W.ownsRow b 3 1 v n ((tabI n f).map (Value.int .i64)) := by
  unfold IsInts at h
  rw [tabI_len] at h
  exact h
/-- What l3List leaves: the list of distances, in memory of its own. -/
def FarPost (w : World) (n s : Nat) (e : Ending) (w' : World) : Prop :=
  ∃ g cap, e = .returned (.slice (some ⟨g, 0, none⟩) n cap) ∧ Below w.heap.size w w' ∧ IsInts w' w.heap.size (.slice (some ⟨g, 0, none⟩) n cap) (tabI n (distN n s))
end Go.Proofs.Ytnlalccnhpblkaa

/- The model's greatest distance, sum of distances and list, as others call them. -/
namespace Go.Proofs.Ytnlalccnhpblkaa
open Go.RowKit
set_option linter.unusedVariables false
/-- The greatest distance of the places below k. -/
def mostN (n s : Nat) (k : Nat) : Nat := upto (fun v x => max x (distN n s v).toNat) k 0
theorem most_le (n s k : Nat) : mostN n s k ≤ n := by
  induction k with
  | zero => exact Nat.zero_le _
  | succ k ih =>
    have := distN_range n s k
    show max (mostN n s k) (distN n s k).toNat ≤ n
    omega
/-- The sum of the distances of the places below k. -/
def farSumN (n s : Nat) (k : Nat) : Int := upto (fun v x => x + distN n s v) k 0
theorem farSum_range (n s k : Nat) (h2 : n ≤ 12) : -(k : Int) ≤ farSumN n s k ∧ farSumN n s k ≤ 12 * (k : Int) := by
  induction k with
  | zero => exact ⟨Int.le_refl _, Int.le_refl _⟩
  | succ k ih =>
    have := distN_range n s k
    show -((k + 1 : Nat) : Int) ≤ farSumN n s k + distN n s k ∧ farSumN n s k + distN n s k ≤ 12 * ((k + 1 : Nat) : Int)
    omega
def ListsPost (w : World) (n : Nat) (xs : List Int) (e : Ending) (w' : World) : Prop :=
  ∃ g cap, e = .returned (.tuple #[.slice (some ⟨g, 0, none⟩) n cap, .bool true]) ∧ Below w.heap.size w w' ∧ IsInts w' w.heap.size (.slice (some ⟨g, 0, none⟩) n cap) xs
def NonePost (w : World) (e : Ending) (w' : World) : Prop :=
  ∃ sv, e = .returned (.tuple #[sv, .bool false]) ∧ Below w.heap.size w w' ∧ IsInts w' w.heap.size sv []
end Go.Proofs.Ytnlalccnhpblkaa

/- The model's layers of distances. -/
namespace Go.Proofs.Ytnlalccnhpblkaa
open Go.RowKit
set_option linter.unusedVariables false
theorem grownBy_setAt (W : World) (b i : Nat) (v : Value) : W.grownBy (W.setCell ⟨b, i, none⟩ v) (some b) :=
  ⟨rfl, rfl, rfl, by simp [World.setCell], fun k _ hk => Below.heap_setCell _ _ _ k (fun e => hk (by rw [e]))⟩
theorem IsInts.aside {W : World} {b g cap len : Nat} {xs : List Int} (h : IsInts W b (.slice (some ⟨g, 0, none⟩) len cap) xs) {g' : Nat} (hne : g ≠ g') (i : Nat) (z : Value) : IsInts (W.setCell ⟨g', i, none⟩ z) b (.slice (some ⟨g, 0, none⟩) len cap) xs :=
  World.ownsRow.kept h (grownBy_setAt W g' i z) (.inr (by
    simp only [Value.ownBlock]
    intro e
    cases e
    exact hne rfl))
theorem most_ge (n s k v : Nat) (hv : v < k) : (distN n s v).toNat ≤ mostN n s k := by
  induction k with
  | zero => omega
  | succ k ih =>
    show _ ≤ max (mostN n s k) (distN n s k).toNat
    by_cases e : v = k
    · subst e; omega
    · have := ih (by omega)
      omega
/-- How many places below j have the distance d. -/
def layN (n s j d : Nat) : Nat := sumTo (fun v => b2n (distN n s v == (d : Int))) j
theorem lay_le (n s j d : Nat) : layN n s j d ≤ j := by
  induction j with
  | zero => exact Nat.le_refl _
  | succ j ih =>
    show layN n s j d + b2n (distN n s j == (d : Int)) ≤ j + 1
    have : b2n (distN n s j == (d : Int)) ≤ 1 := by unfold b2n; split <;> omega
    omega
theorem lay_skip (n s j : Nat) (h : distN n s j < 0) (d : Nat) : layN n s (j + 1) d = layN n s j d := by
  show layN n s j d + b2n (distN n s j == (d : Int)) = layN n s j d
  have e : (distN n s j == (d : Int)) = false := by simp; omega
  rw [e]
  rfl
theorem lay_step (n s j z : Nat) (h : distN n s j = (z : Int)) (d : Nat) : ((layN n s (j + 1) d : Nat) : Int) = if d = z then ((layN n s j z : Nat) : Int) + 1 else ((layN n s j d : Nat) : Int) := by
  show ((layN n s j d + b2n (distN n s j == (d : Int)) : Nat) : Int) = _
  by_cases e : d = z
  · subst e
    rw [h, if_pos rfl]
    simp [b2n]
  · have e' : (distN n s j == (d : Int)) = false := by rw [h]; simp; omega
    rw [e', if_neg e]
    simp [b2n]
theorem zeros_tab (n : Nat) : List.replicate n (0 : Int) = tabI n (fun _ => 0) := by
  refine List.ext_getElem (by simp [tabI]) fun k h1 h2 => ?_
  simp [tabI]
end Go.Proofs.Ytnlalccnhpblkaa

/- The model's turned distances and best steps. -/
namespace Go.Proofs.Ytnlalccnhpblkaa
open Go.RowKit
set_option linter.unusedVariables false
/-- What the places below j leave in the turned list. -/
def turnL (n s : Nat) (m : Int) : Nat → Nat → Int
  | 0, _ => 0
  | j + 1, x => if x = rest n (m * (j : Int)) then distN n s j else turnL n s m j x
/-- The best steps among the first j even sets, and how far they reach. -/
def bestS (n k s : Nat) (x : Nat × Nat) : Nat × Nat := if sizeN s = k ∧ partsN n s = 1 ∧ mostN n s n < x.2 then (s, mostN n s n) else x
def bestN (n k : Nat) (j : Nat) : Nat × Nat := upto (fun i x => bestS n k (2 * i + 2) x) j (0, n)
theorem best_step (n k j : Nat) : bestN n k (j + 1) = bestS n k (2 * j + 2) (bestN n k j) := by
  simp only [bestN, upto]
theorem best_range (n k j : Nat) (hj : 2 * j < 2 ^ n) : (bestN n k j).1 < 2 ^ n ∧ (bestN n k j).2 ≤ n := by
  induction j with
  | zero => exact ⟨Nat.two_pow_pos n, Nat.le_refl n⟩
  | succ j ih =>
    have h := ih (by omega)
    rw [best_step]
    unfold bestS
    split
    · exact ⟨by show 2 * j + 2 < 2 ^ n; omega, most_le n _ n⟩
    · exact h
theorem even_bit (j : Nat) : (2 * j + 2).testBit 0 = false := by
  rw [bit0]
  simp
end Go.Proofs.Ytnlalccnhpblkaa
