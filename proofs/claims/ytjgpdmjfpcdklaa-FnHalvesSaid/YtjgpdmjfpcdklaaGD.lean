/- Texts of mine, laid together: Ints Counts FarS FarT FarU FarV. -/
import Derived.Test.YtjgpdmjfpcdklaaGA
import Derived.Laws.OwnMore
import Derived.Laws.MakeOwn
import Derived.WalkSpells
import Derived.Test.YtjgpdmjfpcdklaaGB
import Derived.RegionTactic
import Derived.Test.YtjgpdmjfpcdklaaGC
import Derived.Laws.AppendOwn
/- Lists of integers that a call has made: what the laws ask of them (eqIntS, markIntS, heldIntS). -/
namespace Go.Proofs.Ytjgpdmjfpcdklaa
open Go.RowKit
set_option linter.unusedVariables false
/-- v reads as the list xs, in memory from block b on. -/
def IsInts (W : World) (b : Nat) (v : Value) (xs : List Int) : Prop := W.ownsRow b 3 1 v xs.length (xs.map (Value.int .i64))
/-- The block of a list that is not empty. -/
theorem IsInts.shape {W : World} {b : Nat} {v : Value} {xs : List Int} (h : IsInts W b v xs) : (v = .slice none 0 0 ∧ xs = []) ∨ ∃ g cap, v = .slice (some ⟨g, 0, none⟩) xs.length cap ∧ b ≤ g ∧ g < W.heap.size ∧ xs.length ≤ maxLen := by
  obtain ⟨h1, h2⟩ := h
  rcases h2 with ⟨h3, h4⟩ | ⟨g, cap, cur, h3, h4, h5, h6, h7, h8, h9⟩
  · exact .inl ⟨h3, List.eq_nil_of_length_eq_zero h4⟩
  · exact .inr ⟨g, cap, h3, h4, (Array.getElem?_eq_some_iff.1 h5).1, Nat.le_trans h6 h7⟩
theorem IsInts.cell {W : World} {b g cap len : Nat} {xs : List Int} (h : IsInts W b (.slice (some ⟨g, 0, none⟩) len cap) xs) {i : Nat} (hi : i < xs.length) : W.cell? ⟨g, i, none⟩ = some (.int .i64 (xs.getD i 0)) := by
  have hx : (xs.map (Value.int .i64))[i]? = some (.int .i64 (xs.getD i 0)) := by
    rw [List.getElem?_map, List.getElem?_eq_getElem hi, List.getD_eq_getElem?_getD, List.getElem?_eq_getElem hi]; rfl
  have h2 := World.ownsRow.cells h (g := g) rfl i _ hx
  have hadd : (⟨g, 0, none⟩ : Addr).add i = ⟨g, i, none⟩ := by unfold Addr.add; split <;> simp_all
  rw [hadd] at h2
  exact h2
theorem IsInts.frozen {W : World} {b g cap : Nat} {xs : List Int} (h : IsInts W b (.slice (some ⟨g, 0, none⟩) xs.length cap) xs) (i : Nat) : W.frozen? ⟨g, i, none⟩ = false := World.ownsRow.frozenAt h i
theorem IsInts.set {W : World} {b g cap : Nat} {xs : List Int} (h : IsInts W b (.slice (some ⟨g, 0, none⟩) xs.length cap) xs) (i : Nat) (z : Int) :
    IsInts (W.setCell ⟨g, i, none⟩ (.int .i64 z)) b (.slice (some ⟨g, 0, none⟩) (xs.set i z).length cap) (xs.set i z) := by
  have := (World.ownsRow.stored h i (.int .i64 z)).1
  unfold IsInts
  rw [List.length_set, List.map_set]
  exact this
theorem IsInts.below {W W' : World} {b : Nat} {v : Value} {xs : List Int} (h : IsInts W b v xs) {N : Nat} (hN : ∀ g, v.ownBlock = some g → g < N) (hb : Below N W W') : IsInts W' b v xs := by
  refine ⟨h.1, ?_⟩
  rcases h.2 with hn | ⟨g, cap, cur, rfl, h1, hgg, rest⟩
  · exact .inl hn
  · exact .inr ⟨g, cap, cur, rfl, h1, (hb.block g (hN g rfl)).trans hgg, rest⟩
theorem IsInts.belowAll {W W' : World} {b : Nat} {v : Value} {xs : List Int} (h : IsInts W b v xs) (hb : Below W.heap.size W W') : IsInts W' b v xs :=
  h.below (fun g hg => (World.ownsRow.lt h g hg).2) hb
theorem IsInts.base {W : World} {b b' : Nat} {v : Value} {xs : List Int} (h : IsInts W b v xs) (hb : b' ≤ b) : IsInts W b' v xs := by
  refine ⟨h.1, ?_⟩
  rcases h.2 with hn | ⟨g, cap, cur, rfl, h1, rest⟩
  · exact .inl hn
  · exact .inr ⟨g, cap, cur, rfl, by omega, rest⟩
theorem isInts_nil (W : World) (b : Nat) : IsInts W b (.slice none 0 0) [] := World.ownsRow_nil W b _ _
theorem IsInts.fresh {W : World} {v : Value} {xs : List Int} {b c : Nat} (h : IsInts W b v xs) (hc : ∀ g, v.ownBlock = some g → c ≤ g) : IsInts W c v xs := by
  refine ⟨h.1, ?_⟩
  rcases h.2 with hn | ⟨g, cap, cur, rfl, h1, rest⟩
  · exact .inl hn
  · exact .inr ⟨g, cap, cur, rfl, hc g rfl, rest⟩
/-- The numbers from k on. -/
def marks (k : Int) (n : Nat) : List Int := (List.range n).map (fun i : Nat => k + (i : Int))
theorem marks_len (k : Int) (n : Nat) : (marks k n).length = n := by simp [marks]
theorem marks_get (k : Int) (n i : Nat) (hi : i < n) : (marks k n).getD i 0 = k + (i : Int) := by
  simp [marks, List.getD_eq_getElem?_getD, hi]
/-- A list of which the first j have been marked. -/
def marked (k : Int) (xs : List Int) (j : Nat) : List Int := marks k j ++ xs.drop j
theorem marked_len (k : Int) (xs : List Int) (j : Nat) (hj : j ≤ xs.length) : (marked k xs j).length = xs.length := by simp [marked, marks]; omega
theorem marked_set (k : Int) (xs : List Int) (j : Nat) (hj : j < xs.length) : (marked k xs j).set j (k + (j : Int)) = marked k xs (j + 1) := by
  unfold marked
  have hl := marks_len k j
  rw [List.set_append_right _ _ (by omega), hl, Nat.sub_self, List.drop_eq_getElem_cons hj, List.set_cons_zero]
  simp [marks, List.range_succ]
theorem marked_end (k : Int) (xs : List Int) : marked k xs xs.length = marks k xs.length := by simp [marked]
/-- What marking leaves. -/
def MarkPost (w : World) (b : Nat) (sa : Value) (k : Int) (n : Nat) (e : Ending) (w' : World) : Prop :=
  e = .returned (.int .i64 (k + (n : Int))) ∧ IsInts w' b sa (marks k n) ∧ w.grownBy w' sa.ownBlock
end Go.Proofs.Ytjgpdmjfpcdklaa

/- RingCounts: the program, the model. -/
namespace Go.Proofs.Ytjgpdmjfpcdklaa
open Go.RowKit Go.Shelf
set_option linter.unusedVariables false
def stepC (n v w : Nat) (xs : List Int) : List Int := xs.set ((v + w) % n) (xs.getD ((v + w) % n) 0 + 1)
/-- What one place of the first set adds, w places of the second one having been asked. -/
def rowC (n b v k : Nat) (xs : List Int) : List Int := overSet b (stepC n v) k xs
def countsN (n a b : Nat) (k : Nat) : List Int := overSet a (fun v xs => rowC n b v n xs) k (List.replicate n 0)
theorem Try.infoInt : (Try.prog.info? 3).map (fun i => (i.zero, i.size, i.bytes)) = some (some (.int .i64 0), 1, 8) := by kernel_rfl
theorem make_ints (n : Nat) (hn : n ≤ 1000) (w : World) :
    (Instr.makeSlice 30 (.int .i64 (n:Int)) (.int .i64 (n:Int))).run Try.prog w = .ok (.slice (some ⟨w.heap.size, 0, none⟩) n n) (w.alloc (.cells (madeCells #[.int .i64 0] n) 3)) := by
  obtain ⟨i0, hi, hz0, hz1, hz2⟩ := info_parts Try.infoInt
  have h := run_make (P := Try.prog) w 30 3 i0 _ Try.underlying30 hi hz0 .i64 .i64 (n:Int) (n:Int) (by omega) (Int.le_refl _) (by rw [hz2]; omega) (by omega)
  simp only [hz1, Nat.mul_one, Int.toNat_natCast] at h
  exact h
theorem made_ints (n : Nat) (hn : n ≤ 1000) (w : World) : IsInts (w.alloc (.cells (madeCells #[.int .i64 0] n) 3)) w.heap.size (.slice (some ⟨w.heap.size, 0, none⟩) n n) (List.replicate n 0) := by
  have h := World.ownsRow_lit (base := w.heap.size) (e := 3) (size := 1) w (madeCells #[.int .i64 0] n) n (Nat.le_refl _) (by unfold maxLen; omega) (by simpa using size_madeCells #[Value.int .i64 0] n)
  unfold IsInts
  rw [List.length_replicate]
  have e : (List.replicate n (0 : Int)).map (Value.int .i64) = (madeCells #[Value.int .i64 0] n).toList := by
    rw [toList_madeCells_one, List.map_replicate]
  rw [e]
  exact h
def Bd (c : Nat) (xs : List Int) : Prop := ∀ i : Nat, 0 ≤ xs.getD i 0 ∧ xs.getD i 0 ≤ (c : Int)
theorem Bd.mono {c d : Nat} {xs : List Int} (h : Bd c xs) (hd : c ≤ d) : Bd d xs := fun i => ⟨(h i).1, Int.le_trans (h i).2 (by omega)⟩
theorem getD_set_int (xs : List Int) (p i : Nat) (z : Int) : (xs.set p z).getD i 0 = if p = i ∧ p < xs.length then z else xs.getD i 0 := by
  rw [List.getD_eq_getElem?_getD, List.getElem?_set, List.getD_eq_getElem?_getD]
  by_cases h1 : p = i
  · subst h1
    by_cases h2 : p < xs.length
    · simp [h2]
    · simp [h2]
  · simp [h1]
theorem Bd.step {c n v w : Nat} {xs : List Int} (h : Bd c xs) : Bd (c + 1) (stepC n v w xs) := by
  intro i
  have h1 := h i
  have h2 := h ((v + w) % n)
  unfold stepC
  rw [getD_set_int]
  split <;> omega
theorem stepC_len (n v w : Nat) (xs : List Int) : (stepC n v w xs).length = xs.length := by simp [stepC]
theorem rowC_len (n b v k : Nat) (xs : List Int) : (rowC n b v k xs).length = xs.length := by
  induction k with
  | zero => rfl
  | succ k ih =>
    show (if b.testBit k then stepC n v k (rowC n b v k xs) else rowC n b v k xs).length = xs.length
    split
    · rw [stepC_len, ih]
    · exact ih
theorem rowC_bd {n b v k c : Nat} {xs : List Int} (h : Bd c xs) : Bd (c + k) (rowC n b v k xs) := by
  induction k with
  | zero => exact h
  | succ k ih =>
    show Bd (c + (k + 1)) (if b.testBit k then stepC n v k (rowC n b v k xs) else rowC n b v k xs)
    split
    · exact ih.step
    · exact ih.mono (by omega)
theorem countsN_succ (n a b j : Nat) : countsN n a b (j + 1) = if a.testBit j then rowC n b j n (countsN n a b j) else countsN n a b j := rfl
theorem countsN_len (n a b j : Nat) : (countsN n a b j).length = n := by
  induction j with
  | zero => simp [countsN, overSet, upto]
  | succ j ih =>
    rw [countsN_succ]
    split
    · rw [rowC_len, ih]
    · exact ih
theorem countsN_bd (n a b j : Nat) : Bd (n * j) (countsN n a b j) := by
  induction j with
  | zero =>
    intro i
    have : (countsN n a b 0).getD i 0 = 0 := by
      show (List.replicate n (0 : Int)).getD i 0 = 0
      rw [List.getD_eq_getElem?_getD, List.getElem?_replicate]
      split <;> rfl
    rw [this]; simp
  | succ j ih =>
    rw [countsN_succ]
    split
    · exact (rowC_bd ih).mono (by rw [Nat.mul_succ]; omega)
    · exact ih.mono (by rw [Nat.mul_succ]; omega)
/-- What the inner loop of the model has made. -/
def inC (n a b j k : Nat) : List Int := if a.testBit j then rowC n b j k (countsN n a b j) else countsN n a b j
theorem inC_len (n a b j k : Nat) : (inC n a b j k).length = n := by
  unfold inC; split
  · rw [rowC_len, countsN_len]
  · exact countsN_len n a b j
theorem inC_zero (n a b j : Nat) : inC n a b j 0 = countsN n a b j := by unfold inC; split <;> rfl
theorem inC_end (n a b j : Nat) : inC n a b j n = countsN n a b (j + 1) := rfl
theorem inC_yes (n a b j k : Nat) (ha : a.testBit j = true) (hb : b.testBit k = true) : inC n a b j (k + 1) = (inC n a b j k).set ((j + k) % n) ((inC n a b j k).getD ((j + k) % n) 0 + 1) := by
  simp [inC, ha, rowC, overSet, upto, hb, stepC]
theorem set_same (xs : List Int) (i : Nat) (z : Int) (h : xs.getD i 0 = z) (hi : i < xs.length) : xs.set i z = xs := by
  have e : z = xs[i] := by rw [← h, List.getD_eq_getElem?_getD, List.getElem?_eq_getElem hi]; rfl
  rw [e, List.set_getElem_self]
theorem inC_no (n a b j k : Nat) (h : ¬ (a.testBit j = true ∧ b.testBit k = true)) : inC n a b j (k + 1) = inC n a b j k := by
  unfold inC
  by_cases ha : a.testBit j = true
  · have hb : b.testBit k = false := by
      cases hb : b.testBit k
      · rfl
      · exact absurd ⟨ha, hb⟩ h
    simp [ha, rowC, overSet, upto, hb]
  · simp [ha]
theorem inC_bd (n a b j k : Nat) (hn : n ≤ 12) (hj : j < n) (hk : k ≤ n) : Bd 200 (inC n a b j k) := by
  have h0 := countsN_bd n a b j
  have hm : n * j ≤ 12 * 12 := Nat.mul_le_mul hn (by omega)
  unfold inC; split
  · exact (rowC_bd h0).mono (by omega)
  · exact h0.mono (by omega)
theorem bit_one {s v : Nat} (hs : s < 2 ^ 40) (h : s.testBit v = true) : bits .and .i64 ((s : Int) / 2 ^ v) 1 = 1 := by
  have := has_nat s v hs
  rw [h] at this
  exact eq_of_beq this
theorem bit_none {s v : Nat} (hs : s < 2 ^ 40) (h : s.testBit v = false) : bits .and .i64 ((s : Int) / 2 ^ v) 1 = 0 := by
  have := has_nat0 s v hs
  rw [h] at this
  exact eq_of_beq this
end Go.Proofs.Ytjgpdmjfpcdklaa

/- The model's list of distances. -/
namespace Go.Proofs.Ytjgpdmjfpcdklaa
open Go.RowKit
set_option linter.unusedVariables false
theorem Try.infoI : (Try.prog.info? 3).map (fun i => (i.zero, i.size, i.bytes)) = some (some (.int .i64 0), 1, 8) := by kernel_rfl
theorem ints_snoc (n : Nat) (f : Nat → Int) : (tabI n f).map (Value.int .i64) ++ [.int .i64 (f n)] = (tabI (n + 1) f).map (Value.int .i64) := by rw [tabI_snoc]; simp
theorem own_tab {W : World} {b : Nat} {v : Value} {n : Nat} {f : Nat → Int} (h : W.ownsRow b 3 1 v n ((tabI n f).map (Value.int .i64))) : IsInts W b v (tabI n f) := by
  unfold IsInts
  rw [tabI_len]
  exact h
theorem tab_own {W : World} {b : Nat} {v : Value} {n : Nat} {f : Nat → Int} (h : IsInts W b v (tabI n f)) : W.ownsRow b 3 1 v n ((tabI n f).map (Value.int .i64)) := by
  unfold IsInts at h
  rw [tabI_len] at h
  exact h
/-- What l3List leaves: the list of distances, in memory of its own. -/
def FarPost (w : World) (n s : Nat) (e : Ending) (w' : World) : Prop :=
  ∃ g cap, e = .returned (.slice (some ⟨g, 0, none⟩) n cap) ∧ Below w.heap.size w w' ∧ IsInts w' w.heap.size (.slice (some ⟨g, 0, none⟩) n cap) (tabI n (distN n s))
set_option maxRecDepth 100000 in
set_option maxHeartbeats 2000000 in
theorem l3List_any (n s : Nat) (w : World) (h1 : 1 ≤ n) (h2 : n ≤ 12) (hs : s < 2 ^ n) :
    Calls Try.prog 42 #[.int .i64 (n:Int), .int .i64 (s:Int)] w (FarPost w n s) := by
  have hp := pow_le n h2
  obtain ⟨i0, hi, hz0, hz1, hz2⟩ := info_parts Try.infoI
  go_enter Try.func42, Try.ntmps42
  go_wp2
  go_loopw [5, 6] (fun u v wr => ∃ k : Nat, k ≤ n ∧ wr.ownsRow w.heap.size 3 1 u k ((tabI k (fun _ => -1)).map (Value.int .i64)) ∧ v = .int .i64 (k : Int) ∧ Below w.heap.size w wr) (fun _ v _ => n - (intOf v).toNat)
  case atStart => exact ⟨0, Nat.zero_le _, World.ownsRow_made w #[] 0 (Nat.le_refl _) (by simp [maxLen]) rfl, rfl, (Below.refl _ _).alloc (Nat.le_refl _) _⟩
  case round =>
    obtain ⟨k, hk, hown, rfl, hB⟩ := hrel
    by_cases hlt : k < n
    · go_wp2_with (first | (at_builtin; refine wpList_append_own _ rfl _ _ 30 rfl w.heap.size 3 i0 (.int .i64 0) 1 8 Try.underlying30 hi hz0 hz1 hz2 rfl (by decide) _ _ _ rfl (hown.alloc _) ⟨wr.heap.size, 0, none⟩ 1 1 [.int .i64 (-1)] rfl rfl ?c1 ?c2 ?c3 ?c4 ?c5 ?_))
      case c1 =>
        intro j u hj
        cases j with
        | zero => simp at hj; subst hj; simp [Addr.add]
        | succ j => simp at hj
      case c2 => intro u hu; simp at hu; subst hu; rfl
      case c3 => unfold maxLen; omega
      case c4 => omega
      case c5 => have := hB.size; simp; omega
      · intro v' w1 hown' hgrow _
        have HO : Hid (w1.ownsRow w.heap.size 3 1 v' (k + 1) ((tabI (k + 1) (fun _ => -1)).map (Value.int .i64))) := Lib.hid (by rw [← ints_snoc]; exact hown')
        have HBw : Hid (Below w.heap.size w w1) := Lib.hid ((hB.alloc hB.size _).grown hgrow (by have := hB.size; simp; omega) (fun q eq => (hown.lt q eq).1))
        clear hown' hgrow hown
        go_wp2
        go_roundw
        case rel => exact ⟨k + 1, by omega, HO.out, by go_num, HBw.out⟩
        case measure => simp [intOf]; omega
    · have e : k = n := by omega
      subst e
      have hI := own_tab hown
      rcases hI.shape with ⟨rfl, h0⟩ | ⟨g, cap, hv, hg1, hg2, hg3⟩
      · exfalso
        have := congrArg List.length h0
        rw [tabI_len] at this
        simp at this
        omega
      have hlen := tabI_len k (fun _ => (-1 : Int))
      rw [hv] at hI
      have c1 := hI.cell (i := 0) (by rw [hlen]; omega)
      have f1 := hI.frozen 0
      rw [tabI_get k _ 0 h1] at c1
      have h3 := hI.set 0 0
      rw [tabI_set, tabI_len] at h3
      rw [hlen] at hv
      subst hv
      have e0 : tabI k (fun x => if x = 0 then 0 else -1) = tabI k (distTo k s 0) := tabI_congr _ _ _ fun x hx => by
        unfold distTo
        by_cases e : x = 0
        · subst e
          have : farN k s 0 = 0 := far_last k s 0 0 h1 h2 hs (show (1 : Nat).testBit 0 = true by decide)
          have hb : (iterN k s 0).testBit 0 = true := show (1 : Nat).testBit 0 = true by decide
          rw [if_pos rfl, this, if_pos hb]
          rfl
        · rw [if_neg e]
          have hb : (iterN k s 0).testBit x = false := Nat.testBit_lt_two_pow (Nat.one_lt_two_pow e)
          rw [hb]
          rfl
      rw [e0] at h3
      have HI := Lib.hid h3
      have hBs : Below w.heap.size w (wr.setCell ⟨g, 0, none⟩ (.int .i64 0)) := hB.setCell (p := ⟨g, 0, none⟩) hg1 _
      have HBs := Lib.hid hBs
      clear h3 hBs hown hI e0 hB hlen hg3
      have hgl : g < wr.heap.size := World.block_lt_of_cell? wr _ c1
      go_wp2
      obtain ⟨wa, hwa⟩ : ∃ wa, wr.setCell ⟨g, 0, none⟩ (.int .i64 0) = wa := ⟨_, rfl⟩
      have hsa : wa.heap.size = wr.heap.size := by rw [← hwa]; simp [World.setCell]
      have HI := Lib.hid (show IsInts wa w.heap.size (.slice (some ⟨g, 0, none⟩) k cap) (tabI k (distTo k s 0)) from hwa ▸ HI.out)
      have HBs := Lib.hid (show Below w.heap.size w wa from hwa ▸ HBs.out)
      try rw [hwa]
      clear hwa c1 f1
      go_loopw [7, 8, 9, 10] (fun m l d x wo => ∃ D : Nat, D ≤ k ∧ m = .int .i64 ((iterN k s D : Nat) : Int) ∧ l = .int .i64 ((lastN k s D : Nat) : Int) ∧ d = .int .i64 ((D : Int) + 1) ∧ IsInts wo w.heap.size (.slice (some ⟨g, 0, none⟩) k cap) (tabI k (distTo k s D)) ∧ Below w.heap.size w wo ∧ g < wo.heap.size) (fun _ _ d _ _ => k + 2 - (intOf d).toNat)
      case atStart => exact ⟨0, Nat.zero_le _, rfl, rfl, rfl, HI.out, HBs.out, by omega⟩
      case round =>
        obtain ⟨D, hD, rfl, rfl, rfl, hI, hB, hgo⟩ := hrel
        have HI := Lib.hid hI
        have HB := Lib.hid hB
        clear hI hB
        by_cases hl0 : lastN k s D = 0
        · have HE : Hid (tabI k (distTo k s D) = tabI k (distN k s)) := Lib.hid (by
            cases D with
            | zero => exact absurd (show (1 : Nat) = 0 from hl0) (by decide)
            | succ D => exact tabI_congr _ _ _ fun x hx => dist_end k s D x h1 h2 hs (by omega) hl0)
          rw [hl0]
          go_wp2
          go_ret
          exact ⟨g, cap, rfl, HB.out, by rw [← HE.out]; exact HI.out⟩
        · have hDn := last_le k s D h1 h2 hs hl0
          have hll := lastN_lt k s D h1
          have hil := iterN_lt k s D h1
          have hil2 := iterN_lt k s (D + 1) h1
          have hll2 := lastN_lt k s (D + 1) h1
          have hsl := sumN_lt k s (lastN k s D)
          have HS := Lib.hid (fun W => l1Sum_any k (lastN k s D) s W h1 h2 hll hs)
          have hle := less_nat (sumN k s (lastN k s D)) (iterN k s D) (by omega) (by omega)
          have hle' : bits .andNot .i64 ((sumN k s (lastN k s D) : Nat) : Int) ((iterN k s D : Nat) : Int) = ((lastN k s (D + 1) : Nat) : Int) := hle
          have hor := or_nat (iterN k s D) (lastN k s (D + 1)) (by omega) (by omega)
          rw [← iter_last k s D h1 hs] at hor
          have hlz : ((lastN k s D : Nat) : Int) ≠ 0 := by omega
          have hlz1 : (((lastN k s D : Nat) : Int) == 0) = false := by simp; omega
          have hlz2 : (((lastN k s D : Nat) : Int) != 0) = true := by simp; omega
          have HSt := Lib.hid (fun x => dist_step k s D x h1 h2 hs)
          clear hle
          have HI0 : Hid (IsInts wr w.heap.size (.slice (some ⟨g, 0, none⟩) k cap) (tabI k (fun x => if x < 0 then distTo k s (D + 1) x else distTo k s D x))) := Lib.hid (by
            rw [tabI_congr k (fun x => if x < 0 then distTo k s (D + 1) x else distTo k s D x) (distTo k s D) (fun x hx => if_neg (by omega))]
            exact HI.out)
          generalize hL : lastN k s D = L at *
          generalize hL1 : lastN k s (D + 1) = L1 at *
          generalize hM : iterN k s D = M at *
          generalize hM1 : iterN k s (D + 1) = M1 at *
          generalize sumN k s L = S at *
          have HL1 := Lib.hid hL1
          have HM1 := Lib.hid hM1
          clear hL hL1 hM hM1
          go_wp2_with (go_at_call 53; refine (HS.out _).mono ?_; rintro e w' ⟨rfl, rfl⟩)
          obtain ⟨wo, hwo⟩ : ∃ wo : World, wo = wr := ⟨_, rfl⟩
          go_loopw [10] (fun u wi => ∃ j : Nat, j ≤ k ∧ u = .int .i64 (j : Int) ∧ IsInts wi w.heap.size (.slice (some ⟨g, 0, none⟩) k cap) (tabI k (fun x => if x < j then distTo k s (D + 1) x else distTo k s D x)) ∧ Below w.heap.size w wi ∧ g < wi.heap.size) (fun u _ => k - (intOf u).toNat)
          case atStart => exact ⟨0, Nat.zero_le _, rfl, HI0.out, HB.out, hgo⟩
          case round =>
            obtain ⟨j, hj, rfl, hI2, hB2, hgi⟩ := hrel
            have HI2 := Lib.hid hI2
            have HB2 := Lib.hid hB2
            clear hI2 hB2
            by_cases hjk : j < k
            · have hbt := has_nat L1 j (by omega)
              have hStep := HSt.out j
              cases hbit : L1.testBit j
              · rw [hbit] at hbt hStep
                have HC : Hid (tabI k (fun x => if x < j then distTo k s (D + 1) x else distTo k s D x) = tabI k (fun x => if x < j + 1 then distTo k s (D + 1) x else distTo k s D x)) := Lib.hid (tabI_congr _ _ _ fun x hx => by
                  by_cases e : x = j
                  · subst e
                    rw [if_neg (by omega), if_pos (by omega), hStep]
                    rfl
                  · by_cases h : x < j
                    · rw [if_pos h, if_pos (by omega)]
                    · rw [if_neg h, if_neg (by omega)])
                clear hStep hbit
                go_wp2
                go_roundw
                case rel => exact ⟨j + 1, by omega, by go_num, by rw [← HC.out]; exact HI2.out, HB2.out, hgi⟩
                case measure => simp [intOf]; omega
              · rw [hbit] at hbt hStep
                have hlen := tabI_len k (fun x => if x < j then distTo k s (D + 1) x else distTo k s D x)
                have c1 := HI2.out.cell (i := j) (by rw [hlen]; exact hjk)
                have hI3 : IsInts wr w.heap.size (.slice (some ⟨g, 0, none⟩) (tabI k (fun x => if x < j then distTo k s (D + 1) x else distTo k s D x)).length cap) (tabI k (fun x => if x < j then distTo k s (D + 1) x else distTo k s D x)) := by rw [hlen]; exact HI2.out
                have f1 := hI3.frozen j
                have h3 := hI3.set j ((D : Int) + 1)
                rw [tabI_set, tabI_len] at h3
                have HC : Hid (tabI k (fun x => if x = j then (D : Int) + 1 else if x < j then distTo k s (D + 1) x else distTo k s D x) = tabI k (fun x => if x < j + 1 then distTo k s (D + 1) x else distTo k s D x)) := Lib.hid (tabI_congr _ _ _ fun x hx => by
                  by_cases e : x = j
                  · subst e
                    rw [if_pos rfl, if_pos (by omega), hStep]
                    simp
                  · rw [if_neg e]
                    by_cases h : x < j
                    · rw [if_pos h, if_pos (by omega)]
                    · rw [if_neg h, if_neg (by omega)])
                rw [HC.out] at h3
                have HI3 := Lib.hid h3
                have HB3 := Lib.hid (show Below w.heap.size w (wr.setCell ⟨g, j, none⟩ (.int .i64 ((D : Int) + 1))) from HB2.out.setCell (p := ⟨g, j, none⟩) hg1 _)
                have i1 : (0 : Int) ≤ (j : Int) := by omega
                have i2 : (j : Int) < (k : Int) := by omega
                generalize (tabI k (fun x => if x < j then distTo k s (D + 1) x else distTo k s D x)).getD j 0 = z at c1
                clear h3 hI3 hlen hStep hbit HC
                go_wp2
                go_roundw
                case rel => exact ⟨j + 1, by omega, by go_num, HI3.out, HB3.out, by simp [World.setCell]; exact hgi⟩
                case measure => simp [intOf]; omega
            · have e : j = k := by omega
              subst e
              have HC : Hid (tabI j (fun x => if x < j then distTo j s (D + 1) x else distTo j s D x) = tabI j (distTo j s (D + 1))) := Lib.hid (tabI_congr _ _ _ fun x hx => if_pos hx)
              go_wp2
              go_roundw
              case rel => exact ⟨D + 1, by omega, by rw [HM1.out], by rw [HL1.out], by go_num, by rw [← HC.out]; exact HI2.out, HB2.out, hgi⟩
              case measure => simp [intOf]; omega
end Go.Proofs.Ytjgpdmjfpcdklaa

/- The model's greatest distance, sum of distances and list, as others call them. -/
namespace Go.Proofs.Ytjgpdmjfpcdklaa
open Go.RowKit
set_option linter.unusedVariables false
/-- The greatest distance of the places below k. -/
def mostN (n s : Nat) (k : Nat) : Nat := upto (fun v x => max x (distN n s v).toNat) k 0
theorem most_le (n s k : Nat) : mostN n s k ≤ n := by
  induction k with
  | zero => exact Nat.zero_le _
  | succ k ih =>
    have := distN_range n s k
    show max (mostN n s k) (distN n s k).toNat ≤ n
    omega
/-- The sum of the distances of the places below k. -/
def farSumN (n s : Nat) (k : Nat) : Int := upto (fun v x => x + distN n s v) k 0
theorem farSum_range (n s k : Nat) (h2 : n ≤ 12) : -(k : Int) ≤ farSumN n s k ∧ farSumN n s k ≤ 12 * (k : Int) := by
  induction k with
  | zero => exact ⟨Int.le_refl _, Int.le_refl _⟩
  | succ k ih =>
    have := distN_range n s k
    show -((k + 1 : Nat) : Int) ≤ farSumN n s k + distN n s k ∧ farSumN n s k + distN n s k ≤ 12 * ((k + 1 : Nat) : Int)
    omega
def ListsPost (w : World) (n : Nat) (xs : List Int) (e : Ending) (w' : World) : Prop :=
  ∃ g cap, e = .returned (.tuple #[.slice (some ⟨g, 0, none⟩) n cap, .bool true]) ∧ Below w.heap.size w w' ∧ IsInts w' w.heap.size (.slice (some ⟨g, 0, none⟩) n cap) xs
def NonePost (w : World) (e : Ending) (w' : World) : Prop :=
  ∃ sv, e = .returned (.tuple #[sv, .bool false]) ∧ Below w.heap.size w w' ∧ IsInts w' w.heap.size sv []
end Go.Proofs.Ytjgpdmjfpcdklaa

/- The model's layers of distances. -/
namespace Go.Proofs.Ytjgpdmjfpcdklaa
open Go.RowKit
set_option linter.unusedVariables false
theorem grownBy_setAt (W : World) (b i : Nat) (v : Value) : W.grownBy (W.setCell ⟨b, i, none⟩ v) (some b) :=
  ⟨rfl, rfl, rfl, by simp [World.setCell], fun k _ hk => Below.heap_setCell _ _ _ k (fun e => hk (by rw [e]))⟩
theorem IsInts.aside {W : World} {b g cap len : Nat} {xs : List Int} (h : IsInts W b (.slice (some ⟨g, 0, none⟩) len cap) xs) {g' : Nat} (hne : g ≠ g') (i : Nat) (z : Value) : IsInts (W.setCell ⟨g', i, none⟩ z) b (.slice (some ⟨g, 0, none⟩) len cap) xs :=
  World.ownsRow.kept h (grownBy_setAt W g' i z) (.inr (by
    simp only [Value.ownBlock]
    intro e
    cases e
    exact hne rfl))
theorem most_ge (n s k v : Nat) (hv : v < k) : (distN n s v).toNat ≤ mostN n s k := by
  induction k with
  | zero => omega
  | succ k ih =>
    show _ ≤ max (mostN n s k) (distN n s k).toNat
    by_cases e : v = k
    · subst e; omega
    · have := ih (by omega)
      omega
/-- How many places below j have the distance d. -/
def layN (n s j d : Nat) : Nat := sumTo (fun v => b2n (distN n s v == (d : Int))) j
theorem lay_le (n s j d : Nat) : layN n s j d ≤ j := by
  induction j with
  | zero => exact Nat.le_refl _
  | succ j ih =>
    show layN n s j d + b2n (distN n s j == (d : Int)) ≤ j + 1
    have : b2n (distN n s j == (d : Int)) ≤ 1 := by unfold b2n; split <;> omega
    omega
theorem lay_skip (n s j : Nat) (h : distN n s j < 0) (d : Nat) : layN n s (j + 1) d = layN n s j d := by
  show layN n s j d + b2n (distN n s j == (d : Int)) = layN n s j d
  have e : (distN n s j == (d : Int)) = false := by simp; omega
  rw [e]
  rfl
theorem lay_step (n s j z : Nat) (h : distN n s j = (z : Int)) (d : Nat) : ((layN n s (j + 1) d : Nat) : Int) = if d = z then ((layN n s j z : Nat) : Int) + 1 else ((layN n s j d : Nat) : Int) := by
  show ((layN n s j d + b2n (distN n s j == (d : Int)) : Nat) : Int) = _
  by_cases e : d = z
  · subst e
    rw [h, if_pos rfl]
    simp [b2n]
  · have e' : (distN n s j == (d : Int)) = false := by rw [h]; simp; omega
    rw [e', if_neg e]
    simp [b2n]
theorem zeros_tab (n : Nat) : List.replicate n (0 : Int) = tabI n (fun _ => 0) := by
  refine List.ext_getElem (by simp [tabI]) fun k h1 h2 => ?_
  simp [tabI]
end Go.Proofs.Ytjgpdmjfpcdklaa

/- The model's turned distances and best steps. -/
namespace Go.Proofs.Ytjgpdmjfpcdklaa
open Go.RowKit
set_option linter.unusedVariables false
/-- What the places below j leave in the turned list. -/
def turnL (n s : Nat) (m : Int) : Nat → Nat → Int
  | 0, _ => 0
  | j + 1, x => if x = rest n (m * (j : Int)) then distN n s j else turnL n s m j x
/-- The best steps among the first j even sets, and how far they reach. -/
def bestS (n k s : Nat) (x : Nat × Nat) : Nat × Nat := if sizeN s = k ∧ partsN n s = 1 ∧ mostN n s n < x.2 then (s, mostN n s n) else x
def bestN (n k : Nat) (j : Nat) : Nat × Nat := upto (fun i x => bestS n k (2 * i + 2) x) j (0, n)
theorem best_step (n k j : Nat) : bestN n k (j + 1) = bestS n k (2 * j + 2) (bestN n k j) := by
  simp only [bestN, upto]
theorem best_range (n k j : Nat) (hj : 2 * j < 2 ^ n) : (bestN n k j).1 < 2 ^ n ∧ (bestN n k j).2 ≤ n := by
  induction j with
  | zero => exact ⟨Nat.two_pow_pos n, Nat.le_refl n⟩
  | succ j ih =>
    have h := ih (by omega)
    rw [best_step]
    unfold bestS
    split
    · exact ⟨by show 2 * j + 2 < 2 ^ n; omega, most_le n _ n⟩
    · exact h
theorem even_bit (j : Nat) : (2 * j + 2).testBit 0 = false := by
  rw [bit0]
  simp
end Go.Proofs.Ytjgpdmjfpcdklaa
