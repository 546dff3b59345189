/- Lists of integers that a call has made: what the laws ask of them (eqIntS, markIntS, heldIntS). -/
import Derived.Test.YtfecjafnobgknaaLeaf
import Derived.Laws.OwnMore
import Derived.Laws.MakeOwn
import Derived.WalkSpells
namespace Go.Proofs.Ytfecjafnobgknaa
open Go.RowKit
set_option linter.unusedVariables false
/-- v reads as the list xs, in memory from block b on. -/
def IsInts (W : World) (b : Nat) (v : Value) (xs : List Int) : Prop := W.ownsRow b 3 1 v xs.length (xs.map (Value.int .i64))
/-- The block of a list that is not empty. -/
theorem IsInts.shape {W : World} {b : Nat} {v : Value} {xs : List Int} (h : IsInts W b v xs) : (v = .slice none 0 0 ∧ xs = []) ∨ ∃ g cap, v = .slice (some ⟨g, 0, none⟩) xs.length cap ∧ b ≤ g ∧ g < W.heap.size ∧ xs.length ≤ maxLen := by
  obtain ⟨h1, h2⟩ := h
  rcases h2 with ⟨h3, h4⟩ | ⟨g, cap, cur, h3, h4, h5, h6, h7, h8, h9⟩
  · exact .inl ⟨h3, List.eq_nil_of_length_eq_zero h4⟩
  · exact .inr ⟨g, cap, h3, h4, (Array.getElem?_eq_some_iff.1 h5).1, Nat.le_trans h6 h7⟩
theorem IsInts.cell {W : World} {b g cap len : Nat} {xs : List Int} (h : IsInts W b (.slice (some ⟨g, 0, none⟩) len cap) xs) {i : Nat} (hi : i < xs.length) : W.cell? ⟨g, i, none⟩ = some (.int .i64 (xs.getD i 0)) := by
  have hx : (xs.map (Value.int .i64))[i]? = some (.int .i64 (xs.getD i 0)) := by
    rw [List.getElem?_map, List.getElem?_eq_getElem hi, List.getD_eq_getElem?_getD, List.getElem?_eq_getElem hi]; rfl
  have h2 := World.ownsRow.cells h (g := g) rfl i _ hx
  have hadd : (⟨g, 0, none⟩ : Addr).add i = ⟨g, i, none⟩ := by unfold Addr.add; split <;> simp_all
  rw [hadd] at h2
  exact h2
theorem IsInts.frozen {W : World} {b g cap : Nat} {xs : List Int} (h : IsInts W b (.slice (some ⟨g, 0, none⟩) xs.length cap) xs) (i : Nat) : W.frozen? ⟨g, i, none⟩ = false := World.ownsRow.frozenAt h i
theorem IsInts.set {W : World} {b g cap : Nat} {xs : List Int} (h : IsInts W b (.slice (some ⟨g, 0, none⟩) xs.length cap) xs) (i : Nat) (z : Int) :
    IsInts (W.setCell ⟨g, i, none⟩ (.int .i64 z)) b (.slice (some ⟨g, 0, none⟩) (xs.set i z).length cap) (xs.set i z) := by
  have := (World.ownsRow.stored h i (.int .i64 z)).1
  unfold IsInts
  rw [List.length_set, List.map_set]
  exact this
theorem IsInts.below {W W' : World} {b : Nat} {v : Value} {xs : List Int} (h : IsInts W b v xs) {N : Nat} (hN : ∀ g, v.ownBlock = some g → g < N) (hb : Below N W W') : IsInts W' b v xs := by
  refine ⟨h.1, ?_⟩
  rcases h.2 with hn | ⟨g, cap, cur, rfl, h1, hgg, rest⟩
  · exact .inl hn
  · exact .inr ⟨g, cap, cur, rfl, h1, (hb.block g (hN g rfl)).trans hgg, rest⟩
theorem IsInts.belowAll {W W' : World} {b : Nat} {v : Value} {xs : List Int} (h : IsInts W b v xs) (hb : Below W.heap.size W W') : IsInts W' b v xs :=
  h.below (fun g hg => (World.ownsRow.lt h g hg).2) hb
theorem IsInts.base {W : World} {b b' : Nat} {v : Value} {xs : List Int} (h : IsInts W b v xs) (hb : b' ≤ b) : IsInts W b' v xs := by
  refine ⟨h.1, ?_⟩
  rcases h.2 with hn | ⟨g, cap, cur, rfl, h1, rest⟩
  · exact .inl hn
  · exact .inr ⟨g, cap, cur, rfl, by omega, rest⟩
theorem isInts_nil (W : World) (b : Nat) : IsInts W b (.slice none 0 0) [] := World.ownsRow_nil W b _ _
theorem IsInts.fresh {W : World} {v : Value} {xs : List Int} {b c : Nat} (h : IsInts W b v xs) (hc : ∀ g, v.ownBlock = some g → c ≤ g) : IsInts W c v xs := by
  refine ⟨h.1, ?_⟩
  rcases h.2 with hn | ⟨g, cap, cur, rfl, h1, rest⟩
  · exact .inl hn
  · exact .inr ⟨g, cap, cur, rfl, hc g rfl, rest⟩
/-- The last way of an empty list: the loop is left at once. -/
theorem eqInts_any (sa sb : Value) (xs : List Int) (w : World) (ba bb : Nat) (ha : IsInts w ba sa xs) (hb : IsInts w bb sb xs) :
    Calls Try.prog 25 #[sa, sb] w fun e w' => e = .returned (.bool true) ∧ Below w.heap.size w w' := by
  by_cases hx : xs = []
  · subst hx
    rcases ha.shape with ⟨rfl, _⟩ | ⟨g, cap, rfl, hg1, hg2, hg3⟩ <;> rcases hb.shape with ⟨rfl, _⟩ | ⟨g', cap', rfl, hg1', hg2', hg3'⟩
    all_goals
      clear ha hb
      (try simp only [List.length_nil])
      go_enter Try.func25, Try.ntmps25
      go_wp2
      go_loopw [5] (fun u wr => u = .int .i64 0 ∧ wr = w) (fun _ _ => 0)
      case atStart => exact ⟨rfl, rfl⟩
      case round =>
        obtain ⟨rfl, rfl⟩ := hrel
        go_wp2
        go_ret
        exact ⟨rfl, Below.refl _ _⟩
  · rcases ha.shape with ⟨rfl, h0⟩ | ⟨g, cap, rfl, hg1, hg2, hg3⟩
    · exact absurd h0 hx
    · rcases hb.shape with ⟨rfl, h0⟩ | ⟨g', cap', rfl, hg1', hg2', hg3'⟩
      · exact absurd h0 hx
      · unfold maxLen at hg3
        have HA := Lib.hid ha
        have HB := Lib.hid hb
        clear ha hb hg3' hx
        go_enter Try.func25, Try.ntmps25
        go_wp2
        go_loopw [5] (fun u wr => ∃ k : Nat, k ≤ xs.length ∧ u = .int .i64 (k : Int) ∧ Below w.heap.size w wr) (fun u _ => xs.length - (intOf u).toNat)
        case atStart => exact ⟨0, Nat.zero_le _, rfl, Below.refl _ _⟩
        case round =>
          obtain ⟨k, hk, rfl, hB⟩ := hrel
          by_cases hlt : k < xs.length
          · have c1 := (hB.cell (p := ⟨g, k, none⟩) hg2).trans (HA.out.cell hlt)
            have c2 := (hB.cell (p := ⟨g', k, none⟩) hg2').trans (HB.out.cell hlt)
            have i1 : (0 : Int) ≤ (k : Int) := by omega
            have i2 : (k : Int) < (xs.length : Int) := by omega
            generalize xs.getD k 0 = z at c1 c2
            go_wp2
            go_quiet (fail)
            go_wp2
            go_roundw
            case rel => exact ⟨k + 1, by omega, by go_num, below_drewN hB _⟩
            case measure => simp [intOf]; omega
          · have e : k = xs.length := by omega
            subst e
            go_wp2
            go_ret
            exact ⟨rfl, hB⟩
/-- The numbers from k on. -/
def marks (k : Int) (n : Nat) : List Int := (List.range n).map (fun i : Nat => k + (i : Int))
theorem marks_len (k : Int) (n : Nat) : (marks k n).length = n := by simp [marks]
theorem marks_get (k : Int) (n i : Nat) (hi : i < n) : (marks k n).getD i 0 = k + (i : Int) := by
  simp [marks, List.getD_eq_getElem?_getD, hi]
/-- A list of which the first j have been marked. -/
def marked (k : Int) (xs : List Int) (j : Nat) : List Int := marks k j ++ xs.drop j
theorem marked_len (k : Int) (xs : List Int) (j : Nat) (hj : j ≤ xs.length) : (marked k xs j).length = xs.length := by simp [marked, marks]; omega
theorem marked_set (k : Int) (xs : List Int) (j : Nat) (hj : j < xs.length) : (marked k xs j).set j (k + (j : Int)) = marked k xs (j + 1) := by
  unfold marked
  have hl := marks_len k j
  rw [List.set_append_right _ _ (by omega), hl, Nat.sub_self, List.drop_eq_getElem_cons hj, List.set_cons_zero]
  simp [marks, List.range_succ]
theorem marked_end (k : Int) (xs : List Int) : marked k xs xs.length = marks k xs.length := by simp [marked]
/-- What marking leaves. -/
def MarkPost (w : World) (b : Nat) (sa : Value) (k : Int) (n : Nat) (e : Ending) (w' : World) : Prop :=
  e = .returned (.int .i64 (k + (n : Int))) ∧ IsInts w' b sa (marks k n) ∧ w.grownBy w' sa.ownBlock
theorem markInts_any (sa : Value) (xs : List Int) (w : World) (b : Nat) (k : Int) (ha : IsInts w b sa xs) (hk0 : 0 ≤ k) (hk1 : k ≤ 1000000) (hl : xs.length ≤ 1000000) :
    Calls Try.prog 26 #[sa, .int .i64 k] w (MarkPost w b sa k xs.length) := by
  by_cases hx : xs = []
  · subst hx
    have HM : Hid (marks k 0 = []) := Lib.hid rfl
    have HA := Lib.hid ha
    rcases ha.shape with ⟨rfl, _⟩ | ⟨g, cap, rfl, hg1, hg2, hg3⟩
    all_goals
      clear ha
      (try simp only [List.length_nil] at *)
      go_enter Try.func26, Try.ntmps26
      go_wp2
      go_loopw [5, 1] (fun u v wr => u = .int .i64 0 ∧ v = .int .i64 k ∧ wr = w) (fun _ _ _ => 0)
      case atStart => exact ⟨rfl, rfl, rfl⟩
      case round =>
        obtain ⟨rfl, rfl, rfl⟩ := hrel
        go_wp2
        go_ret
        exact ⟨ret_int (by simp), by rw [HM.out]; exact HA.out, ⟨rfl, rfl, rfl, Nat.le_refl _, fun _ _ _ => rfl⟩⟩
  · rcases ha.shape with ⟨rfl, h0⟩ | ⟨g, cap, rfl, hg1, hg2, hg3⟩
    · exact absurd h0 hx
    · have HA := Lib.hid ha
      clear ha hg3 hx
      have HL := Lib.hid (fun (j : Nat) (hj : j ≤ xs.length) => marked_len k xs j hj)
      go_enter Try.func26, Try.ntmps26
      go_wp2
      go_loopw [5, 1] (fun u v wr => ∃ j : Nat, j ≤ xs.length ∧ u = .int .i64 (j : Int) ∧ v = .int .i64 (k + (j : Int)) ∧ IsInts wr b (.slice (some ⟨g, 0, none⟩) xs.length cap) (marked k xs j) ∧ w.grownBy wr (some g)) (fun u _ _ => xs.length - (intOf u).toNat)
      case atStart => exact ⟨0, Nat.zero_le _, rfl, by go_num, by simpa [marked, marks] using HA.out, ⟨rfl, rfl, rfl, Nat.le_refl _, fun _ _ _ => rfl⟩⟩
      case round =>
        obtain ⟨j, hj, rfl, rfl, hI, hG⟩ := hrel
        by_cases hlt : j < xs.length
        · have hI' : IsInts wr b (.slice (some ⟨g, 0, none⟩) (marked k xs j).length cap) (marked k xs j) := by rw [HL.out j hj]; exact hI
          have HI := Lib.hid hI'
          have c1 := hI'.cell (i := j) (by rw [HL.out j hj]; exact hlt)
          have f1 := hI'.frozen j
          have i1 : (0 : Int) ≤ (j : Int) := by omega
          have i2 : (j : Int) < (xs.length : Int) := by omega
          have HSet := Lib.hid (marked_set k xs j hlt)
          clear hI hI'
          generalize (marked k xs j).getD j 0 = z at c1
          go_wp2
          go_roundw
          case rel =>
            refine ⟨j + 1, by omega, by go_num, by go_num, ?_, ?_⟩
            · have h3 := HI.out.set j (k + (j : Int))
              rw [HSet.out, HL.out (j + 1) (by omega)] at h3
              exact h3
            · have h4 := (World.ownsRow.stored HI.out j (.int .i64 (k + (j : Int)))).2
              exact ⟨h4.os.trans hG.os, h4.tape.trans hG.tape, h4.output.trans hG.output, Nat.le_trans hG.size h4.size, fun q hq hne => (h4.block q (Nat.lt_of_lt_of_le hq hG.size) hne).trans (hG.block q hq hne)⟩
          case measure => simp [intOf]; omega
        · have e : j = xs.length := by omega
          subst e
          have HI := Lib.hid hI
          clear hI
          go_wp2
          go_ret
          refine ⟨rfl, ?_, hG⟩
          have h3 := HI.out
          rw [marked_end] at h3
          exact h3
theorem heldInts_any (sa : Value) (n : Nat) (w : World) (b : Nat) (k : Int) (ha : IsInts w b sa (marks k n)) (hk0 : 0 ≤ k) (hk1 : k ≤ 1000000) (hl : n ≤ 1000000) :
    Calls Try.prog 27 #[sa, .int .i64 k] w fun e w' => e = .returned (.int .i64 (k + (n : Int))) ∧ w = w' := by
  have HL := Lib.hid (marks_len k n)
  rcases ha.shape with ⟨rfl, h0⟩ | ⟨g, cap, rfl, hg1, hg2, hg3⟩
  · have hn : n = 0 := by have := HL.out; rw [h0] at this; simpa using this.symm
    subst hn
    clear ha h0
    go_enter Try.func27, Try.ntmps27
    go_wp2
    go_loop [5, 1] (fun u v => u = .int .i64 0 ∧ v = .int .i64 k) (fun _ _ => 0)
    case atStart => exact ⟨rfl, rfl⟩
    case round =>
      obtain ⟨rfl, rfl⟩ := hrel
      go_wp2
      go_ret
      exact ⟨ret_int (by simp), rfl⟩
  · have HA := Lib.hid ha
    clear ha hg3
    rw [HL.out]
    go_enter Try.func27, Try.ntmps27
    go_wp2
    go_loop [5, 1] (fun u v => ∃ j : Nat, j ≤ n ∧ u = .int .i64 (j : Int) ∧ v = .int .i64 (k + (j : Int))) (fun u _ => n - (intOf u).toNat)
    case atStart => exact ⟨0, Nat.zero_le _, rfl, by go_num⟩
    case round =>
      obtain ⟨j, hj, rfl, rfl⟩ := hrel
      by_cases hlt : j < n
      · have c1 := HA.out.cell (i := j) (by rw [HL.out]; exact hlt)
        rw [marks_get k n j hlt] at c1
        have i1 : (0 : Int) ≤ (j : Int) := by omega
        have i2 : (j : Int) < (n : Int) := by omega
        go_wp2
        go_round
        case rel => exact ⟨j + 1, by omega, by go_num, by go_num⟩
        case measure => simp [intOf]; omega
      · have e : j = n := by omega
        subst e
        go_wp2
        go_ret
        exact ⟨rfl, rfl⟩
end Go.Proofs.Ytfecjafnobgknaa
