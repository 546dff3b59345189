/- Words: the laws' comparison of lists of texts. -/
import Derived.Test.YtgcfgegbbfbaaaaWrdY
namespace Go.Proofs.Ytgcfgegbbfbaaaa
open Go.RowKit Go.Shelf
set_option linter.unusedVariables false
theorem strs_shape {W : World} {b : Nat} {v : Value} {ss : List ByteArray} (h : IsStrs W b v ss) : (v = .slice none 0 0 ∧ ss = []) ∨ ∃ g cap, v = .slice (some ⟨g, 0, none⟩) ss.length cap ∧ b ≤ g ∧ g < W.heap.size ∧ ss.length ≤ maxLen := by
  rcases h.2 with ⟨a, c⟩ | ⟨g, cap, cur, rfl, h1, h2, h3, h4, _⟩
  · exact .inl ⟨a, List.eq_nil_of_length_eq_zero c⟩
  · exact .inr ⟨g, cap, rfl, h1, (World.ownsRow.lt h g rfl).2, Nat.le_trans h3 h4⟩
theorem strs_cell {W : World} {b g cap len : Nat} {ss : List ByteArray} (h : IsStrs W b (.slice (some ⟨g, 0, none⟩) len cap) ss) {i : Nat} (hi : i < ss.length) : W.cell? ⟨g, i, none⟩ = some (.string (ss.getD i ⟨#[]⟩)) := by
  have hx : (ss.map Value.string)[i]? = some (.string (ss.getD i ⟨#[]⟩)) := by
    rw [List.getElem?_map, List.getElem?_eq_getElem hi, List.getD_eq_getElem?_getD, List.getElem?_eq_getElem hi]; rfl
  have h2 := World.ownsRow.cells h (g := g) rfl i _ hx
  have hadd : (⟨g, 0, none⟩ : Addr).add i = ⟨g, i, none⟩ := by unfold Addr.add; split <;> simp_all
  rw [hadd] at h2
  exact h2
theorem eqStrs_any (sa sb : Value) (xs : List ByteArray) (w : World) (ba bb : Nat) (ha : IsStrs w ba sa xs) (hb : IsStrs w bb sb xs) :
    Calls Try.prog 21 #[sa, sb] w fun e w' => e = .returned (.bool true) ∧ Below w.heap.size w w' := by
  by_cases hx : xs = []
  · subst hx
    rcases strs_shape ha with ⟨rfl, _⟩ | ⟨g, cap, rfl, hg1, hg2, hg3⟩ <;> rcases strs_shape hb with ⟨rfl, _⟩ | ⟨g', cap', rfl, hg1', hg2', hg3'⟩
    all_goals
      clear ha hb
      (try simp only [List.length_nil])
      go_enter Try.func21, Try.ntmps21
      go_wp2
      go_loopw [5] (fun u wr => u = .int .i64 0 ∧ wr = w) (fun _ _ => 0)
      case atStart => exact ⟨rfl, rfl⟩
      case round =>
        obtain ⟨rfl, rfl⟩ := hrel
        go_wp2
        go_ret
        exact ⟨rfl, Below.refl _ _⟩
  · rcases strs_shape ha with ⟨rfl, h0⟩ | ⟨g, cap, rfl, hg1, hg2, hg3⟩
    · exact absurd h0 hx
    · rcases strs_shape hb with ⟨rfl, h0⟩ | ⟨g', cap', rfl, hg1', hg2', hg3'⟩
      · exact absurd h0 hx
      · unfold maxLen at hg3
        have HA := Lib.hid ha
        have HB := Lib.hid hb
        clear ha hb hg3' hx
        go_enter Try.func21, Try.ntmps21
        go_wp2
        go_loopw [5] (fun u wr => ∃ k : Nat, k ≤ xs.length ∧ u = .int .i64 (k : Int) ∧ Below w.heap.size w wr) (fun u _ => xs.length - (intOf u).toNat)
        case atStart => exact ⟨0, Nat.zero_le _, rfl, Below.refl _ _⟩
        case round =>
          obtain ⟨k, hk, rfl, hB⟩ := hrel
          by_cases hlt : k < xs.length
          · have c1 := (hB.cell (p := ⟨g, k, none⟩) hg2).trans (strs_cell HA.out hlt)
            have c2 := (hB.cell (p := ⟨g', k, none⟩) hg2').trans (strs_cell HB.out hlt)
            have i1 : (0 : Int) ≤ (k : Int) := by omega
            have i2 : (k : Int) < (xs.length : Int) := by omega
            generalize xs.getD k ⟨#[]⟩ = z at c1 c2
            go_wp2
            go_quiet (fail)
            go_wp2
            go_roundw
            case rel => exact ⟨k + 1, by omega, by go_num, below_drewN hB _⟩
            case measure => simp [intOf]; omega
          · have e : k = xs.length := by omega
            subst e
            go_wp2
            go_ret
            exact ⟨rfl, hB⟩
end Go.Proofs.Ytgcfgegbbfbaaaa
