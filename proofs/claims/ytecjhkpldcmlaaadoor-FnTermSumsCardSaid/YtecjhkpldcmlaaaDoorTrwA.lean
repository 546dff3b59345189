/- Terms: the least place of a set; places as a term, one by one. -/
import Derived.Test.YtecjhkpldcmlaaaDoorTrmO
import Derived.Test.YtecjhkpldcmlaaaDoorTrmJ
import Derived.Test.YtecjhkpldcmlaaaDoorTrmE
import Derived.Test.YtecjhkpldcmlaaaDoorTrpM
namespace Go.Proofs.YtecjhkpldcmlaaaDoor
open Go.RowKit Go.Shelf
set_option linter.unusedVariables false
attribute [local go_sem] Oper.semAt_some
/-- The least place. -/
def tzN (s : Nat) : Nat := ((List.range 12).find? fun v => s.testBit v).getD 0
def tzOk (s : Nat) : Bool := s == 0 || (decide (tzN s < 12) && s.testBit (tzN s) && ((List.range 12).all fun i => decide (tzN s ≤ i) || !s.testBit i) && decide (placesL 12 s = tzN s :: placesL 12 (lessN s (2 ^ tzN s))) && decide (lessN s (2 ^ tzN s) < s) && (decide (s = 2 ^ tzN s) == decide (lessN s (2 ^ tzN s) = 0)))
theorem tz_all : ((List.range 4096).all tzOk) = true := by decide +kernel
theorem tz_facts (s : Nat) (h : s < 4096) (h0 : s ≠ 0) : tzN s < 12 ∧ s.testBit (tzN s) = true ∧ (∀ i, i < tzN s → s.testBit i = false) ∧ placesL 12 s = tzN s :: placesL 12 (lessN s (2 ^ tzN s)) ∧ lessN s (2 ^ tzN s) < s ∧ (s = 2 ^ tzN s ↔ lessN s (2 ^ tzN s) = 0) := by
  have h1 := List.all_eq_true.1 tz_all s (List.mem_range.2 h)
  unfold tzOk at h1
  rw [Bool.or_eq_true, beq_iff_eq] at h1
  have h2 := h1.resolve_left h0
  simp only [Bool.and_eq_true, decide_eq_true_eq, List.all_eq_true, List.mem_range, Bool.or_eq_true, beq_iff_eq] at h2
  obtain ⟨⟨⟨⟨⟨a, b⟩, c⟩, d⟩, e⟩, f⟩ := h2
  refine ⟨a, b, fun i hi => ?_, d, e, ?_⟩
  · rcases c i (by omega) with h | h
    · omega
    · simpa using h
  · by_cases hs : s = 2 ^ tzN s
    · rw [decide_eq_true hs] at f
      exact ⟨fun _ => of_decide_eq_true f.symm, fun _ => hs⟩
    · rw [decide_eq_false hs] at f
      exact ⟨fun h => absurd h hs, fun h => absurd h (of_decide_eq_false f.symm)⟩
/-- Places above the ring are none. -/
theorem places_ring (n s : Nat) (h2 : n ≤ 12) (hs : s < 2 ^ n) : placesL n s = placesL 12 s := by
  unfold placesL
  obtain ⟨d, hd⟩ : ∃ d, 12 = n + d := ⟨12 - n, by omega⟩
  rw [hd, List.range_add, List.filter_append]
  have : (List.map (fun x => n + x) (List.range d)).filter (fun v => s.testBit v) = [] := by
    rw [List.filter_eq_nil_iff]
    intro a ha
    obtain ⟨x, _, rfl⟩ := List.mem_map.1 ha
    rw [Nat.testBit_lt_two_pow (Nat.lt_of_lt_of_le hs (Nat.pow_le_pow_right (by omega) (Nat.le_add_right n x)))]
    simp
  rw [this, List.append_nil]
/-- The text of a set. -/
def setS (s : Nat) : Tm := placesT (placesL 12 s)
theorem setS_zero : setS 0 = .leaf 101 := by decide +kernel
theorem setS_one (s : Nat) (h : s < 4096) (h0 : s ≠ 0) (hl : lessN s (2 ^ tzN s) = 0) : setS s = .leaf (signB (tzN s)) := by
  obtain ⟨_, _, _, d, _, _⟩ := tz_facts s h h0
  unfold setS
  rw [d, hl]
  rfl
theorem setS_more (s : Nat) (h : s < 4096) (h0 : s ≠ 0) (hl : lessN s (2 ^ tzN s) ≠ 0) : setS s = .two 43 (.leaf (signB (tzN s))) (setS (lessN s (2 ^ tzN s))) := by
  obtain ⟨_, _, _, d, e, _⟩ := tz_facts s h h0
  obtain ⟨_, _, _, d2, _, _⟩ := tz_facts (lessN s (2 ^ tzN s)) (by omega) hl
  unfold setS
  rw [d, d2]
  rfl
theorem setS_len (s : Nat) : (showT (setS s)).length ≤ 49 := len_write 12 s (Nat.le_refl _)
theorem writeT_is (n s : Nat) (h2 : n ≤ 12) (hs : s < 2 ^ n) : writeT n s = setS s := by
  unfold writeT setS
  rw [places_ring n s h2 hs]
end Go.Proofs.YtecjhkpldcmlaaaDoor
