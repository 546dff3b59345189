/- RingClasses: the program and the model. -/
import Derived.Test.YtaklmepioeoohaaGL
import Derived.Test.YtaklmepioeoohaaWrapB
import Derived.Test.YtaklmepioeoohaaGB
import Derived.Test.YtaklmepioeoohaaGA
import Derived.Test.YtaklmepioeoohaaLaw1
import Derived.Laws.OwnMore
import Derived.Laws.MakeOwn
namespace Go.Proofs.Ytaklmepioeoohaa
open Go.RowKit Go.Shelf
set_option linter.unusedVariables false
/-- How many sets below k are the first ones of their classes. -/
def cntF (n k : Nat) : Nat := upto (fun s c => if firstN n s = s then c + 1 else c) k 0
theorem cntF_yes (n k : Nat) (h : firstN n k = k) : cntF n (k + 1) = cntF n k + 1 := by simp [cntF, upto, h]
theorem cntF_no (n k : Nat) (h : ¬ firstN n k = k) : cntF n (k + 1) = cntF n k := by simp [cntF, upto, h]
theorem cntF_le (n k : Nat) : cntF n k ≤ k := by
  induction k with
  | zero => exact Nat.le_refl _
  | succ k ih =>
    by_cases h : firstN n k = k
    · rw [cntF_yes n k h]; omega
    · rw [cntF_no n k h]; omega
/-- The sets that are marked when those below s have been asked. -/
def metF (n s : Nat) : Nat → Bool := fun x => decide (firstN n x < s)
def oneF (n s m k : Nat) (f : Nat → Bool) : Nat → Bool := fun x => f x || x == act n s (m : Int) (k : Int)
def rowF (n s m : Nat) (f : Nat → Bool) (k : Nat) : Nat → Bool := upto (oneF n s m) k f
def unitF (n s : Nat) (f : Nat → Bool) (m : Nat) : Nat → Bool := overSet (unitsN n) (fun m f => rowF n s m f n) m f
theorem rowF_iff (n s m : Nat) (f : Nat → Bool) (k x : Nat) : rowF n s m f k x = true ↔ f x = true ∨ ∃ l, l < k ∧ x = act n s (m : Int) (l : Int) := by
  induction k with
  | zero => simp [rowF, upto]
  | succ k ih =>
    have e : rowF n s m f (k + 1) x = (rowF n s m f k x || x == act n s (m : Int) (k : Int)) := rfl
    rw [e, Bool.or_eq_true, ih]
    constructor
    · rintro ((h | ⟨l, hl, h⟩) | h)
      · exact .inl h
      · exact .inr ⟨l, by omega, h⟩
      · exact .inr ⟨k, by omega, eq_of_beq h⟩
    · rintro (h | ⟨l, hl, h⟩)
      · exact .inl (.inl h)
      · by_cases e : l = k
        · subst e; exact .inr (by simpa using h)
        · exact .inl (.inr ⟨l, by omega, h⟩)
theorem unitF_iff (n s : Nat) (f : Nat → Bool) (m x : Nat) : unitF n s f m x = true ↔ f x = true ∨ ∃ u l, u < m ∧ (unitsN n).testBit u = true ∧ l < n ∧ x = act n s (u : Int) (l : Int) := by
  induction m with
  | zero => simp [unitF, overSet, upto]
  | succ m ih =>
    have e : unitF n s f (m + 1) = if (unitsN n).testBit m then rowF n s m (unitF n s f m) n else unitF n s f m := rfl
    rw [e]
    by_cases hb : (unitsN n).testBit m = true
    · rw [if_pos hb, rowF_iff, ih]
      constructor
      · rintro ((h | ⟨u, l, h1, h2, h3, h4⟩) | ⟨l, hl, h⟩)
        · exact .inl h
        · exact .inr ⟨u, l, by omega, h2, h3, h4⟩
        · exact .inr ⟨m, l, by omega, hb, hl, h⟩
      · rintro (h | ⟨u, l, h1, h2, h3, h4⟩)
        · exact .inl (.inl h)
        · by_cases e : u = m
          · subst e; exact .inr ⟨l, h3, h4⟩
          · exact .inl (.inr ⟨u, l, by omega, h2, h3, h4⟩)
    · rw [if_neg hb, ih]
      constructor
      · rintro (h | ⟨u, l, h1, h2, h3, h4⟩)
        · exact .inl h
        · exact .inr ⟨u, l, by omega, h2, h3, h4⟩
      · rintro (h | ⟨u, l, h1, h2, h3, h4⟩)
        · exact .inl h
        · by_cases e : u = m
          · subst e; exact absurd h2 hb
          · exact .inr ⟨u, l, by omega, h2, h3, h4⟩
theorem met_step (n s : Nat) (h1 : 1 ≤ n) (h2 : n ≤ 12) (hs : s < 2 ^ n) (hf : firstN n s = s) (x : Nat) (hx : x < 2 ^ n) : unitF n s (metF n s) n x = metF n (s + 1) x := by
  rw [Bool.eq_iff_iff, unitF_iff]
  unfold metF
  simp only [decide_eq_true_eq]
  have ho := orbit_iff n s x h1 h2 hs hx hf
  constructor
  · rintro (h | ⟨u, l, h3, h4, h5, h6⟩)
    · omega
    · have := ho.2 ⟨u, l, h3, ((unitsN_bit n u).1 h4).2, h5, h6.symm⟩
      omega
  · intro h
    by_cases e : firstN n x = s
    · obtain ⟨u, l, h3, h4, h5, h6⟩ := ho.1 e
      exact .inr ⟨u, l, h3, (unitsN_bit n u).2 ⟨h3, h4⟩, h5, h6.symm⟩
    · exact .inl (by omega)
theorem met_skip (n s : Nat) (h1 : 1 ≤ n) (h2 : n ≤ 12) (hs : s < 2 ^ n) (hf : ¬ firstN n s = s) (x : Nat) (hx : x < 2 ^ n) : metF n s x = metF n (s + 1) x := by
  unfold metF
  rw [Bool.eq_iff_iff]
  simp only [decide_eq_true_eq]
  constructor
  · intro h; omega
  · intro h
    by_cases e : firstN n x = s
    · exact absurd (by rw [← e]; exact first_first n x h1 h2 hx) hf
    · omega
theorem met_self (n s : Nat) (h1 : 1 ≤ n) (hs : s < 2 ^ n) : metF n s s = !decide (firstN n s = s) := by
  have := first_self_le n s h1 hs
  unfold metF
  rw [Bool.eq_iff_iff]
  simp
  omega
/-- A table of bools. -/
def tab (N : Nat) (f : Nat → Bool) : List Value := (List.range N).map (fun x => Value.bool (f x))
theorem tab_len (N : Nat) (f : Nat → Bool) : (tab N f).length = N := by simp [tab]
theorem tab_get (N : Nat) (f : Nat → Bool) (i : Nat) (hi : i < N) : (tab N f)[i]? = some (.bool (f i)) := by simp [tab, hi]
theorem tab_set (N : Nat) (f : Nat → Bool) (i : Nat) : (tab N f).set i (.bool true) = tab N (fun x => f x || x == i) := by
  refine List.ext_getElem? fun j => ?_
  rw [List.getElem?_set]
  by_cases e : i = j
  · subst e
    by_cases h : i < N
    · simp [tab, h]
    · simp [tab, h]
  · rw [if_neg e]
    by_cases h : j < N
    · rw [tab_get N f j h, tab_get N _ j h]
      have : (j == i) = false := by simp; omega
      simp [this]
    · simp [tab, h]
theorem tab_congr (N : Nat) (f g : Nat → Bool) (h : ∀ x, x < N → f x = g x) : tab N f = tab N g := by
  refine List.ext_getElem? fun j => ?_
  by_cases hj : j < N
  · rw [tab_get N f j hj, tab_get N g j hj, h j hj]
  · simp [tab, hj]
def IsTab (W : World) (b : Nat) (g N : Nat) (f : Nat → Bool) : Prop := W.ownsRow b 4 1 (.slice (some ⟨g, 0, none⟩) N N) N (tab N f)
theorem IsTab.cell {W : World} {b g N : Nat} {f : Nat → Bool} (h : IsTab W b g N f) {i : Nat} (hi : i < N) : W.cell? ⟨g, i, none⟩ = some (.bool (f i)) := by
  have h2 := World.ownsRow.cells h (g := g) rfl i _ (tab_get N f i hi)
  have hadd : (⟨g, 0, none⟩ : Addr).add i = ⟨g, i, none⟩ := by unfold Addr.add; split <;> simp_all
  rw [hadd] at h2
  exact h2
theorem IsTab.frozen {W : World} {b g N : Nat} {f : Nat → Bool} (h : IsTab W b g N f) (i : Nat) : W.frozen? ⟨g, i, none⟩ = false := World.ownsRow.frozenAt h i
theorem IsTab.set {W : World} {b g N : Nat} {f : Nat → Bool} (h : IsTab W b g N f) (i : Nat) : IsTab (W.setCell ⟨g, i, none⟩ (.bool true)) b g N (fun x => f x || x == i) := by
  have h3 := (World.ownsRow.stored h i (.bool true)).1
  rw [tab_set] at h3
  exact h3
theorem IsTab.congr {W : World} {b g N : Nat} {f h : Nat → Bool} (ht : IsTab W b g N f) (e : ∀ x, x < N → f x = h x) : IsTab W b g N h := by
  unfold IsTab at *
  rw [← tab_congr N f h e]
  exact ht
theorem Try.infoBool : (Try.prog.info? 4).map (fun i => (i.zero, i.size, i.bytes)) = some (some (.bool false), 1, 1) := by kernel_rfl
theorem make_tab (N : Nat) (hn : N ≤ 4096) (w : World) :
    (Instr.makeSlice 75 (.int .i64 (N:Int)) (.int .i64 (N:Int))).run Try.prog w = .ok (.slice (some ⟨w.heap.size, 0, none⟩) N N) (w.alloc (.cells (madeCells #[.bool false] N) 4)) := by
  obtain ⟨i0, hi, hz0, hz1, hz2⟩ := info_parts Try.infoBool
  have h := run_make (P := Try.prog) w 75 4 i0 _ Try.underlying75 hi hz0 .i64 .i64 (N:Int) (N:Int) (by omega) (Int.le_refl _) (by rw [hz2]; omega) (by omega)
  simp only [hz1, Nat.mul_one, Int.toNat_natCast] at h
  exact h
theorem made_tab (N : Nat) (hn : N ≤ 4096) (w : World) : IsTab (w.alloc (.cells (madeCells #[.bool false] N) 4)) w.heap.size w.heap.size N (fun _ => false) := by
  have h := World.ownsRow_lit (base := w.heap.size) (e := 4) (size := 1) w (madeCells #[.bool false] N) N (Nat.le_refl _) (by unfold maxLen; omega) (by simpa using size_madeCells #[Value.bool false] N)
  have e : tab N (fun _ => false) = (madeCells #[Value.bool false] N).toList := by
    rw [toList_madeCells_one]
    refine List.ext_getElem? fun j => ?_
    by_cases hj : j < N
    · rw [tab_get N _ j hj]; simp [hj]
    · simp [tab, hj]
  unfold IsTab
  rw [e]
  exact h
end Go.Proofs.Ytaklmepioeoohaa
