/- Rows of rows: what memory holds of them. -/
import Derived.Test.YtookciehnjnmnaaArr
import Derived.Deep.OwnRows
namespace Go.Proofs.Ytookciehnjnmnaa
open Go.RowKit
set_option linter.unusedVariables false
/-- Block g holds t places for rows; the first k of them are rows of m numbers, row i in block G i. -/
structure Grid (W : World) (N g k m t : Nat) (G C : Nat → Nat) (M : Nat → Nat → Int) : Prop where
  room : ∀ i, i < t → (W.cell? ⟨g, i, none⟩).isSome = true ∧ W.frozen? ⟨g, i, none⟩ = false
  le : k ≤ t
  outer : ∀ i, i < k → W.cell? ⟨g, i, none⟩ = some (.slice (some ⟨G i, 0, none⟩) m (C i))
  inner : ∀ i j, i < k → j < m → W.cell? ⟨G i, j, none⟩ = some (.int .i64 (M i j))
  froz : ∀ i j, i < k → j < m → W.frozen? ⟨G i, j, none⟩ = false
  base : N ≤ g
  baseG : ∀ i, i < k → N ≤ G i
  ne : ∀ i, i < k → G i ≠ g
  inj : ∀ i j, i < k → j < k → G i = G j → i = j
namespace Grid
variable {W W' : World} {N g k m t : Nat} {G C : Nat → Nat} {M M' : Nat → Nat → Int}
theorem congr (h : Grid W N g k m t G C M) (e : ∀ i j, i < k → j < m → M i j = M' i j) : Grid W N g k m t G C M' :=
  ⟨h.room, h.le, h.outer, fun i j hi hj => by rw [← e i j hi hj]; exact h.inner i j hi hj, h.froz, h.base, h.baseG, h.ne, h.inj⟩
theorem mono (h : Grid W N g k m t G C M) {N' : Nat} (hN : N' ≤ N) : Grid W N' g k m t G C M :=
  ⟨h.room, h.le, h.outer, h.inner, h.froz, Nat.le_trans hN h.base, fun i hi => Nat.le_trans hN (h.baseG i hi), h.ne, h.inj⟩
theorem lt (h : Grid W N g k m t G C M) (i : Nat) (hi : i < k) (hm : 0 < m) : G i < W.heap.size := World.block_lt_of_cell? W _ (h.inner i 0 hi hm)
theorem ltg (h : Grid W N g k m t G C M) (ht : 0 < t) : g < W.heap.size := by
  obtain ⟨v, hv⟩ := Option.isSome_iff_exists.1 (h.room 0 ht).1
  exact World.block_lt_of_cell? W _ hv
/-- Nothing that the rows lie in has turned. -/
theorem same (h : Grid W N g k m t G C M) (hg : 0 < t → W'.heap[g]? = W.heap[g]?) (hr : ∀ i, i < k → 0 < m → W'.heap[G i]? = W.heap[G i]?) : Grid W' N g k m t G C M :=
  ⟨fun i hi => ⟨by rw [World.cell?_of_block (w := W) (hg (by omega))]; exact (h.room i hi).1, by rw [World.frozen?_of_block (w := W) (hg (by omega))]; exact (h.room i hi).2⟩, h.le,
   fun i hi => by rw [World.cell?_of_block (w := W) (hg (by have := h.le; omega))]; exact h.outer i hi,
   fun i j hi hj => by rw [World.cell?_of_block (w := W) (hr i hi (by omega))]; exact h.inner i j hi hj,
   fun i j hi hj => by rw [World.frozen?_of_block (w := W) (hr i hi (by omega))]; exact h.froz i j hi hj, h.base, h.baseG, h.ne, h.inj⟩
theorem belowAll (h : Grid W N g k m t G C M) (hb : Below W.heap.size W W') : Grid W' N g k m t G C M :=
  h.same (fun ht => hb.block g (h.ltg ht)) (fun i hi hm => hb.block (G i) (h.lt i hi hm))
theorem alloc (h : Grid W N g k m t G C M) (o : Obj) : Grid (W.alloc o) N g k m t G C M := h.belowAll ((Below.refl _ _).alloc (Nat.le_refl _) _)
theorem drew (h : Grid W N g k m t G C M) : Grid W.drew N g k m t G C M := h.belowAll (Below.refl _ W).drew
/-- A store beside it. -/
theorem other (h : Grid W N g k m t G C M) (a : Addr) (v : Value) (hg : g ≠ a.block) (hr : ∀ i, i < k → G i ≠ a.block) : Grid (W.setCell a v) N g k m t G C M :=
  h.same (fun _ => Below.heap_setCell W a v g hg) (fun i hi _ => Below.heap_setCell W a v (G i) (hr i hi))
/-- A number is put. -/
theorem put (h : Grid W N g k m t G C M) (i j : Nat) (z : Int) (hi : i < k) (hj : j < m) : Grid (W.setCell ⟨G i, j, none⟩ (.int .i64 z)) N g k m t G C (fun a b => if a = i ∧ b = j then z else M a b) := by
  have hg : g ≠ G i := fun e => h.ne i hi e.symm
  have og : ∀ x, (W.setCell ⟨G i, j, none⟩ (.int .i64 z)).cell? ⟨g, x, none⟩ = W.cell? ⟨g, x, none⟩ := fun x => World.cell?_of_block (w := W) (Below.heap_setCell W ⟨G i, j, none⟩ _ g hg)
  refine ⟨fun x hx => ⟨by rw [og]; exact (h.room x hx).1, by rw [World.frozen?_setCell]; exact (h.room x hx).2⟩, h.le, fun x hx => by rw [og]; exact h.outer x hx, fun a b ha hb => ?_, fun a b ha hb => by rw [World.frozen?_setCell]; exact h.froz a b ha hb, h.base, h.baseG, h.ne, h.inj⟩
  by_cases e : a = i ∧ b = j
  · obtain ⟨rfl, rfl⟩ := e
    rw [World.cell?_setCell_same' W _ _ (by rw [h.inner a b ha hb]; rfl)]
    simp
  · have hne : (⟨G a, b, none⟩ : Addr) ≠ ⟨G i, j, none⟩ := fun he => by
      injection he with e1 e2
      exact e ⟨h.inj a i ha hi e1, e2⟩
    rw [World.cell?_setCell_other W _ _ _ (by first | exact hne | exact fun h => hne h.symm), if_neg e]
    exact h.inner a b ha hb
/-- A row of its own takes the next place. -/
theorem row (h : Grid W N g k m t G C M) (hk : k < t) (b c : Nat) (f : Nat → Int) (hb : N ≤ b) (hbg : b ≠ g) (hbr : ∀ i, i < k → b ≠ G i) (hc : ∀ j, j < m → W.cell? ⟨b, j, none⟩ = some (.int .i64 (f j))) (hf : ∀ j, j < m → W.frozen? ⟨b, j, none⟩ = false) :
    Grid (W.setCell ⟨g, k, none⟩ (.slice (some ⟨b, 0, none⟩) m c)) N g (k + 1) m t (fun i => if i = k then b else G i) (fun i => if i = k then c else C i) (fun i j => if i = k then f j else M i j) := by
  have ob : ∀ x y, x ≠ g → (W.setCell ⟨g, k, none⟩ (.slice (some ⟨b, 0, none⟩) m c)).cell? ⟨x, y, none⟩ = W.cell? ⟨x, y, none⟩ := fun x y hx => World.cell?_of_block (w := W) (Below.heap_setCell W ⟨g, k, none⟩ _ x hx)
  have hs := World.cell?_setCell_same' W ⟨g, k, none⟩ (.slice (some ⟨b, 0, none⟩) m c) (h.room k hk).1
  have oc : ∀ x, x ≠ k → (W.setCell ⟨g, k, none⟩ (.slice (some ⟨b, 0, none⟩) m c)).cell? ⟨g, x, none⟩ = W.cell? ⟨g, x, none⟩ := fun x hx => World.cell?_setCell_other W _ _ _ (by first | (intro e; injection e with e1 e2; exact hx e2) | (intro e; injection e with e1 e2; exact hx e2.symm))
  refine ⟨fun x hx => ⟨?_, by rw [World.frozen?_setCell]; exact (h.room x hx).2⟩, by omega, fun i hi => ?_, fun i j hi hj => ?_, fun i j hi hj => ?_, h.base, fun i hi => ?_, fun i hi => ?_, fun i j hi hj e => ?_⟩
  · by_cases e : x = k
    · subst e; rw [hs]; rfl
    · rw [oc x e]; exact (h.room x hx).1
  · by_cases e : i = k
    · subst e; simp only [if_true]; exact hs
    · simp only [if_neg e]; rw [oc i e]; exact h.outer i (by omega)
  · by_cases e : i = k
    · subst e; simp only [if_true]; rw [ob _ _ hbg]; exact hc j hj
    · simp only [if_neg e]; rw [ob _ _ (h.ne i (by omega))]; exact h.inner i j (by omega) hj
  · rw [World.frozen?_setCell]
    by_cases e : i = k
    · subst e; simp only [if_true]; exact hf j hj
    · simp only [if_neg e]; exact h.froz i j (by omega) hj
  · by_cases e : i = k
    · simp only [if_pos e]; exact hb
    · simp only [if_neg e]; exact h.baseG i (by omega)
  · by_cases e : i = k
    · simp only [if_pos e]; exact hbg
    · simp only [if_neg e]; exact h.ne i (by omega)
  · by_cases e1 : i = k <;> by_cases e2 : j = k
    · omega
    · simp only [if_pos e1, if_neg e2] at e
      exact absurd e (hbr j (by omega))
    · simp only [if_neg e1, if_pos e2] at e
      exact absurd e.symm (hbr i (by omega))
    · simp only [if_neg e1, if_neg e2] at e
      exact h.inj i j (by omega) (by omega) e
/-- A row of its own takes the place of another one. -/
theorem repl (h : Grid W N g k m t G C M) (r : Nat) (hr : r < k) (b c : Nat) (f : Nat → Int) (hb : N ≤ b) (hbg : b ≠ g) (hbr : ∀ i, i < k → b ≠ G i) (hc : ∀ j, j < m → W.cell? ⟨b, j, none⟩ = some (.int .i64 (f j))) (hf : ∀ j, j < m → W.frozen? ⟨b, j, none⟩ = false) :
    Grid (W.setCell ⟨g, r, none⟩ (.slice (some ⟨b, 0, none⟩) m c)) N g k m t (fun i => if i = r then b else G i) (fun i => if i = r then c else C i) (fun i j => if i = r then f j else M i j) := by
  have ob : ∀ x y, x ≠ g → (W.setCell ⟨g, r, none⟩ (.slice (some ⟨b, 0, none⟩) m c)).cell? ⟨x, y, none⟩ = W.cell? ⟨x, y, none⟩ := fun x y hx => World.cell?_of_block (w := W) (Below.heap_setCell W ⟨g, r, none⟩ _ x hx)
  have hs := World.cell?_setCell_same' W ⟨g, r, none⟩ (.slice (some ⟨b, 0, none⟩) m c) (h.room r (by have := h.le; omega)).1
  have oc : ∀ x, x ≠ r → (W.setCell ⟨g, r, none⟩ (.slice (some ⟨b, 0, none⟩) m c)).cell? ⟨g, x, none⟩ = W.cell? ⟨g, x, none⟩ := fun x hx => World.cell?_setCell_other W _ _ _ (by first | (intro e; injection e with e1 e2; exact hx e2) | (intro e; injection e with e1 e2; exact hx e2.symm))
  refine ⟨fun x hx => ⟨?_, by rw [World.frozen?_setCell]; exact (h.room x hx).2⟩, h.le, fun i hi => ?_, fun i j hi hj => ?_, fun i j hi hj => ?_, h.base, fun i hi => ?_, fun i hi => ?_, fun i j hi hj e => ?_⟩
  · by_cases e : x = r
    · subst e; rw [hs]; rfl
    · rw [oc x e]; exact (h.room x hx).1
  · by_cases e : i = r
    · subst e; simp only [if_true]; exact hs
    · simp only [if_neg e]; rw [oc i e]; exact h.outer i hi
  · by_cases e : i = r
    · subst e; simp only [if_true]; rw [ob _ _ hbg]; exact hc j hj
    · simp only [if_neg e]; rw [ob _ _ (h.ne i hi)]; exact h.inner i j hi hj
  · rw [World.frozen?_setCell]
    by_cases e : i = r
    · subst e; simp only [if_true]; exact hf j hj
    · simp only [if_neg e]; exact h.froz i j hi hj
  · by_cases e : i = r
    · simp only [if_pos e]; exact hb
    · simp only [if_neg e]; exact h.baseG i hi
  · by_cases e : i = r
    · simp only [if_pos e]; exact hbg
    · simp only [if_neg e]; exact h.ne i hi
  · by_cases e1 : i = r <;> by_cases e2 : j = r
    · omega
    · simp only [if_pos e1, if_neg e2] at e
      exact absurd e (hbr j hj)
    · simp only [if_neg e1, if_pos e2] at e
      exact absurd e.symm (hbr i hi)
    · simp only [if_neg e1, if_neg e2] at e
      exact h.inj i j hi hj e
/-- Two rows are exchanged. -/
theorem exch (h : Grid W N g k m t G C M) (a b : Nat) (ha : a < k) (hb : b < k) (hab : a ≠ b) :
    Grid ((W.setCell ⟨g, a, none⟩ (.slice (some ⟨G b, 0, none⟩) m (C b))).setCell ⟨g, b, none⟩ (.slice (some ⟨G a, 0, none⟩) m (C a))) N g k m t (fun i => if i = a then G b else if i = b then G a else G i) (fun i => if i = a then C b else if i = b then C a else C i) (fun i j => if i = a then M b j else if i = b then M a j else M i j) := by
  have hle := h.le
  have ob : ∀ x y, x ≠ g → ((W.setCell ⟨g, a, none⟩ (.slice (some ⟨G b, 0, none⟩) m (C b))).setCell ⟨g, b, none⟩ (.slice (some ⟨G a, 0, none⟩) m (C a))).cell? ⟨x, y, none⟩ = W.cell? ⟨x, y, none⟩ := fun x y hx => World.cell?_of_block (w := W) ((Below.heap_setCell _ ⟨g, b, none⟩ _ x hx).trans (Below.heap_setCell W ⟨g, a, none⟩ _ x hx))
  have n1 : ∀ x y : Nat, x ≠ y → (⟨g, x, none⟩ : Addr) ≠ ⟨g, y, none⟩ := fun x y hxy e => by injection e with e1 e2; exact hxy e2
  have c1 : ∀ x, x ≠ b → ((W.setCell ⟨g, a, none⟩ (.slice (some ⟨G b, 0, none⟩) m (C b))).setCell ⟨g, b, none⟩ (.slice (some ⟨G a, 0, none⟩) m (C a))).cell? ⟨g, x, none⟩ = (W.setCell ⟨g, a, none⟩ (.slice (some ⟨G b, 0, none⟩) m (C b))).cell? ⟨g, x, none⟩ := fun x hx => World.cell?_setCell_other _ _ _ _ (by first | exact n1 x b hx | exact n1 b x (fun e => hx e.symm))
  have c2 : ∀ x, x ≠ a → (W.setCell ⟨g, a, none⟩ (.slice (some ⟨G b, 0, none⟩) m (C b))).cell? ⟨g, x, none⟩ = W.cell? ⟨g, x, none⟩ := fun x hx => World.cell?_setCell_other _ _ _ _ (by first | exact n1 x a hx | exact n1 a x (fun e => hx e.symm))
  have s1 := World.cell?_setCell_same' W ⟨g, a, none⟩ (.slice (some ⟨G b, 0, none⟩) m (C b)) (h.room a (by omega)).1
  have s2 := World.cell?_setCell_same' (W.setCell ⟨g, a, none⟩ (.slice (some ⟨G b, 0, none⟩) m (C b))) ⟨g, b, none⟩ (.slice (some ⟨G a, 0, none⟩) m (C a)) (by rw [c2 b (fun e => hab e.symm)]; exact (h.room b (by omega)).1)
  refine ⟨fun x hx => ⟨?_, by rw [World.frozen?_setCell, World.frozen?_setCell]; exact (h.room x hx).2⟩, hle, fun i hi => ?_, fun i j hi hj => ?_, fun i j hi hj => ?_, h.base, fun i hi => ?_, fun i hi => ?_, fun i j hi hj e => ?_⟩
  · by_cases e : x = b
    · subst e; rw [s2]; rfl
    · rw [c1 x e]
      by_cases e2 : x = a
      · subst e2; rw [s1]; rfl
      · rw [c2 x e2]; exact (h.room x hx).1
  · by_cases e1 : i = a
    · subst e1; simp only [if_true]; rw [c1 i hab]; exact s1
    · by_cases e2 : i = b
      · subst e2; simp only [if_neg e1, if_true]; exact s2
      · simp only [if_neg e1, if_neg e2]; rw [c1 i e2, c2 i e1]; exact h.outer i hi
  · by_cases e1 : i = a
    · subst e1; simp only [if_true]; rw [ob _ _ (h.ne b hb)]; exact h.inner b j hb hj
    · by_cases e2 : i = b
      · subst e2; simp only [if_neg e1, if_true]; rw [ob _ _ (h.ne a ha)]; exact h.inner a j ha hj
      · simp only [if_neg e1, if_neg e2]; rw [ob _ _ (h.ne i hi)]; exact h.inner i j hi hj
  · rw [World.frozen?_setCell, World.frozen?_setCell]
    by_cases e1 : i = a
    · subst e1; simp only [if_true]; exact h.froz b j hb hj
    · by_cases e2 : i = b
      · subst e2; simp only [if_neg e1, if_true]; exact h.froz a j ha hj
      · simp only [if_neg e1, if_neg e2]; exact h.froz i j hi hj
  · by_cases e1 : i = a
    · simp only [if_pos e1]; exact h.baseG b hb
    · by_cases e2 : i = b
      · simp only [if_neg e1, if_pos e2]; exact h.baseG a ha
      · simp only [if_neg e1, if_neg e2]; exact h.baseG i hi
  · by_cases e1 : i = a
    · simp only [if_pos e1]; exact h.ne b hb
    · by_cases e2 : i = b
      · simp only [if_neg e1, if_pos e2]; exact h.ne a ha
      · simp only [if_neg e1, if_neg e2]; exact h.ne i hi
  · have key : ∀ x, x < k → ∃ y, y < k ∧ (if x = a then G b else if x = b then G a else G x) = G y ∧ y = (if x = a then b else if x = b then a else x) := fun x hx => by
      by_cases e1 : x = a
      · exact ⟨b, hb, by rw [if_pos e1], by rw [if_pos e1]⟩
      · by_cases e2 : x = b
        · exact ⟨a, ha, by rw [if_neg e1, if_pos e2], by rw [if_neg e1, if_pos e2]⟩
        · exact ⟨x, hx, by rw [if_neg e1, if_neg e2], by rw [if_neg e1, if_neg e2]⟩
    obtain ⟨y, hy, ey, fy⟩ := key i hi
    obtain ⟨z, hz, ez, fz⟩ := key j hj
    have e' : (if i = a then G b else if i = b then G a else G i) = (if j = a then G b else if j = b then G a else G j) := e
    rw [ey, ez] at e'
    have hyz := h.inj y z hy hz e'
    rw [fy, fz] at hyz
    split at hyz <;> split at hyz <;> (try split at hyz) <;> (try split at hyz) <;> omega
end Grid
/-- A product of two numbers, in bounds. -/
theorem mul_in (a b : Int) (ha : -2000000000 ≤ a ∧ a ≤ 2000000000) (hb : -2000000000 ≤ b ∧ b ≤ 2000000000) : -4000000000000000000 ≤ a * b ∧ a * b ≤ 4000000000000000000 := by
  have h1 : a.natAbs ≤ 2000000000 := by omega
  have h2 : b.natAbs ≤ 2000000000 := by omega
  have h3 : (a * b).natAbs ≤ 2000000000 * 2000000000 := by rw [Int.natAbs_mul]; exact Nat.mul_le_mul h1 h2
  generalize a * b = p at *
  omega
theorem tdiv_in (d last : Int) (c : Nat) (h : d.natAbs ≤ c) : (Int.tdiv d last).natAbs ≤ c := by
  rw [Int.natAbs_tdiv]
  exact Nat.le_trans (Nat.div_le_self _ _) h
/-- What one number becomes, every step in bounds: products, their difference, the quotient. -/
theorem elim_in (y p z a last : Int) (hy : -2000000000 ≤ y ∧ y ≤ 2000000000) (hp : -2000000000 ≤ p ∧ p ≤ 2000000000) (hz : -2000000000 ≤ z ∧ z ≤ 2000000000) (ha : -2000000000 ≤ a ∧ a ≤ 2000000000) :
    ∃ P1 P2 D Q : Int, Hid (y * p = P1 ∧ a * z = P2 ∧ z * a = P2 ∧ P1 - P2 = D ∧ Int.tdiv D last = Q) ∧ IntKind.i64.wrap (y * p) = P1 ∧ wrap64 (y * p) = P1 ∧ IntKind.i64.wrap (a * z) = P2 ∧ wrap64 (a * z) = P2 ∧ IntKind.i64.wrap (z * a) = P2 ∧ wrap64 (z * a) = P2 ∧
      IntKind.i64.wrap (P1 - P2) = D ∧ wrap64 (P1 - P2) = D ∧ IntKind.i64.wrap (Int.tdiv D last) = Q ∧ wrap64 (Int.tdiv D last) = Q := by
  have h1 := mul_in y p hy hp
  have h2 := mul_in a z ha hz
  have hc : z * a = a * z := Int.mul_comm _ _
  refine ⟨y * p, a * z, y * p - a * z, Int.tdiv (y * p - a * z) last, Lib.hid ⟨rfl, rfl, hc, rfl, rfl⟩, ?_⟩
  rw [hc]
  generalize y * p = P1 at *
  generalize a * z = P2 at *
  have h3 := tdiv_in (P1 - P2) last 8000000000000000000 (by omega)
  generalize Int.tdiv (P1 - P2) last = Q at *
  exact ⟨IntWalk.i64_in _ ⟨by omega, by omega⟩, IntWalk.wrap64_in _ ⟨by omega, by omega⟩, IntWalk.i64_in _ ⟨by omega, by omega⟩, IntWalk.wrap64_in _ ⟨by omega, by omega⟩, IntWalk.i64_in _ ⟨by omega, by omega⟩, IntWalk.wrap64_in _ ⟨by omega, by omega⟩,
    IntWalk.i64_in _ ⟨by omega, by omega⟩, IntWalk.wrap64_in _ ⟨by omega, by omega⟩, IntWalk.i64_in _ ⟨by omega, by omega⟩, IntWalk.wrap64_in _ ⟨by omega, by omega⟩⟩
end Go.Proofs.Ytookciehnjnmnaa
