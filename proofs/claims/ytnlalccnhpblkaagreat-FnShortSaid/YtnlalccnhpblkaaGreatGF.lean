/- Texts of mine, laid together: FarA FarB FarC FarD FarE FarF FarG. -/
import Derived.Test.YtnlalccnhpblkaaGreatGC
import Derived.Test.YtnlalccnhpblkaaGreatGA
import Derived.Maps.OwnIn
import Derived.Maps.RangeWalk
import Derived.Sort.MapsRangeIn
import Derived.Test.YtnlalccnhpblkaaGreatGD
import Derived.LoopTactic
import Derived.Carry
import Derived.Test.YtnlalccnhpblkaaGreatMarks
import Derived.Deep.RegionHeld
/- Distances in a map: what the program keeps, told of numbers. -/
namespace Go.Proofs.YtnlalccnhpblkaaGreat
open Go.RowKit
set_option linter.unusedVariables false
/-- The key of an integer. -/
def keyI (v : Int) : Lit := .int .i64 v
theorem keyI_inj {a b : Int} (h : keyI a = keyI b) : a = b := by
  unfold keyI at h
  injection h
theorem intLaw : Maps.Keyed Tryz.prog 3 := Maps.int_keyed Tryz.underlying3
theorem zeroInt (w : World) : (zeroValue 3).run Tryz.prog w = .ok (.int .i64 0) w := by kernel_rfl
theorem isKey_int (v : Int) : WideAt.IsKeyLit (keyI v) := trivial
theorem cnt_or (S v j : Nat) : cntB (S ||| 2 ^ v) j = cntB S j + if v < j ∧ S.testBit v = false then 1 else 0 := by
  induction j with
  | zero => simp [cntB]
  | succ j ih =>
    show cntB (S ||| 2 ^ v) j + (if (S ||| 2 ^ v).testBit j then 1 else 0) = (cntB S j + if S.testBit j then 1 else 0) + _
    rw [ih, Nat.testBit_or, Nat.testBit_two_pow]
    by_cases e : v = j
    · subst e
      cases h : S.testBit v <;> simp
    · have h1 : (v < j + 1 ∧ S.testBit v = false) ↔ (v < j ∧ S.testBit v = false) := by
        constructor
        · exact fun h => ⟨by omega, h.2⟩
        · exact fun h => ⟨by omega, h.2⟩
      simp only [e, decide_false, Bool.or_false, h1]
      omega
theorem size_add (S v : Nat) (hv : v < 40) : sizeN (S ||| 2 ^ v) = if S.testBit v then sizeN S else sizeN S + 1 := by
  unfold sizeN
  rw [popF_cnt, popF_cnt, cnt_or]
  cases S.testBit v <;> simp [hv]
/-- A map's reading tells f at the places of S, and nothing else. -/
structure DTells (D : DataW Unit) (S : Nat) (f : Nat → Nat) : Prop where
  tidy : Maps.Tidy D
  keys : ∀ kl, Maps.has D kl = true → ∃ v : Nat, S.testBit v = true ∧ kl = keyI v
  tells : ∀ v : Nat, S.testBit v = true → ∀ z, D.atKey (keyI v) z = .lit (keyI (f v))
  size : Maps.size D = sizeN S
theorem DTells.empty (f : Nat → Nat) : DTells (.map []) 0 f :=
  ⟨Maps.tidy_empty, fun kl h => (by cases h), fun v h => (by simp at h), rfl⟩
theorem DTells.has {D : DataW Unit} {S : Nat} {f : Nat → Nat} (h : DTells D S f) {v : Nat} (hv : S.testBit v = true) : Maps.has D (keyI v) = true := Maps.has_true_of_atKey (h.tells v hv)
theorem DTells.hasNot {D : DataW Unit} {S : Nat} {f : Nat → Nat} (h : DTells D S f) {v : Nat} (hv : S.testBit v = false) : Maps.has D (keyI v) = false := by
  cases hh : Maps.has D (keyI v)
  · rfl
  · obtain ⟨u, hu, e⟩ := h.keys _ hh
    have e' := keyI_inj e
    have : v = u := by omega
    subst this
    rw [hv] at hu; cases hu
/-- Is an integer a place of S? -/
def inS (S : Nat) (x : Int) : Bool := decide (0 ≤ x) && S.testBit x.toNat
/-- What the map has at an integer, 0 where it has nothing. -/
def atS (S : Nat) (f : Nat → Nat) (x : Int) : Int := if inS S x then (f x.toNat : Int) else 0
theorem inS_nat (S v : Nat) : inS S (v : Int) = S.testBit v := by simp [inS]
theorem atS_nat (S : Nat) (f : Nat → Nat) (v : Nat) : atS S f (v : Int) = if S.testBit v then (f v : Int) else 0 := by simp [atS, inS_nat]
theorem DTells.hasInt {D : DataW Unit} {S : Nat} {f : Nat → Nat} (h : DTells D S f) (x : Int) : Maps.has D (keyI x) = inS S x := by
  by_cases hx : 0 ≤ x
  · obtain ⟨v, rfl⟩ : ∃ v : Nat, x = (v : Int) := ⟨x.toNat, by omega⟩
    rw [inS_nat]
    cases hb : S.testBit v
    · exact h.hasNot hb
    · exact h.has hb
  · have e : inS S x = false := by simp [inS, hx]
    rw [e]
    cases hh : Maps.has D (keyI x)
    · rfl
    · obtain ⟨u, hu, e⟩ := h.keys _ hh
      have e' := keyI_inj e
      omega
theorem DTells.atInt {D : DataW Unit} {S : Nat} {f : Nat → Nat} (h : DTells D S f) (x : Int) : D.atKey (keyI x) (.lit (keyI 0)) = .lit (keyI (atS S f x)) := by
  unfold atS
  cases hb : inS S x
  · rw [Maps.atKey_of_not_has (by rw [h.hasInt, hb])]
    rfl
  · have hx : 0 ≤ x := by simp [inS] at hb; exact hb.1
    obtain ⟨v, rfl⟩ : ∃ v : Nat, x = (v : Int) := ⟨x.toNat, by omega⟩
    rw [inS_nat] at hb
    rw [h.tells v hb]
    simp
theorem DTells.putAt {D : DataW Unit} {S : Nat} {f g : Nat → Nat} (h : DTells D S f) {v : Nat} (hv : v < 40) (hg : ∀ u, u ≠ v → g u = f u) : DTells (D.put (keyI v) (.lit (keyI (g v)))) (S ||| 2 ^ v) g where
  tidy := h.tidy.put (isKey_int v) _
  keys kl hk := by
    by_cases e : kl = keyI v
    · exact ⟨v, by rw [Nat.testBit_or, Nat.testBit_two_pow]; simp, e⟩
    · rw [Maps.has_put_other e] at hk
      obtain ⟨u, hu, e⟩ := h.keys _ hk
      exact ⟨u, by rw [Nat.testBit_or, hu, Bool.true_or], e⟩
  tells u hu z := by
    by_cases e : u = v
    · subst e
      exact Maps.atKey_put_same h.tidy.isMap (isKey_int u) _ _
    · have hne : keyI u ≠ keyI v := fun h => e (by have := keyI_inj h; omega)
      rw [Maps.atKey_put_other hne, hg u e]
      refine h.tells u ?_ z
      rw [Nat.testBit_or, Nat.testBit_two_pow] at hu
      simpa [show ¬ v = u from fun h => e h.symm] using hu
  size := by
    rw [Maps.size_put h.tidy, size_add S v hv, h.size]
    cases hb : S.testBit v
    · rw [h.hasNot hb]
    · rw [h.has hb]
/-- Block b is a map that tells f at the places of S, and nothing else. -/
def Tells (W : World) (b S : Nat) (f : Nat → Nat) : Prop :=
  ∃ D, W.ownsMap Tryz.prog 3 (plainElem (H := Unit) Tryz.prog 3) b (Maps.size D) D ∧ DTells D S f
theorem ownsMap_shrink {W : World} {b n : Nat} {D : DataW Unit} (h : W.ownsMap Tryz.prog 3 (plainElem (H := Unit) Tryz.prog 3) b n D) : W.ownsMap Tryz.prog 3 (plainElem (H := Unit) Tryz.prog 3) b (Maps.size D) D := by
  obtain ⟨es, clock, hb, F, hs, rfl⟩ := h
  exact ⟨es, clock, hb, F, by simp [Maps.size, length_sorted], rfl⟩
theorem Tells.lt {W : World} {b S : Nat} {f : Nat → Nat} (h : Tells W b S f) : b < W.heap.size := by obtain ⟨D, h1, _⟩ := h; exact h1.lt
theorem Tells.same {W W' : World} {b S : Nat} {f : Nat → Nat} (h : Tells W b S f) (e : W'.heap[b]? = W.heap[b]?) : Tells W' b S f := by
  obtain ⟨D, ⟨es, clock, hb, r⟩, h2⟩ := h
  exact ⟨D, ⟨es, clock, e.trans hb, r⟩, h2⟩
theorem Tells.below {W W' : World} {b S N : Nat} {f : Nat → Nat} (h : Tells W b S f) (hN : b < N) (hb : Below N W W') : Tells W' b S f := h.same (hb.block b hN)
theorem Tells.belowAll {W W' : World} {b S : Nat} {f : Nat → Nat} (h : Tells W b S f) (hb : Below W.heap.size W W') : Tells W' b S f := h.below h.lt hb
theorem Tells.kept {W W' : World} {b S : Nat} {f : Nat → Nat} {row : Option Nat} (h : Tells W b S f) (hg : W.grownBy W' row) (hne : some b ≠ row) : Tells W' b S f := h.same (hg.block b h.lt hne)
theorem Tells.alloc {W : World} {b S : Nat} {f : Nat → Nat} (h : Tells W b S f) (o : Obj) : Tells (W.alloc o) b S f := h.kept (World.grownBy_alloc W o none) (by simp)
theorem Tells.drew {W : World} {b S : Nat} {f : Nat → Nat} (h : Tells W b S f) : Tells W.drew b S f := h
theorem Tells.obj {W : World} {b S : Nat} {f : Nat → Nat} (h : Tells W b S f) : ∃ o, W.heap[b]? = some o ∧ o.isCells = false := by
  obtain ⟨D, ⟨es, clock, hb, _⟩, _⟩ := h
  exact ⟨_, hb, rfl⟩
theorem Tells.isMap {W : World} {b S : Nat} {f : Nat → Nat} (h : Tells W b S f) : ∃ es c, W.heap[b]? = some (.map es c) := by
  obtain ⟨D, ⟨es, clock, hb, _⟩, _⟩ := h
  exact ⟨_, _, hb⟩
theorem Tells.setCell {W : World} {b S : Nat} {f : Nat → Nat} (h : Tells W b S f) (a : Addr) (v : Value) (hne : b ≠ a.block) : Tells (W.setCell a v) b S f := h.same (Below.heap_setCell W a v b hne)
theorem tells_made (W : World) (f : Nat → Nat) : Tells (W.alloc (.map #[] 0)) W.heap.size 0 f :=
  ⟨_, World.ownsMap_made W _ _ _, DTells.empty f⟩
theorem tells_congr {W : World} {b S : Nat} {f g : Nat → Nat} (h : Tells W b S f) (e : ∀ v, S.testBit v = true → f v = g v) : Tells W b S g := by
  obtain ⟨D, h1, h2⟩ := h
  exact ⟨D, h1, h2.tidy, h2.keys, fun v hv z => by rw [h2.tells v hv z, e v hv], h2.size⟩
theorem inS_lt (S v : Nat) (hS : S < 2 ^ 12) (h : S.testBit v = true) : v < 12 := lt_of_bits 12 S hS v h
theorem sizeN_small (S : Nat) : sizeN S ≤ 40 := by
  have : ∀ f s, popF f s ≤ f := by
    intro f
    induction f with
    | zero => exact fun s => Nat.le_refl _
    | succ f ih =>
      intro s
      show s % 2 + popF f (s / 2) ≤ f + 1
      have := ih (s / 2)
      omega
  exact this 40 S
section
variable {F : Fence} {nF : Nat} (w : World) {ops : Array Oper} {rest : List Oper} {o : Oper} {a : Act} {Q : Exit → Act → World → Prop}
theorem wpList_tells (hg : o.guard = none) (m x : Operand) (hop : o.op = Op.lookup 62 m x false) (b S : Nat) (f : Nat → Nat)
    (hm : a.eval m = .map (some b)) (hT : Tells w b S f) (v : Int) (hx : a.eval x = .int .i64 v) (hv : -1000000 ≤ v ∧ v ≤ 1000000)
    (hK : wpList Tryz.prog ops Q rest (a.put o.dst (.int .i64 (atS S f v))) w) : wpList Tryz.prog ops Q (o :: rest) a w := by
  obtain ⟨D, h1, h2⟩ := hT
  refine wpList_lookup_own_int w hg m x _ hop _ _ .i64 intLaw Tryz.underlying62 Tryz.underlying3 (zeroInt w) b _ D hm h1 _ (keyI v) hx (Maps.keyOf_int_mk Tryz.underlying3 (WalkArith.wf_i64 (by omega))) (fun c hat hwc => ?_)
  have e := h2.atInt v
  have e' : (DataW.lit (keyI (atS S f v)) : DataW Unit) = .lit (.int .i64 c) := e.symm.trans hat
  injection e' with e'
  have : atS S f v = c := keyI_inj e'
  rw [← this]
  exact hK
theorem wpList_told (hg : o.guard = none) (m x : Operand) (hop : o.op = Op.lookup 62 m x true) (b S : Nat) (f : Nat → Nat)
    (hm : a.eval m = .map (some b)) (hT : Tells w b S f) (v : Int) (hx : a.eval x = .int .i64 v) (hwf : (Lit.int .i64 v).wf = true)
    (hK : wpList Tryz.prog ops Q rest (a.put o.dst (.tuple #[.int .i64 (atS S f v), .bool (inS S v)])) w) : wpList Tryz.prog ops Q (o :: rest) a w := by
  obtain ⟨D, h1, h2⟩ := hT
  refine wpList_lookup_own_ok_int w hg m x _ hop _ _ .i64 intLaw Tryz.underlying62 Tryz.underlying3 (zeroInt w) b _ D hm h1 _ (keyI v) hx (Maps.keyOf_int_mk Tryz.underlying3 hwf) (fun c hat hwc => ?_)
  have e := h2.atInt v
  have e' : (DataW.lit (keyI (atS S f v)) : DataW Unit) = .lit (.int .i64 c) := e.symm.trans hat
  injection e' with e'
  have : atS S f v = c := keyI_inj e'
  rw [← this, h2.hasInt]
  exact hK
theorem wpListIn_putT (hg : o.guard = none) (m x v : Operand) (hop : o.op = Op.mapUpdate 62 m x v) (b S : Nat) (f g : Nat → Nat) (hm : a.eval m = .map (some b)) (hT : Tells w b S f)
    (k c : Nat) (hx : a.eval x = .int .i64 (k : Int)) (hv : a.eval v = .int .i64 (c : Int)) (hk : k < 40) (hc : c < 1000000) (hgk : g k = c) (hgu : ∀ u, u ≠ k → g u = f u)
    (hK : ∀ w', Tells w' b (S ||| 2 ^ k) g → w.grownBy w' (some b) → w'.heap.size = w.heap.size → wpListIn F nF Tryz.prog ops Q rest (a.put o.dst undef) w') : wpListIn F nF Tryz.prog ops Q (o :: rest) a w := by
  obtain ⟨D, h1, h2⟩ := hT
  have hsz := sizeN_small S
  refine wpListIn_mapUpdate_in w hg m x v _ hop _ _ intLaw Tryz.underlying62 _ b _ D hm h1 (by rw [h2.size]; unfold maxLen; omega) _ _ (keyI k) hx hv (Maps.keyOf_int_mk Tryz.underlying3 (WalkArith.wf_i64 (by omega))) (.lit (keyI (g k))) [] (by rw [hgk]; exact plainElem_int Tryz.underlying3 (WalkArith.wf_i64 (by omega))) (fun w' h3 h4 => ?_)
  refine hK w' ⟨_, ownsMap_shrink h3, h2.putAt hk hgu⟩ h4.grown ?_
  obtain ⟨es, clock, es', clock', hb, rfl⟩ := h4
  simp [ChangeMaps.setBlock]
set_option maxRecDepth 10000 in
theorem run_tells {b S : Nat} {f : Nat → Nat} (hT : Tells w b S f) (v : Int) (hv : -1000000 ≤ v ∧ v ≤ 1000000) :
    (Instr.lookup 62 (.map (some b)) (.int .i64 v) false).run Tryz.prog w = .ok (.int .i64 (atS S f v)) w := by
  obtain ⟨D, h1, h2⟩ := hT
  obtain ⟨c, hrun, hat, _⟩ := h1.lookup_int intLaw Tryz.underlying62 Tryz.underlying3 (zeroInt w) (Maps.keyOf_int_mk Tryz.underlying3 (a := v) (WalkArith.wf_i64 (by omega)))
  have e := h2.atInt v
  have e' : (DataW.lit (keyI (atS S f v)) : DataW Unit) = .lit (.int .i64 c) := e.symm.trans hat
  injection e' with e'
  have : atS S f v = c := keyI_inj e'
  rw [this]
  exact hrun
theorem run_len {b S : Nat} {f : Nat → Nat} (hT : Tells w b S f) (ty : TypeId) :
    (Builtin.len_ #[62] ty #[.map (some b)]).run Tryz.prog w = .ok (.int .i64 ((sizeN S : Nat) : Int)) w := by
  obtain ⟨D, h1, h2⟩ := hT
  rw [h1.len Tryz.underlying62 ty, h2.size]
theorem run_clear {b S : Nat} {f : Nat → Nat} (hT : Tells w b S f) (ty : TypeId) (g : Nat → Nat) :
    ∃ w', (Builtin.clear_ #[62] ty #[.map (some b)]).run Tryz.prog w = .ok (.tuple #[]) w' ∧ Tells w' b 0 g ∧ w.grownBy w' (some b) ∧ w'.heap.size = w.heap.size := by
  obtain ⟨D, ⟨es, clock, hb, F, hs, hD⟩, h2⟩ := hT
  refine ⟨ChangeMaps.setBlock w b (.map #[] clock), by simp [Builtin.clear_, run_underlying Tryz.underlying62, MapKept.run_getObj_map hb, MapKept.run_setObj_map _ hb, Result.andThen, ChangeMaps.setBlock], ?_, ⟨rfl, rfl, rfl, by simp [ChangeMaps.setBlock], fun i _ hi => ChangeMaps.heap_setBlock_other hb _ (fun e => hi (by rw [e]))⟩, by simp [ChangeMaps.setBlock]⟩
  exact ⟨_, ⟨#[], clock, ChangeMaps.heap_setBlock_same hb _, ⟨by simp, MapKept.stamped_empty clock, by simp⟩, Nat.le_refl _, rfl⟩, DTells.empty g⟩
end
end Go.Proofs.YtnlalccnhpblkaaGreat

/- Distances in a map: ranges over it, and the small methods. -/
namespace Go.Proofs.YtnlalccnhpblkaaGreat
open Go.RowKit
set_option linter.unusedVariables false
/-- A range over such a map is under way: r is its iterator, the places of T are still to come. -/
def Ranged (W : World) (b r S : Nat) (f : Nat → Nat) (T : Nat) : Prop :=
  ∃ D left cnt, W.ranges Tryz.prog 3 (plainElem (H := Unit) Tryz.prog 3) b r (Maps.size D) D left cnt ∧ DTells D S f ∧ (∀ v : Nat, left (keyI v) = T.testBit v) ∧ (∀ v : Nat, T.testBit v = true → S.testBit v = true)
theorem Ranged.tells {W : World} {b r S T : Nat} {f : Nat → Nat} (h : Ranged W b r S f T) : Tells W b S f := by
  obtain ⟨D, left, cnt, h1, h2, _⟩ := h
  exact ⟨D, h1.owns, h2⟩
theorem Ranged.same {W W' : World} {b r S T : Nat} {f : Nat → Nat} (h : Ranged W b r S f T) (e : W'.heap[b]? = W.heap[b]?) (e' : W'.heap[r]? = W.heap[r]?) : Ranged W' b r S f T := by
  obtain ⟨D, left, cnt, ⟨es, clock, since, seen, c0, hb, F, hs, hD, hr, rest⟩, h2⟩ := h
  exact ⟨D, left, cnt, ⟨es, clock, since, seen, c0, e.trans hb, F, hs, hD, e'.trans hr, rest⟩, h2⟩
theorem rangeLeft_same {W W' : World} {b r : Nat} (e : W'.heap[b]? = W.heap[b]?) (e' : W'.heap[r]? = W.heap[r]?) : W'.rangeLeft b r = W.rangeLeft b r := by
  unfold World.rangeLeft
  rw [e, e']
theorem Ranged.iter {W : World} {b r S T : Nat} {f : Nat → Nat} (h : Ranged W b r S f T) : r < W.heap.size := by
  obtain ⟨D, left, cnt, ⟨es, clock, since, seen, c0, hb, F, hs, hD, hr, rest⟩, h2⟩ := h
  exact (Array.getElem?_eq_some_iff.1 hr).1
theorem Ranged.iterObj {W : World} {b r S T : Nat} {f : Nat → Nat} (h : Ranged W b r S f T) : ∃ o, W.heap[r]? = some o ∧ o.isCells = false := by
  obtain ⟨D, left, cnt, ⟨es, clock, since, seen, c0, hb, F, hs, hD, hr, rest⟩, h2⟩ := h
  exact ⟨_, hr, rfl⟩
theorem Ranged.sub {W : World} {b r S T : Nat} {f : Nat → Nat} (h : Ranged W b r S f T) {v : Nat} (hv : T.testBit v = true) : S.testBit v = true := by
  obtain ⟨D, left, cnt, _, _, _, h4⟩ := h
  exact h4 v hv
/-- T without a place. -/
theorem less_bit (T v u : Nat) : (lessN T (2 ^ v)).testBit u = (T.testBit u && !decide (v = u)) := by
  rw [lessN_bit, Nat.testBit_two_pow]
section
variable (w : World) {ops : Array Oper} {rest : List Oper} {o : Oper} {a : Act} {Q : Exit → Act → World → Prop}
theorem wpList_rangeT (hg : o.guard = none) (m : Operand) (hop : o.op = Op.range 62 m) (b S : Nat) (f : Nat → Nat)
    (hm : a.eval m = .map (some b)) (hT : Tells w b S f)
    (hK : ∀ w', Ranged w' b w.heap.size S f S → w.grownBy w' none → w'.heap.size = w.heap.size + 1 → wpList Tryz.prog ops Q rest (a.put o.dst (.pointer (some ⟨w.heap.size, 0, none⟩))) w') : wpList Tryz.prog ops Q (o :: rest) a w := by
  obtain ⟨D, h1, h2⟩ := hT
  exact wpList_range_own w hg m _ hop _ _ intLaw Tryz.underlying62 _ b _ D hm h1 (fun w' hr hgr hsz => hK w' ⟨D, _, _, hr, h2, fun v => by rw [h2.hasInt, inS_nat], fun v h => h⟩ hgr hsz)
theorem wpList_nextT (hg : o.guard = none) (it : Operand) (hop : o.op = Op.next it false) (b r S T : Nat) (f : Nat → Nat)
    (hit : a.eval it = .pointer (some ⟨r, 0, none⟩)) (h : Ranged w b r S f T)
    (hDone : T = 0 → wpList Tryz.prog ops Q rest (a.put o.dst (.tuple #[.bool false])) w)
    (hMore : ∀ (v : Nat) (w' : World), T.testBit v = true → S.testBit v = true → Ranged w' b r S f (lessN T (2 ^ v)) → w'.rangeLeft b r < w.rangeLeft b r → w.grownBy w' (some r) → w'.heap.size = w.heap.size →
      (Instr.entry (.pointer (some ⟨r, 0, none⟩))).run Tryz.prog w' = .ok (.tuple #[.int .i64 (v : Int), .int .i64 (f v : Int)]) w' → wpList Tryz.prog ops Q rest (a.put o.dst (.tuple #[.bool true, .int .i64 (v : Int), .int .i64 (f v : Int)])) w') :
    wpList Tryz.prog ops Q (o :: rest) a w := by
  obtain ⟨D, left, cnt, h1, h2, h3, h4⟩ := h
  refine wpList_next_ranges_ii w hg it hop _ _ .i64 .i64 intLaw Tryz.underlying3 Tryz.underlying3 b r _ D left cnt hit h1 (fun _ hl => hDone (Nat.eq_of_testBit_eq fun v => ?_)) (fun x c w' cnt' _ _ hlx hat hr hlt hgr hsz hen => ?_)
  · rw [← h3 v, hl, Nat.zero_testBit]
  · have hh : Maps.has D (keyI x) = true := Maps.has_true_of_atKey hat
    obtain ⟨v, hv, e⟩ := h2.keys _ hh
    have e' : x = (v : Int) := keyI_inj e
    subst e'
    have hc : c = (f v : Int) := by
      have e1 : (DataW.lit (keyI (f v)) : DataW Unit) = .lit (.int .i64 c) := (h2.tells v hv .nil).symm.trans (hat .nil)
      injection e1 with e1
      exact (keyI_inj e1).symm
    subst hc
    have hTv : T.testBit v = true := by rw [← h3 v]; exact hlx
    refine hMore v w' hTv hv ⟨D, _, cnt', hr, h2, fun u => ?_, fun u hu => ?_⟩ (by rw [hr.left_eq, h1.left_eq]; exact hlt) hgr hsz hen
    · show (left (keyI u) && !(keyI u).sameKey (keyI v)) = _
      rw [h3 u, less_bit]
      by_cases e : v = u
      · subst e
        rw [WideAt.sameKey_self (isKey_int _)]
        simp
      · rw [Maps.sameKey_ne (fun h => e (by have := keyI_inj h; omega))]
        simp [e]
    · rw [less_bit, Bool.and_eq_true] at hu
      exact h4 u hu.1
end
/-- m is the greatest of f at what p holds of, 0 if it is none. -/
structure MostOf (p : Nat → Bool) (f : Nat → Nat) (m : Nat) : Prop where
  le : ∀ v, p v = true → f v ≤ m
  met : m = 0 ∨ ∃ v, p v = true ∧ f v = m
theorem MostOf.none {p : Nat → Bool} (f : Nat → Nat) (h : ∀ v, p v = false) : MostOf p f 0 := ⟨fun v hv => (by rw [h v] at hv; cases hv), .inl rfl⟩
theorem MostOf.step {p q : Nat → Bool} {f : Nat → Nat} {m v : Nat} (h : MostOf p f m) (hq : ∀ u, q u = (p u || decide (v = u))) : MostOf q f (max m (f v)) where
  le u hu := by
    rw [hq, Bool.or_eq_true, decide_eq_true_eq] at hu
    rcases hu with hu | rfl
    · have := h.le u hu; omega
    · omega
  met := by
    by_cases hm : m ≤ f v
    · exact .inr ⟨v, by rw [hq]; simp, by omega⟩
    · rcases h.met with h0 | ⟨u, hu, e⟩
      · omega
      · exact .inr ⟨u, by rw [hq, hu, Bool.true_or], by omega⟩
theorem MostOf.unique {p q : Nat → Bool} {f : Nat → Nat} {m m' : Nat} (h : MostOf p f m) (h' : MostOf q f m') (e : ∀ v, p v = q v) : m = m' := by
  have a : m ≤ m' := by
    rcases h.met with h0 | ⟨v, hv, e1⟩
    · omega
    · have := h'.le v (by rw [← e]; exact hv); omega
  have b : m' ≤ m := by
    rcases h'.met with h0 | ⟨v, hv, e1⟩
    · omega
    · have := h.le v (by rw [e]; exact hv); omega
  omega
theorem most_is (n s k : Nat) : MostOf (fun v => (partN n s).testBit v && decide (v < k)) (farN n s) (mostN n s k) := by
  induction k with
  | zero => exact MostOf.none _ fun v => by simp
  | succ k ih =>
    show MostOf _ _ (max (mostN n s k) (distN n s k).toNat)
    unfold distN
    cases hb : (partN n s).testBit k
    · have e : max (mostN n s k) ((if false = true then (farN n s k : Int) else -1)).toNat = mostN n s k := by simp
      rw [e]
      refine ⟨fun v hv => ih.le v ?_, ?_⟩
      · simp only [Bool.and_eq_true, decide_eq_true_eq] at hv ⊢
        refine ⟨hv.1, ?_⟩
        by_cases e : v = k
        · subst e; rw [hb] at hv; cases hv.1
        · omega
      · rcases ih.met with h0 | ⟨v, hv, e⟩
        · exact .inl h0
        · simp only [Bool.and_eq_true, decide_eq_true_eq] at hv
          exact .inr ⟨v, by simp only [Bool.and_eq_true, decide_eq_true_eq]; exact ⟨hv.1, by omega⟩, e⟩
    · have e : ((if true = true then (farN n s k : Int) else -1)).toNat = farN n s k := by simp
      rw [e]
      refine ih.step (v := k) fun u => ?_
      by_cases e : k = u
      · subst e; simp [hb]
      · have : decide (u < k + 1) = decide (u < k) := by simp; omega
        simp [e, this]
theorem sumTo_one (g g' : Nat → Nat) (v k : Nat) (h : ∀ u, u ≠ v → g' u = g u) (h0 : g v = 0) : sumTo g' k = sumTo g k + if v < k then g' v else 0 := by
  induction k with
  | zero => rfl
  | succ k ih =>
    show sumTo g' k + g' k = (sumTo g k + g k) + _
    rw [ih]
    by_cases e : v = k
    · subst e
      simp [h0]
    · rw [h k (fun h => e h.symm)]
      by_cases hk : v < k
      · simp [hk, show v < k + 1 by omega]; omega
      · simp [hk, show ¬ v < k + 1 by omega]
theorem sumTo_ub (g : Nat → Nat) (c k : Nat) (h : ∀ v, g v ≤ c) : sumTo g k ≤ c * k := by
  induction k with
  | zero => simp [sumTo]
  | succ k ih =>
    show sumTo g k + g k ≤ c * (k + 1)
    have := h k
    rw [Nat.mul_add]
    omega
/-- The sum of f at the places of S that are not in T. -/
def sumOf (S T n : Nat) (f : Nat → Nat) : Nat := sumTo (fun v => if S.testBit v && !T.testBit v then f v else 0) n
theorem sumOf_step (S T n v : Nat) (f : Nat → Nat) (hS : S.testBit v = true) (hT : T.testBit v = true) (hv : v < n) : sumOf S (lessN T (2 ^ v)) n f = sumOf S T n f + f v := by
  unfold sumOf
  rw [sumTo_one (fun u => if S.testBit u && !T.testBit u then f u else 0) _ v n (fun u hu => ?_) (by simp [hT])]
  · rw [if_pos hv]
    simp [less_bit, hS]
  · have : ¬ v = u := fun h => hu h.symm
    simp [less_bit, this]
theorem sumOf_all (S n : Nat) (f : Nat → Nat) : sumOf S S n f = 0 := by
  unfold sumOf
  have : (fun v => if S.testBit v && !S.testBit v then f v else 0) = fun _ => 0 := by funext v; cases S.testBit v <;> simp
  rw [this, sumTo_none]
theorem sumOf_le (S T n c : Nat) (f : Nat → Nat) (h : ∀ v, S.testBit v = true → f v ≤ c) : sumOf S T n f ≤ c * n := sumTo_ub _ _ _ fun v => by
  cases hb : S.testBit v
  · simp
  · simp only [Bool.true_and]; split
    · exact h v hb
    · omega
theorem most_left (S T v : Nat) (hS : S.testBit v = true) : ∀ u, (S.testBit u && !(lessN T (2 ^ v)).testBit u) = ((S.testBit u && !T.testBit u) || decide (v = u)) := by
  intro u
  rw [less_bit]
  by_cases e : v = u
  · subst e; simp [hS]
  · simp [e]
/-- Block B holds distances: n, s and the map M. -/
def Tri (W : World) (B n s M : Nat) : Prop := W.heap[B]? = some (.cells #[.int .i64 (n : Int), .int .i64 (s : Int), .map (some M)] 64 (0, 0))
theorem Tri.lt {W : World} {B n s M : Nat} (h : Tri W B n s M) : B < W.heap.size := (Array.getElem?_eq_some_iff.1 h).1
theorem Tri.cell0 {W : World} {B n s M : Nat} (h : Tri W B n s M) : W.cell? ⟨B, 0, none⟩ = some (.int .i64 (n : Int)) := by simp [World.cell?, show W.heap[B]? = _ from h]
theorem Tri.cell1 {W : World} {B n s M : Nat} (h : Tri W B n s M) : W.cell? ⟨B, 1, none⟩ = some (.int .i64 (s : Int)) := by simp [World.cell?, show W.heap[B]? = _ from h]
theorem Tri.cell2 {W : World} {B n s M : Nat} (h : Tri W B n s M) : W.cell? ⟨B, 2, none⟩ = some (.map (some M)) := by simp [World.cell?, show W.heap[B]? = _ from h]
theorem Tri.new (W : World) (n s M : Nat) : Tri (W.alloc (.cells #[.int .i64 (n : Int), .int .i64 (s : Int), .map (some M)] 64)) W.heap.size n s M := World.alloc_heap_new W _
theorem Tri.same {W W' : World} {B n s M : Nat} (h : Tri W B n s M) (e : W'.heap[B]? = W.heap[B]?) : Tri W' B n s M := e.trans h
theorem Tri.kept {W W' : World} {row : Option Nat} {B n s M : Nat} (h : Tri W B n s M) (hg : W.grownBy W' row) (hne : some B ≠ row) : Tri W' B n s M := h.same (hg.block B h.lt hne)
theorem Tri.alloc {W : World} {B n s M : Nat} (h : Tri W B n s M) (o : Obj) : Tri (W.alloc o) B n s M := h.kept (World.grownBy_alloc W o none) (by simp)
theorem Tri.below {W W' : World} {B n s M N : Nat} (h : Tri W B n s M) (hN : B < N) (hb : Below N W W') : Tri W' B n s M := h.same (hb.block B hN)
end Go.Proofs.YtnlalccnhpblkaaGreat

/- Distances in a map: lists of them, and of layers. -/
namespace Go.Proofs.YtnlalccnhpblkaaGreat
open Go.RowKit
set_option linter.unusedVariables false
/-- What a list of distances has at v. -/
def dS (S : Nat) (f : Nat → Nat) (v : Nat) : Int := if S.testBit v then (f v : Int) else -1
def dTo (S : Nat) (f : Nat → Nat) (j v : Nat) : Int := if v < j then dS S f v else 0
theorem dTo_step (S : Nat) (f : Nat → Nat) (j v : Nat) (hj : v ≠ j) : dTo S f (j + 1) v = dTo S f j v := by
  unfold dTo
  by_cases h : v < j
  · rw [if_pos h, if_pos (by omega)]
  · rw [if_neg h, if_neg (by omega)]
theorem dTo_at (S : Nat) (f : Nat → Nat) (j : Nat) : dTo S f (j + 1) j = dS S f j := by simp [dTo]
theorem dTo_set (S : Nat) (f : Nat → Nat) (n j : Nat) (z : Int) (hz : dS S f j = z) : (tabI n (dTo S f j)).set j z = tabI n (dTo S f (j + 1)) := by
  rw [tabI_set]
  refine tabI_congr _ _ _ fun v hv => ?_
  by_cases e : v = j
  · subst e; rw [if_pos rfl, dTo_at, hz]
  · rw [if_neg e, dTo_step S f j v e]
theorem dTo_end (S : Nat) (f : Nat → Nat) (n : Nat) : tabI n (dTo S f n) = tabI n (dS S f) := tabI_congr _ _ _ fun v hv => by simp [dTo, hv]
def SlicePost (w : World) (n : Nat) (xs : List Int) (e : Ending) (w' : World) : Prop :=
  ∃ g cap, e = .returned (.slice (some ⟨g, 0, none⟩) n cap) ∧ Below w.heap.size w w' ∧ IsInts w' w.heap.size (.slice (some ⟨g, 0, none⟩) n cap) xs
set_option maxRecDepth 100000 in
set_option maxHeartbeats 2000000 in
theorem list_any (n s M S : Nat) (f : Nat → Nat) (w : World) (h2 : n ≤ 12) (hT : Tells w M S f) (hf : ∀ v, S.testBit v = true → f v ≤ 12) :
    Calls Tryz.prog 25 #[.agg #[.int .i64 (n:Int), .int .i64 (s:Int), .map (some M)]] w (SlicePost w n (tabI n (dS S f))) := by
  have hM := hT.lt
  have hmk := make_ints n (by omega) (w.alloc (.cells #[.int .i64 (n : Int), .int .i64 (s : Int), .map (some M)] 64))
  have hmd := made_ints n (by omega) (w.alloc (.cells #[.int .i64 (n : Int), .int .i64 (s : Int), .map (some M)] 64))
  rw [zeros_tab] at hmd
  simp only [World.size_alloc] at hmk hmd
  obtain ⟨W1, hW1⟩ : ∃ W1, (w.alloc (.cells #[.int .i64 (n : Int), .int .i64 (s : Int), .map (some M)] 64)).alloc (.cells (madeCells #[.int .i64 0] n) 3) = W1 := ⟨_, rfl⟩
  have hT1 : Tells W1 M S f := by rw [← hW1]; exact (hT.alloc _).alloc _
  have hD1 : Tri W1 w.heap.size n s M := by rw [← hW1]; exact (Tri.new w n s M).alloc _
  have hB1 : Below w.heap.size w W1 := by rw [← hW1]; exact ((Below.refl _ _).alloc (Nat.le_refl _) _).alloc (by simp) _
  rw [hW1] at hmk hmd
  have HT1 := Lib.hid hT1
  have HD1 := Lib.hid hD1
  have HB1 := Lib.hid hB1
  have HI1 : Hid (IsInts W1 w.heap.size (.slice (some ⟨w.heap.size + 1, 0, none⟩) n n) (tabI n (dTo S f 0))) := Lib.hid (by
    have e : tabI n (fun _ => 0) = tabI n (dTo S f 0) := tabI_congr _ _ _ fun v hv => by simp [dTo]
    rw [← e]
    exact hmd.base (by omega))
  have HF := Lib.hid hf
  clear hT hT1 hD1 hB1 hmd hf
  go_enter Tryz.func25, Tryz.ntmps25
  go_wp2
  clear hmk hW1
  go_loopw [14] (fun u wr => ∃ j : Nat, j ≤ n ∧ u = .int .i64 (j : Int) ∧ IsInts wr w.heap.size (.slice (some ⟨w.heap.size + 1, 0, none⟩) n n) (tabI n (dTo S f j)) ∧ Tri wr w.heap.size n s M ∧ Tells wr M S f ∧ Below w.heap.size w wr) (fun u _ => n - (intOf u).toNat)
  case atStart => exact ⟨0, Nat.zero_le _, rfl, HI1.out, HD1.out, HT1.out, HB1.out⟩
  case round =>
    obtain ⟨j, hj, rfl, hI, hD, hT, hB⟩ := hrel
    have HI := Lib.hid hI
    have HT := Lib.hid hT
    have HB := Lib.hid hB
    have HD := Lib.hid hD
    clear hI hT hB
    by_cases hlt : j < n
    · have c2 := hD.cell2
      have hlen := tabI_len n (dTo S f j)
      have i1 : (0 : Int) ≤ (j : Int) := by omega
      have i2 : (j : Int) < (n : Int) := by omega
      have hI3 : IsInts wr w.heap.size (.slice (some ⟨w.heap.size + 1, 0, none⟩) (tabI n (dTo S f j)).length n) (tabI n (dTo S f j)) := by rw [hlen]; exact HI.out
      have c3 := hI3.cell (i := j) (by rw [hlen]; exact hlt)
      have f3 := hI3.frozen j
      have HSet := Lib.hid (fun z => hI3.set j z)
      clear hI3 hD
      generalize (tabI n (dTo S f j)).getD j 0 = z0 at c3
      have HBn := Lib.hid (fun z => HB.out.setCell (p := ⟨w.heap.size + 1, j, none⟩) (by simp) (.int .i64 z))
      have HTn := Lib.hid (fun z => HT.out.setCell ⟨w.heap.size + 1, j, none⟩ (.int .i64 z) (by simp; omega))
      have HDn := Lib.hid (fun z => HD.out.same (W' := wr.setCell ⟨w.heap.size + 1, j, none⟩ (.int .i64 z)) (Below.heap_setCell _ _ _ _ (by simp)))
      cases hb : S.testBit j
      · have hin : inS S (j : Int) = false := by rw [inS_nat, hb]
        have hat : atS S f (j : Int) = 0 := by rw [atS_nat, hb]; simp
        have HE := Lib.hid (show dS S f j = -1 by simp [dS, hb])
        clear hb
        go_wp2_with (first
          | (at_lookup; refine wpList_told _ rfl _ _ rfl M S f rfl HT.out (j : Int) rfl (WalkArith.wf_i64 ⟨by omega, by omega⟩) ?_; rw [hin, hat])
          | go_in)
        go_roundw
        case rel =>
          refine ⟨j + 1, by omega, by go_num, ?_, HDn.out _, HTn.out _, HBn.out _⟩
          have h3 := HSet.out (-1)
          rw [dTo_set S f n j _ HE.out, tabI_len] at h3
          exact h3
        case measure => simp [intOf]; omega
      · have hin : inS S (j : Int) = true := by rw [inS_nat, hb]
        have hat : atS S f (j : Int) = (f j : Int) := by rw [atS_nat, hb]; simp
        have HE := Lib.hid (show dS S f j = (f j : Int) by simp [dS, hb])
        have hfj := HF.out j hb
        clear hb
        generalize f j = d at hat HE hfj
        go_wp2_with (first
          | (at_lookup; refine wpList_told _ rfl _ _ rfl M S f rfl HT.out (j : Int) rfl (WalkArith.wf_i64 ⟨by omega, by omega⟩) ?_; rw [hin, hat])
          | go_in)
        go_roundw
        case rel =>
          refine ⟨j + 1, by omega, by go_num, ?_, HDn.out _, HTn.out _, HBn.out _⟩
          have h3 := HSet.out (d : Int)
          rw [dTo_set S f n j _ HE.out, tabI_len] at h3
          exact h3
        case measure => simp [intOf]; omega
    · have e : j = n := by omega
      subst e
      clear hD
      go_wp2
      go_ret
      exact ⟨_, _, rfl, HB.out, by rw [← dTo_end]; exact HI.out⟩
/-- How many places of S that are not in T have f as d. -/
def cntOf (S T n : Nat) (f : Nat → Nat) (d : Nat) : Nat := sumTo (fun v => b2n (S.testBit v && !T.testBit v && (f v == d))) n
theorem cntOf_step (S T n v : Nat) (f : Nat → Nat) (d : Nat) (hS : S.testBit v = true) (hT : T.testBit v = true) (hv : v < n) : cntOf S (lessN T (2 ^ v)) n f d = cntOf S T n f d + if f v = d then 1 else 0 := by
  unfold cntOf
  rw [sumTo_one (fun u => b2n (S.testBit u && !T.testBit u && (f u == d))) _ v n (fun u hu => ?_) (by simp [hT, b2n])]
  · rw [if_pos hv]
    by_cases e : f v = d <;> simp [less_bit, hS, e, b2n]
  · have : ¬ v = u := fun h => hu h.symm
    simp [less_bit, this]
theorem cntOf_all (S n : Nat) (f : Nat → Nat) (d : Nat) : cntOf S S n f d = 0 := by
  unfold cntOf
  have : (fun v => b2n (S.testBit v && !S.testBit v && (f v == d))) = fun _ => 0 := by funext v; cases S.testBit v <;> simp [b2n]
  rw [this, sumTo_none]
theorem cntOf_le (S T n : Nat) (f : Nat → Nat) (d : Nat) : cntOf S T n f d ≤ n := by
  have := sumTo_ub (fun v => b2n (S.testBit v && !T.testBit v && (f v == d))) 1 n (fun v => by unfold b2n; split <;> omega)
  unfold cntOf
  omega
theorem cnt_tab (S T n N v : Nat) (f : Nat → Nat) (hS : S.testBit v = true) (hT : T.testBit v = true) (hv : v < n) :
    (tabI N (fun d => ((cntOf S T n f d : Nat) : Int))).set (f v) (((cntOf S T n f (f v) : Nat) : Int) + 1) = tabI N (fun d => ((cntOf S (lessN T (2 ^ v)) n f d : Nat) : Int)) := by
  rw [tabI_set]
  refine tabI_congr _ _ _ fun d hd => ?_
  rw [cntOf_step S T n v f d hS hT hv]
  by_cases e : d = f v
  · subst e; simp
  · have : ¬ f v = d := fun h => e h.symm
    simp [e, this]
/-- The layers that the model counts. -/
theorem cnt_lay (n s d : Nat) : cntOf (partN n s) 0 n (farN n s) d = layN n s n d := by
  unfold cntOf layN
  refine sumTo_congr _ _ _ fun v hv => ?_
  unfold distN
  rw [Nat.zero_testBit]
  cases (partN n s).testBit v
  · have e : ((-1 : Int) == (d : Int)) = false := by simp
    show b2n false = b2n ((-1 : Int) == (d : Int))
    rw [e]
  · show b2n (farN n s v == d) = b2n (((farN n s v : Nat) : Int) == (d : Int))
    by_cases e : farN n s v = d
    · rw [e]
      simp
    · have e2 : (((farN n s v : Nat) : Int) == (d : Int)) = false := by simp; omega
      have e1 : (farN n s v == d) = false := by simp [e]
      rw [e1, e2]
theorem dS_dist (n s v : Nat) : dS (partN n s) (farN n s) v = distN n s v := rfl
end Go.Proofs.YtnlalccnhpblkaaGreat

/- Distances in a map: a question. -/
namespace Go.Proofs.YtnlalccnhpblkaaGreat
open Go.RowKit Go.Shelf
set_option linter.unusedVariables false
attribute [local go_sem] Oper.semAt_some
theorem asker_any (w : World) :
    Calls Tryz.prog 43 #[] w fun e w' => e = .returned (.func (.func 64) #[] #[.pointer (some ⟨w.heap.size + 1, 0, none⟩)]) ∧ w' = (w.alloc (.map #[] 0)).alloc (.cells #[.map (some w.heap.size)] 62) := by
  have hmm := @run_makeMap Tryz.prog
  go_enter Tryz.func43, Tryz.ntmps43
  go_wp2
  go_ret
  refine ⟨rfl, ?_⟩
  rfl
theorem wpListIn_clear {F : Fence} {nF : Nat} (w : World) {ops : Array Oper} {rest : List Oper} {o : Oper} {a : Act} {Q : Exit → Act → World → Prop} (hg : o.guard = none) (m : Operand)
    (hop : o.op = Op.call { callee := Callee.builtin Builtin.clear, args := #[m], argTypes := #[62] }) (b S : Nat) (f g : Nat → Nat) (hm : a.eval m = .map (some b)) (hT : Tells w b S f)
    (hK : ∀ w', Tells w' b 0 g → w.grownBy w' (some b) → w'.heap.size = w.heap.size → wpListIn F nF Tryz.prog ops Q rest (a.put o.dst (.tuple #[])) w') : wpListIn F nF Tryz.prog ops Q (o :: rest) a w := by
  refine wpListIn_plain hg fun K' hK' => ?_
  obtain ⟨w', hrun, r1, r2, r3⟩ := run_clear w hT o.type g
  unfold Oper.wpIn
  refine ⟨by simp [Oper.about, hop, resolve, Target.leads, Sem.run_pure], ?_⟩
  rw [Oper.semAt_plain F _ _ (by rw [hop]; intro c hc'; cases hc')]
  simp [execOp, hop, resolve, invoke, builtin, hm, hrun, Result.andThen]
  exact hK' _ _ (hK w' r1 r2 r3)
theorem with0_any (w : World) : Calls Tryz.prog 63 #[.int .i64 0, .int .i64 0] w fun e w' => e = .returned (.int .i64 1) ∧ w = w' := by
  have h := with_any 0 0 w (by omega) (by omega)
  simpa using h
/-- The places that are met in fewer than d arcs. -/
def prevN (n s : Nat) : Nat → Nat
  | 0 => 0
  | d + 1 => iterN n s d
theorem prev_or (n s d : Nat) (h1 : 1 ≤ n) (hs : s < 2 ^ n) : prevN n s d ||| lastN n s d = iterN n s d := by
  cases d with
  | zero => show 0 ||| 1 = 1; rfl
  | succ d => exact (iter_last n s d h1 hs).symm
theorem prev_lt (n s d : Nat) (h1 : 1 ≤ n) : prevN n s d < 2 ^ n := by
  cases d with
  | zero => exact Nat.two_pow_pos n
  | succ d => exact iterN_lt n s d h1
theorem prev_end (n s d : Nat) (h1 : 1 ≤ n) (h2 : n ≤ 12) (hs : s < 2 ^ n) (hd : d ≤ n) (h : lastN n s d = 0) : prevN n s d = partN n s := by
  cases d with
  | zero => exact absurd h (by show ¬ (1 : Nat) = 0; omega)
  | succ d =>
    have e := last_zero n s d h1 hs h
    have a := iter_stop n s d e (n - d)
    rw [show d + (n - d) = n by omega, iter_part n s h1 h2 hs] at a
    exact a.symm
theorem last_step (n s d : Nat) (h1 : 1 ≤ n) (hs : s < 2 ^ n) : lessN (sumN n (lastN n s d) s) (iterN n s d) = lastN n s (d + 1) := by
  rw [sum_comm n _ _ h1 (lastN_lt n s d h1) hs]
  rfl
/-- A set with the places that have come. -/
def addS (v x : Nat) : Nat := x ||| 2 ^ v
theorem add_bit (L a k i : Nat) : (overSet L addS k a).testBit i = (a.testBit i || (L.testBit i && decide (i < k))) := by
  induction k with
  | zero => simp [overSet, upto]
  | succ k ih =>
    rw [over_step]
    cases hb : L.testBit k
    · simp only [Bool.false_eq_true, if_false]
      rw [ih]
      by_cases e : i = k
      · subst e; simp [hb]
      · have : decide (i < k + 1) = decide (i < k) := by simp; omega
        rw [this]
    · simp only [if_true]
      show (overSet L addS k a ||| 2 ^ k).testBit i = _
      rw [Nat.testBit_or, ih, Nat.testBit_two_pow]
      by_cases e : i = k
      · subst e; simp [hb]
      · have h1 : decide (i < k + 1) = decide (i < k) := by simp; omega
        have h2 : decide (k = i) = false := by simp; omega
        rw [h1, h2, Bool.or_false]
theorem add_all (n L a : Nat) (hL : L < 2 ^ n) : fold addS a (vals (comeTo n L n)) = a ||| L := by
  rw [fold_come]
  refine Nat.eq_of_testBit_eq fun i => ?_
  rw [add_bit, Nat.testBit_or]
  cases hb : L.testBit i
  · simp
  · have := lt_of_bits n L hL i hb
    simp [this]
/-- What the map tells when some places of a layer have come. -/
def tellsAt (f : Nat → Nat) (d : Nat) (pre : List Nat) (u : Nat) : Nat := if u ∈ pre then d else f u
theorem tells_come {W : World} {M n s d : Nat} (h1 : 1 ≤ n) (h2 : n ≤ 12) (hs : s < 2 ^ n)
    (h : Tells W M (fold addS (prevN n s d) (vals (comeTo n (lastN n s d) n))) (tellsAt (farN n s) d (vals (comeTo n (lastN n s d) n)))) : Tells W M (iterN n s d) (farN n s) := by
  rw [add_all n _ _ (lastN_lt n s d h1), prev_or n s d h1 hs] at h
  refine tells_congr h fun v hv => ?_
  unfold tellsAt
  split
  · rename_i hm
    simp only [vals, List.mem_map] at hm
    obtain ⟨x, hx, rfl⟩ := hm
    exact (far_last n s _ d h1 h2 hs (comeTo_mem n _ n x hx)).symm
  · rfl
theorem tells_own {β : Type} {M B : Nat} (hM : M < B) (S : β → Nat) (f : β → Nat → Nat) : OwnFrom B (fun s W => Tells W M (S s) (f s)) :=
  fun s W W' row h hg hr => h.kept hg (fun e => by have := (hr M e.symm).1; omega)
end Go.Proofs.YtnlalccnhpblkaaGreat

/- Distances in a map: the question itself. -/
namespace Go.Proofs.YtnlalccnhpblkaaGreat
open Go.RowKit Go.Shelf
set_option linter.unusedVariables false
attribute [local go_sem] Oper.semAt_some
/-- Block B has room for distances, and holds none. -/
def Room (W : World) (B : Nat) : Prop := W.heap[B]? = some (.cells #[.int .i64 0, .int .i64 0, .map none] 64 (0, 0))
theorem Room.new (W : World) : Room (W.alloc (.cells #[.int .i64 0, .int .i64 0, .map none] 64)) W.heap.size := World.alloc_heap_new W _
theorem Room.same {W W' : World} {B : Nat} (h : Room W B) (e : W'.heap[B]? = W.heap[B]?) : Room W' B := e.trans h
theorem Room.lt {W : World} {B : Nat} (h : Room W B) : B < W.heap.size := (Array.getElem?_eq_some_iff.1 h).1
theorem Room.kept {W W' : World} {row : Option Nat} {B : Nat} (h : Room W B) (hg : W.grownBy W' row) (hne : some B ≠ row) : Room W' B := h.same (hg.block B h.lt hne)
theorem Room.alloc {W : World} {B : Nat} (h : Room W B) (o : Obj) : Room (W.alloc o) B := h.kept (World.grownBy_alloc W o none) (by simp)
theorem room_own {β : Type} {R B : Nat} (hR : R < B) : OwnFrom B (fun (_ : β) W => Room W R) := fun s W W' row h hg hr => h.kept hg (fun e => by have := (hr R e.symm).1; omega)
theorem Room.cell0 {W : World} {B : Nat} (h : Room W B) : W.cell? ⟨B, 0, none⟩ = some (.int .i64 0) := by simp [World.cell?, show W.heap[B]? = _ from h]
theorem Room.cell1 {W : World} {B : Nat} (h : Room W B) : W.cell? ⟨B, 1, none⟩ = some (.int .i64 0) := by simp [World.cell?, show W.heap[B]? = _ from h]
theorem Room.cell2 {W : World} {B : Nat} (h : Room W B) : W.cell? ⟨B, 2, none⟩ = some (.map none) := by simp [World.cell?, show W.heap[B]? = _ from h]
theorem Room.frozen {W : World} {B : Nat} (h : Room W B) (i : Nat) : W.frozen? ⟨B, i, none⟩ = false := by simp [World.frozen?, show W.heap[B]? = _ from h]
theorem Room.tri {W : World} {B : Nat} (h : Room W B) (n s M : Nat) : Tri (((W.setCell ⟨B, 0, none⟩ (.int .i64 (n:Int))).setCell ⟨B, 1, none⟩ (.int .i64 (s:Int))).setCell ⟨B, 2, none⟩ (.map (some M))) B n s M := by
  have hB := h.lt
  unfold Room at h
  unfold Tri
  simp [World.setCell, Array.getElem?_modify, h]
/-- The number in the box that slot 6 points to. -/
def dOf (a : Act) (w : World) : Nat :=
  match a.tmps.getD 6 undef with
  | .pointer (some p) => intOf ((w.cell? p).getD undef) |>.toNat
  | _ => 0
set_option maxRecDepth 100000 in
set_option maxHeartbeats 4000000 in
theorem ask_any (n s M Ob S0 : Nat) (f0 : Nat → Nat) (w : World) (h1 : 1 ≤ n) (h2 : n ≤ 12) (hs : s < 2 ^ n) (hO : Boxed w Ob 62 (.map (some M))) (hT : Tells w M S0 f0) :
    Calls Tryz.prog 64 #[.agg #[.int .i64 (n:Int), .int .i64 (s:Int)], .pointer (some ⟨Ob, 0, none⟩)] w fun e w' =>
      e = .returned (.agg #[.int .i64 (n:Int), .int .i64 (s:Int), .map (some M)]) ∧ Aside M w w' ∧ Tells w' M (partN n s) (farN n s) := by
  have HT1 := Lib.hid ((hT.alloc (.cells #[.int .i64 (n:Int), .int .i64 (s:Int)] 58)).alloc (.cells #[.int .i64 0, .int .i64 0, .map none] 64))
  have hO1 := (hO.alloc (.cells #[.int .i64 (n:Int), .int .i64 (s:Int)] 58)).alloc (.cells #[.int .i64 0, .int .i64 0, .map none] 64)
  have cO := hO1.cell
  have HW := Lib.hid (fun W => with0_any W)
  have hMO : Ob ≠ M := fun e => by
    obtain ⟨o, ho, hc⟩ := hT.obj
    have hO' : w.heap[Ob]? = some (.cells #[.map (some M)] 62 (0, 0)) := hO
    rw [← e, hO'] at ho
    cases ho
    cases hc
  have hMl := hT.lt
  have hOl := hO.lt
  have hW1 := (Room.new (w.alloc (.cells #[.int .i64 (n:Int), .int .i64 (s:Int)] 58)))
  have hD1 := (Duo.new w 58 (.int .i64 (n:Int)) (.int .i64 (s:Int))).alloc (.cells #[.int .i64 0, .int .i64 0, .map none] 64)
  have hA1 : Aside M w ((w.alloc (.cells #[.int .i64 (n:Int), .int .i64 (s:Int)] 58)).alloc (.cells #[.int .i64 0, .int .i64 0, .map none] 64)) := ((Aside.refl M w).alloc _).alloc _
  rw [World.size_alloc] at hW1
  refine (callsIn_wide (n := 12)).1 ?_
  refine callsIn_of_wp_marks Tryz.func64 rfl trivial ?_ rfl
  simp only [Tryz.ntmps64, List.size_toArray, List.length_cons, List.length_nil, Nat.reduceAdd, Nat.reduceSub, Array.replicate_succ, Array.replicate_zero, List.push_toArray, List.append_toArray, List.nil_append, List.cons_append]
  gi_wp2_with (first
    | (refine wpListIn_clear _ rfl _ rfl M S0 f0 (farN n s) rfl HT1.out ?_; intro w1 hT1 hg1 hs1)
    | (refine ⟨trivial, ?_⟩; gi_at_call 63; refine (callsIn_wide.2 (HW.out _)).mono ?_; rintro e w' ⟨rfl, rfl⟩))
  rw [World.size_alloc, World.size_alloc] at hs1
  have hD2 := (hD1.kept hg1 (by simp; omega)).alloc (.cells #[.int .i64 0] 3)
  have hR2 := (hW1.kept hg1 (by simp; omega)).alloc (.cells #[.int .i64 0] 3)
  have hA2 := (hA1.after (aside_grown hg1 (fun k e => by cases e; exact .inl rfl))).alloc (.cells #[.int .i64 0] 3)
  have hT2 := hT1.alloc (.cells #[.int .i64 0] 3)
  have hBd := Boxed.new w1 3 (.int .i64 0)
  rw [hs1] at hBd
  clear hT1 hg1 hD1 hW1 hA1 hO1 cO HT1 HW hT
  obtain ⟨W2, hW2⟩ : ∃ W2, w1.alloc (.cells #[.int .i64 0] 3) = W2 := ⟨_, rfl⟩
  rw [hW2] at hD2 hR2 hA2 hT2 hBd ⊢
  clear hW2
  refine wpIn_loop (fun a' wr => ∃ (d Bd : Nat) (ds : List Deferred) (u7 u10 u11 u12 u13 u14 u15 u16 u17 u18 u19 u20 u21 u22 u23 u24 u25 u26 u27 u28 u29 u30 u31 : Value), (d ≤ n ∧ w.heap.size + 1 < Bd ∧ Boxed wr Bd 3 (.int .i64 (d:Int)) ∧ Duo wr w.heap.size 58 (.int .i64 (n:Int)) (.int .i64 (s:Int)) ∧ Room wr (w.heap.size + 1) ∧ Tells wr M (prevN n s d) (farN n s) ∧ Aside M w wr ∧ Marks w.heap.size wr ds) ∧ a' = { tmps := #[.agg #[.int .i64 (n:Int), .int .i64 (s:Int)], .pointer (some ⟨Ob, 0, none⟩), .pointer (some ⟨w.heap.size, 0, none⟩), .pointer (some ⟨w.heap.size + 1, 0, none⟩), .int .i64 ((prevN n s d : Nat) : Int), .int .i64 ((lastN n s d : Nat) : Int), .pointer (some ⟨Bd, 0, none⟩), u7, .map (some M), .int .i64 1, u10, u11, u12, u13, u14, u15, u16, u17, u18, u19, u20, u21, u22, u23, u24, u25, u26, u27, u28, u29, u30, u31, undef, undef, undef], defers := ds }) (fun a' wr => n + 1 - dOf a' wr) ?_ ?_
  · exact ⟨0, w.heap.size + 1 + 1, [], _, _, _, _, _, _, _, _, _, _, _, _, _, _, _, _, _, _, _, _, _, _, _, ⟨Nat.zero_le _, by omega, hBd, hD2, hR2, hT2, hA2, .nil⟩, rfl⟩
  rintro a' wr ⟨d, Bd, ds, u7, u10, u11, u12, u13, u14, u15, u16, u17, u18, u19, u20, u21, u22, u23, u24, u25, u26, u27, u28, u29, u30, u31, ⟨hd, hBd1, hBd2, hD, hR, hT, hA, hM⟩, rfl⟩
  have HT := Lib.hid hT
  have HA := Lib.hid hA
  have HM := Lib.hid hM
  have HR := Lib.hid hR
  have hBl := hBd2.lt
  have hOw : Boxed wr Ob 62 (.map (some M)) := hA.box hO hMO
  have cO := hOw.cell
  have cB := hBd2.cell
  have HcB := Lib.hid hBd2.cell
  have d0 := hD.cell0
  have d1 := hD.cell1
  have hzw := hA.size
  have HE := Lib.hid (prev_end n s d h1 h2 hs hd)
  have HP := Lib.hid (prev_or n s d h1 hs)
  have HSt := Lib.hid (last_step n s d h1 hs)
  have hll := lastN_lt n s d h1
  have hpl := prev_lt n s d h1
  have hil := iterN_lt n s d h1
  have hdn := last_le n s d h1 h2 hs
  have hpw := pow_le n h2
  have HC := Lib.hid (fun W => @tells_come W M n s d h1 h2 hs)
  have hor := or_nat (prevN n s d) (lastN n s d) (by omega) (by omega)
  rw [HP.out] at hor
  clear hT hA hM hR HP
  obtain ⟨L, hL⟩ : ∃ L, lastN n s d = L := ⟨_, rfl⟩
  obtain ⟨p, hp⟩ : ∃ p, prevN n s d = p := ⟨_, rfl⟩
  rw [hL] at hll hdn hor ⊢
  rw [hp] at hpl hor ⊢
  by_cases hz : L = 0
  · have HPP := Lib.hid (hp.symm.trans (HE.out (hL.trans hz)))
    subst hz
    have r0 := HR.out.cell0
    have r1 := HR.out.cell1
    have r2 := HR.out.cell2
    have f0 := HR.out.frozen 0
    have f1 := HR.out.frozen 1
    have f2 := HR.out.frozen 2
    clear hor hL
    gi_wp2
    have hA9 := ((HA.out.cell ⟨w.heap.size + 1, 0, none⟩ (by simp) (.int .i64 (n:Int))).cell ⟨w.heap.size + 1, 1, none⟩ (by simp) (.int .i64 (s:Int))).cell ⟨w.heap.size + 1, 2, none⟩ (by simp) (.map (some M))
    have hT9 := ((HT.out.setCell ⟨w.heap.size + 1, 0, none⟩ (.int .i64 (n:Int)) (by simp; omega)).setCell ⟨w.heap.size + 1, 1, none⟩ (.int .i64 (s:Int)) (by simp; omega)).setCell ⟨w.heap.size + 1, 2, none⟩ (.map (some M)) (by simp; omega)
    have hR9 := HR.out.tri n s M
    refine leaves_marks (N := w.heap.size) (fun W => Tri W (w.heap.size + 1) n s M ∧ Aside M w W ∧ Tells W M (partN n s) (farN n s)) ?_ ?_ ds _ ?_ ⟨hR9, hA9, ?_⟩
    · rintro W D ⟨g1, g2, g3⟩ hD hN
      have hD' : W.heap[D]? = some (.deferred (some [])) := hD
      have n1 : w.heap.size + 1 ≠ D := fun e => by
        have g1' : W.heap[w.heap.size + 1]? = some _ := g1
        rw [e, hD'] at g1'
        cases g1'
      exact ⟨g1.kept (grownBy_putObj' W D _) (fun e => n1 (by cases e; rfl)), g2.put D hN _, g3.kept (grownBy_putObj' W D _) (fun e => by cases e; omega)⟩
    · rintro W ⟨g1, g2, g3⟩
      have c0 := g1.cell0
      have c1 := g1.cell1
      have c2 := g1.cell2
      exact ⟨_, by simp [results, Tryz.results64, go_sem, c0, c1, c2], rfl, g2, g3⟩
    · exact marks_ne HM.out (w.heap.size + 1) ⟨_, HR.out, fun x e => by cases e⟩ (fun k _ hk => by rw [Below.heap_setCell _ _ _ _ (by simpa using hk), Below.heap_setCell _ _ _ _ (by simpa using hk), Below.heap_setCell _ _ _ _ (by simpa using hk)])
    · have e := hp.trans HPP.out
      rw [← e]
      exact hT9
  · have hz2 : ¬ ((L : Int) = 0) := by omega
    have hzb : ((L : Int) == 0) = false := by simp; omega
    have hzn : ((L : Int) != 0) = true := by simp; omega
    have hdn' := hdn hz
    clear hz hdn
    gi_wp2_with (refine ⟨trivial, ?_⟩; gi_at_call 62; refine (callsIn_wide.2 (places_any _ _)).mono ?_; rintro e w' ⟨rfl, rfl⟩)
    have bP := Boxed.new wr 56 (.int .i64 (L:Int))
    have bD := hBd2.alloc (.cells #[.int .i64 (L:Int)] 56)
    have bU := hD.alloc (.cells #[.int .i64 (L:Int)] 56)
    have bR := HR.out.alloc (.cells #[.int .i64 (L:Int)] 56)
    have bO := hOw.alloc (.cells #[.int .i64 (L:Int)] 56)
    have bT : Tells (wr.alloc (.cells #[.int .i64 (L:Int)] 56)) M (fold addS p (vals ([] : List (Fin n)))) (tellsAt (farN n s) d (vals ([] : List (Fin n)))) := by
      have h := HT.out.alloc (.cells #[.int .i64 (L:Int)] 56)
      rw [hp] at h
      exact tells_congr h (fun v _ => by simp [tellsAt, vals])
    have bA := HA.out.alloc (.cells #[.int .i64 (L:Int)] 56)
    have bM := marks_alloc HM.out (.cells #[.int .i64 (L:Int)] 56)
    have hsz : (wr.alloc (.cells #[.int .i64 (L:Int)] 56)).heap.size = wr.heap.size + 1 := by simp
    obtain ⟨W0, hW0⟩ : ∃ W0, wr.alloc (.cells #[.int .i64 (L:Int)] 56) = W0 := ⟨_, rfl⟩
    rw [hW0] at bP bD bU bR bO bT bA bM hsz ⊢
    clear hW0 cO cB d0 d1 HT HA HM HR hOw hBd2 hD
    have HHC := Lib.hid (fun W => HC.out W)
    rw [hL, hp] at HHC
    refine wpIn_rangeFunc_ownG rfl (by omega) (gf := 78) (lb := #[.pointer (some ⟨wr.heap.size, 0, none⟩)]) rfl trivial (enters_of Tryz.func78 (by kernel_rfl) rfl)
      (places_stops 11 (by omega) wr.heap.size 0 n L hll h2 W0 bP) KB.trans (KB.put (Nat.zero_le _)) (Below.refl _ _) (fun _ => rfl)
      (fun pre W => (((((Boxed W Bd 3 (.int .i64 (d:Int)) ∧ Duo W w.heap.size 58 (.int .i64 (n:Int)) (.int .i64 (s:Int))) ∧ Room W (w.heap.size + 1)) ∧ Boxed W Ob 62 (.map (some M))) ∧ Tells W M (fold addS p (vals pre)) (tellsAt (farN n s) d (vals pre))) ∧ Aside M w W) ∧ (Marks w.heap.size W ds ∧ ∀ D, Mark W0 D → Mark W D))
      (fun _ _ _ => False)
      (OwnFrom.and (OwnFrom.and (OwnFrom.and (OwnFrom.and (OwnFrom.and (OwnFrom.and (Own.from (boxed_own _ _ _) _) (Own.from (duo_own _ _ _ _) _)) (room_own (by omega))) (Own.from (boxed_own _ _ _) _)) (tells_own (by omega) (fun pre => fold addS p (vals pre)) (fun pre => tellsAt (farN n s) d (vals pre)))) (aside_own (by omega))) (marks_own bM (Nat.le_refl _)))
      (fun _ _ _ _ _ hs _ _ => hs)
      ⟨⟨⟨⟨⟨⟨bD, bU⟩, bR⟩, bO⟩, bT⟩, bA⟩, bM, fun D h => h⟩
      (fun x => { tmps := #[.agg #[.int .i64 (n:Int), .int .i64 (s:Int)], .pointer (some ⟨Ob, 0, none⟩), .pointer (some ⟨w.heap.size, 0, none⟩), .pointer (some ⟨w.heap.size + 1, 0, none⟩), .int .i64 (p:Int), .int .i64 (L:Int), .pointer (some ⟨Bd, 0, none⟩), .int .i64 (x.val : Int), .map (some M), .int .i64 1, .int .i64 (L:Int), .bool true, u12, u13, .int .i64 (L:Int), .func (.func 78) #[] #[.pointer (some ⟨wr.heap.size, 0, none⟩)], .int .i64 (x.val : Int), u17, u18, u19, u20, u21, u22, u23, u24, u25, u26, u27, u28, u29, u30, u31, undef, undef, undef], defers := [] }) ?assign ?body ?done ?stop
    case assign =>
      intro l x W K hK
      gi_wp2
      exact hK
    case body =>
      rintro l pre x W ⟨⟨⟨⟨⟨⟨bD1, bU1⟩, bR1⟩, bO1⟩, bT1⟩, bA1⟩, bM1, bm1⟩ _
      have cO := bO1.cell
      have cB := bD1.cell
      have hx := x.isLt
      have hT1 := Lib.hid bT1
      have HG1 : Hid (tellsAt (farN n s) d (vals (pre ++ [x])) x.val = d) := Lib.hid (by rw [vals_snoc]; simp [tellsAt])
      have HG2 : Hid (∀ u, u ≠ x.val → tellsAt (farN n s) d (vals (pre ++ [x])) u = tellsAt (farN n s) d (vals pre) u) := Lib.hid (fun u hu => by rw [vals_snoc]; simp [tellsAt, hu])
      have HF := Lib.hid (fold_snoc addS p pre x)
      clear bT1
      gi_wp2_with (first
        | (refine wpListIn_putT _ rfl _ _ _ rfl M _ _ (tellsAt (farN n s) d (vals (pre ++ [x]))) rfl hT1.out x.val d rfl rfl (by omega) (by omega) HG1.out HG2.out ?_; intro w3 hT3 hg3 hs3))
      have hne : ∀ D, Mark W D → Mark w3 D := fun D hD => (hg3.block D (Array.getElem?_eq_some_iff.1 hD).1 (fun e => by
        obtain ⟨es, c, hm⟩ := hT1.out.isMap
        cases e
        have hD' : W.heap[M]? = some (.deferred (some [])) := hD
        rw [hm] at hD'
        cases hD')).trans hD
      exact ⟨KeepsFrom.of_grownBy hg3 (fun j e => by cases e; omega), ⟨fun t v hb => hb.kept hg3 (by simp; omega), ⟨hg3.os, hg3.tape, hg3.output, hg3.size, fun k hk => absurd hk (by omega)⟩⟩,
        ⟨⟨⟨⟨⟨bD1.kept hg3 (by simp; omega), bU1.kept hg3 (by simp; omega)⟩, bR1.kept hg3 (by simp; omega)⟩, bO1.kept hg3 (by simp; exact hMO)⟩, by rw [HF.out]; exact hT3⟩, bA1.after (aside_grown hg3 (fun k e => by cases e; exact .inl rfl))⟩,
        bM1.same hne, fun D hD => hne D (bm1 D hD)⟩
    case done =>
      rintro D ys W hD rfl ⟨⟨⟨⟨⟨⟨bD1, bU1⟩, bR1⟩, bO1⟩, bT1⟩, bA1⟩, bM1, _⟩ hK
      have HT1 := Lib.hid (HHC.out W bT1)
      have HM1 : Hid (Marks w.heap.size W ({ target := .collected D, args := #[] } :: ds)) := Lib.hid (.cons D ds hK (by omega) (bM.fresh hD) bM1)
      have HA1 := Lib.hid bA1
      have HR1 := Lib.hid bR1
      have cB := bD1.cell
      have d0 := bU1.cell0
      have d1 := bU1.cell1
      have hsl := sumN_lt n L s
      have hle := less_nat (sumN n L s) (iterN n s d) (by omega) (by omega)
      have hSt := HSt.out
      rw [hL] at hSt
      rw [hSt] at hle
      have HSum := Lib.hid (fun W => sum_any n L s W h1 h2 hll hs)
      clear bT1 bA1 bM1 bR1 hSt HHC HC
      gi_wp2_with (refine ⟨trivial, ?_⟩; gi_at_call 65; refine (callsIn_wide.2 (HSum.out _)).mono ?_; rintro e W2 ⟨rfl, hb2⟩; have cB2 := boxed_below bD1 bD1.lt hb2 |>.cell)
      have z2 := hb2.size
      have zB := bD1.lt
      have hA2 := (HA1.out.callT hb2).alloc (.cells #[.int .i64 ((d:Int) + 1)] 3)
      have hT2 := (HT1.out.belowAll hb2).alloc (.cells #[.int .i64 ((d:Int) + 1)] 3)
      have hM2 := marks_alloc (marks_below HM1.out hb2) (.cells #[.int .i64 ((d:Int) + 1)] 3)
      have hR2 := (HR1.out.same (hb2.block _ HR1.out.lt)).alloc (.cells #[.int .i64 ((d:Int) + 1)] 3)
      have hU2 := (duo_below bU1 bU1.lt hb2).alloc (.cells #[.int .i64 ((d:Int) + 1)] 3)
      have hB2 := Boxed.new W2 3 (.int .i64 ((d:Int) + 1))
      have ed : (d:Int) + 1 = ((d + 1 : Nat) : Int) := by omega
      have cNew := hB2.cell
      refine ⟨⟨d + 1, W2.heap.size, _, u7, _, _, _, _, _, _, _, _, _, _, _, _, _, _, _, _, _, _, _, _, _, _, ⟨by omega, by omega, by rw [← ed]; exact hB2, hU2, hR2, hT2, hA2, hM2⟩, rfl⟩, ?_⟩
      have cOld := HcB.out
      clear HT1 HA1 HM1 HR1 hA2 hT2 hM2 hR2 hU2 hB2
      simp [dOf, cNew, cOld, intOf]
      omega
    case stop =>
      rintro D c pre W _ _ h _
      exact h.elim
end Go.Proofs.YtnlalccnhpblkaaGreat

/- Distances of steps: the program's small functions. -/
namespace Go.Proofs.YtnlalccnhpblkaaGreat
open Go.RowKit Go.Shelf
set_option linter.unusedVariables false
attribute [local go_sem] Oper.semAt_some
theorem run_looks {w : World} {b S : Nat} {f : Nat → Nat} (hT : Tells w b S f) (v : Int) (hv : -1000000 ≤ v ∧ v ≤ 1000000) (z : Int) (hz : atS S f v = z) :
    (Instr.lookup 62 (.map (some b)) (.int .i64 v) false).run Tryz.prog w = .ok (.int .i64 z) w := by
  rw [← hz]
  exact run_tells w hT v hv
theorem atS_le {S : Nat} {f : Nat → Nat} (hf : ∀ v, S.testBit v = true → f v ≤ 12) (x : Int) : 0 ≤ atS S f x ∧ atS S f x ≤ 12 := by
  unfold atS
  cases hb : inS S x
  · simp
  · have h : S.testBit x.toNat = true := by simp [inS] at hb; exact hb.2
    have := hf _ h
    simp only [if_true]
    omega
set_option maxRecDepth 100000 in
set_option maxHeartbeats 4000000 in
theorem distancesOf_yes (n s : Nat) (w : World) (h1 : 1 ≤ n) (h2 : n ≤ 12) (hs : s < 2 ^ n) (h0 : s.testBit 0 = false) :
    Calls Tryz.prog 24 #[.int .i64 (n:Int), .int .i64 (s:Int)] w fun e w' => ∃ M, e = .returned (.tuple #[.agg #[.int .i64 (n:Int), .int .i64 (s:Int), .map (some M)], .bool true]) ∧ Below w.heap.size w w' ∧ w.heap.size ≤ M ∧ Tells w' M (partN n s) (farN n s) := by
  have hmx : Tryz.prog.follows .mixedOrders = true := by kernel_rfl
  have hO := stepsOf_yes n s (w.alloc (.cells #[.int .i64 0, .int .i64 0, .map none] 64)) h1 h2 hs h0
  simp only [World.size_alloc] at hO
  have HO := Lib.hid hO
  have HAsk := Lib.hid (fun M Ob f0 W hO hT => ask_any n s M Ob 0 f0 W h1 h2 hs hO hT)
  clear hO h0
  go_enter Tryz.func24, Tryz.ntmps24
  go_wp2_with fail
  refine HO.out.mono ?_
  rintro e w1 ⟨rfl, hb1⟩
  have hR1 := (Room.new w).same (hb1.block _ (by simp))
  have hB1 : Below w.heap.size w w1 := ((Below.refl _ _).alloc (Nat.le_refl _) _).trans (hb1.mono (by simp))
  have z1 := hb1.size
  rw [World.size_alloc] at z1
  clear hb1
  go_wp2
  have hD2 := Duo.new w1 58 (.int .i64 (n:Int)) (.int .i64 (s:Int))
  have hR2 := hR1.alloc (.cells #[.int .i64 (n:Int), .int .i64 (s:Int)] 58)
  have hB2 := hB1.alloc (by omega) (.cells #[.int .i64 (n:Int), .int .i64 (s:Int)] 58)
  have z2 : (w1.alloc (.cells #[.int .i64 (n:Int), .int .i64 (s:Int)] 58)).heap.size = w1.heap.size + 1 := by simp
  obtain ⟨W0, hW0⟩ : ∃ W0, w1.alloc (.cells #[.int .i64 (n:Int), .int .i64 (s:Int)] 58) = W0 := ⟨_, rfl⟩
  rw [hW0] at hD2 hR2 hB2 z2 ⊢
  clear hW0 hR1 hB1
  have hA0 : Duo W0.drew w1.heap.size 58 (.int .i64 (n:Int)) (.int .i64 (s:Int)) := hD2
  have hR3 : Room W0.drew w.heap.size := hR2
  have hB3 := hB2.drew
  have z3 : W0.drew.heap.size = w1.heap.size + 1 := z2
  refine wp_region_held_drew (S := fun W => Duo W w1.heap.size 58 (.int .i64 (n:Int)) (.int .i64 (s:Int))) hmx hA0 (fun _ => ?_)
  generalize W0.drew = W1 at *
  have HZ3 := Lib.hid z3
  clear hD2 hR2 hB2 z2 z3
  refine take1 1 (v := ?_) rfl (by kernel_rfl) (by kernel_rfl) (by kernel_rfl) (fun _ _ _ h => h) (by rfl) ?_ hA0 ?_
  rotate_left
  · intro W9 hA
    have c0 := hA.cell0
    have c1 := hA.cell1
    clear hA
    go_simp
    try with_reducible rfl
  try simp only [Act.put, List.setIfInBounds_toArray, List.set_cons_zero, List.set_cons_succ]
  refine step1 0 (by kernel_rfl) rfl (fun K hK => ?_)
  go_simp
  refine (asker_any _).mono ?_
  rintro e W2 ⟨rfl, rfl⟩
  go_wp2_with fail
  have hA1 := (hA0.alloc (.map #[] 0)).alloc (.cells #[.map (some W1.heap.size)] 62)
  have hR4 := (hR3.alloc (.map #[] 0)).alloc (.cells #[.map (some W1.heap.size)] 62)
  have hB4 := (hB3.alloc (by have := HZ3.out; omega) (.map #[] 0)).alloc (by have := HZ3.out; simp; omega) (.cells #[.map (some W1.heap.size)] 62)
  have hT4 := (tells_made W1 (fun _ => 0)).alloc (.cells #[.map (some W1.heap.size)] 62)
  have hO4 := Boxed.new (W1.alloc (.map #[] 0)) 62 (.map (some W1.heap.size))
  rw [World.size_alloc] at hO4
  refine hK.out _ _ hA1 ?_
  clear hK K
  try simp only [Act.put, List.setIfInBounds_toArray, List.set_cons_zero, List.set_cons_succ]
  obtain ⟨W2, hW2⟩ : ∃ W2, (W1.alloc (.map #[] 0)).alloc (.cells #[.map (some W1.heap.size)] 62) = W2 := ⟨_, rfl⟩
  rw [hW2] at hA1 hR4 hB4 hT4 hO4 ⊢
  clear hW2
  refine step1 2 (by kernel_rfl) rfl (fun K hK => ?_)
  go_simp
  refine (HAsk.out _ _ _ W2 hO4 hT4).mono ?_
  rintro e W3 ⟨rfl, hA5, hT5⟩
  go_wp2_with fail
  have hA6 := hA5.duo hA1 (by have := HZ3.out; omega)
  have hR6 := hR4.same (hA5.block _ hR4.lt (by have := HZ3.out; omega))
  have hB6 : Below w.heap.size w W3 := hB4.trans (hA5.below (by have := HZ3.out; omega) (by have := hB4.size; omega))
  refine hK.out _ _ hA6 ?_
  clear hK K
  try simp only [Act.put, List.setIfInBounds_toArray, List.set_cons_zero, List.set_cons_succ]
  have r0 := hR6.cell0
  have r1 := hR6.cell1
  have r2 := hR6.cell2
  have f0 := hR6.frozen 0
  have f1 := hR6.frozen 1
  have f2 := hR6.frozen 2
  refine step1 3 (by kernel_rfl) rfl (fun K hK => ?_)
  go_simp
  have hA7 := hA6.same ((Below.heap_setCell _ ⟨w.heap.size, 2, none⟩ (.map (some W1.heap.size)) _ (by have := HZ3.out; simp; omega)).trans ((Below.heap_setCell _ ⟨w.heap.size, 1, none⟩ (.int .i64 (s:Int)) _ (by have := HZ3.out; simp; omega)).trans (Below.heap_setCell W3 ⟨w.heap.size, 0, none⟩ (.int .i64 (n:Int)) _ (by have := HZ3.out; simp; omega))))
  have hT7 := hT5.same ((Below.heap_setCell _ ⟨w.heap.size, 2, none⟩ (.map (some W1.heap.size)) _ (by have := HZ3.out; simp; omega)).trans ((Below.heap_setCell _ ⟨w.heap.size, 1, none⟩ (.int .i64 (s:Int)) _ (by have := HZ3.out; simp; omega)).trans (Below.heap_setCell W3 ⟨w.heap.size, 0, none⟩ (.int .i64 (n:Int)) _ (by have := HZ3.out; simp; omega))))
  have hB7 := ((hB6.setCell (p := ⟨w.heap.size, 0, none⟩) (by simp) (.int .i64 (n:Int))).setCell (p := ⟨w.heap.size, 1, none⟩) (by simp) (.int .i64 (s:Int))).setCell (p := ⟨w.heap.size, 2, none⟩) (by simp) (.map (some W1.heap.size))
  have hR7 := hR6.tri n s W1.heap.size
  refine hK.out _ _ hA7 ?_
  clear hK K
  try simp only [Act.put, List.setIfInBounds_toArray, List.set_cons_zero, List.set_cons_succ]
  refine step1 4 (by kernel_rfl) rfl (fun K hK => ?_)
  go_simp
  refine hK.out _ _ hA7 ?_
  clear hK K
  try simp only [Act.put, List.setIfInBounds_toArray, List.set_cons_zero, List.set_cons_succ]
  refine stop1 (by kernel_rfl) ?_
  go_wp2
  have c0 := hR7.cell0
  have c1 := hR7.cell1
  have c2 := hR7.cell2
  refine bodyPost_ret (v := .tuple #[.agg #[.int .i64 (n:Int), .int .i64 (s:Int), .map (some W1.heap.size)], .bool true]) ?_ rfl ⟨_, rfl, hB7, by have := HZ3.out; omega, hT7⟩
  simp [results, Tryz.results24, go_sem, c0, c1, c2]
theorem distancesOf_no (n s : Int) (w : World) (h : NoStep n s) :
    Calls Tryz.prog 24 #[.int .i64 n, .int .i64 s] w fun e w' => e = .returned (.tuple #[.agg #[.int .i64 0, .int .i64 0, .map none], .bool false]) ∧ Below w.heap.size w w' := by
  have hO := stepsOf_no n s (w.alloc (.cells #[.int .i64 0, .int .i64 0, .map none] 64)) h
  simp only [World.size_alloc] at hO
  have HO := Lib.hid hO
  clear hO h
  go_enter Tryz.func24, Tryz.ntmps24
  go_wp2_with fail
  refine HO.out.mono ?_
  rintro e w1 ⟨rfl, hb1⟩
  have hR1 := (Room.new w).same (hb1.block _ (by simp))
  have hB1 : Below w.heap.size w w1 := ((Below.refl _ _).alloc (Nat.le_refl _) _).trans (hb1.mono (by simp))
  have z1 := hb1.size
  rw [World.size_alloc] at z1
  clear hb1
  have hR2 := hR1.alloc (.cells #[.int .i64 0, .int .i64 0] 58)
  have hB2 := hB1.alloc (by omega) (.cells #[.int .i64 0, .int .i64 0] 58)
  have r0 := hR2.cell0
  have r1 := hR2.cell1
  have r2 := hR2.cell2
  have f0 := hR2.frozen 0
  have f1 := hR2.frozen 1
  have f2 := hR2.frozen 2
  go_wp2
  have hB3 := ((hB2.setCell (p := ⟨w.heap.size, 0, none⟩) (by simp) (.int .i64 0)).setCell (p := ⟨w.heap.size, 1, none⟩) (by simp) (.int .i64 0)).setCell (p := ⟨w.heap.size, 2, none⟩) (by simp) (.map none)
  refine bodyPost_ret (v := .tuple #[.agg #[.int .i64 0, .int .i64 0, .map none], .bool false]) ?_ rfl ⟨rfl, hB3⟩
  simp [results, Tryz.results24, go_sem, r0, r1, r2]
end Go.Proofs.YtnlalccnhpblkaaGreat

/- FarList, FarMost, FarSum, FarLayers: the program, as others call it. -/
namespace Go.Proofs.YtnlalccnhpblkaaGreat
open Go.RowKit
set_option linter.unusedVariables false
theorem part_one (n s : Nat) (h1 : 1 ≤ n) (h : partsN n s = 1) : partN n s = 2 ^ n - 1 := by
  refine Nat.eq_of_testBit_eq fun i => ?_
  rw [Nat.testBit_two_pow_sub_one, Bool.eq_iff_iff, part_bit n s i h1, h, decide_eq_true_eq]
  exact ⟨fun h => h.1, fun h => ⟨h, Nat.one_dvd i⟩⟩
theorem size_all (n : Nat) (h2 : n ≤ 12) : sizeN (2 ^ n - 1) = n := by
  have h : ∀ n, n < 13 → sizeN (2 ^ n - 1) = n := by decide +kernel
  exact h n (by omega)
theorem cnt_full (S k : Nat) : cntB S k ≤ k ∧ (cntB S k = k → ∀ i, i < k → S.testBit i = true) := by
  induction k with
  | zero => exact ⟨Nat.le_refl _, fun _ i hi => by omega⟩
  | succ k ih =>
    have e : cntB S (k + 1) = cntB S k + if S.testBit k then 1 else 0 := rfl
    rw [e]
    cases hb : S.testBit k
    · simp only [Bool.false_eq_true, if_false]
      refine ⟨by omega, fun h => by omega⟩
    · simp only [if_true]
      refine ⟨by omega, fun h i hi => ?_⟩
      by_cases e : i = k
      · subst e; exact hb
      · exact ih.2 (by omega) i (by omega)
theorem partF_lt (n s : Nat) (h1 : 1 ≤ n) : partN n s < 2 ^ n := by
  obtain ⟨hg1, hg2⟩ := partsN_pos n s h1
  obtain ⟨q, hq⟩ := parts_dvd_n n s n
  have hq' : q * partsN n s = n := by rw [Nat.mul_comm]; exact hq.symm
  unfold partN multN
  rw [show n / partsN n s = q from by
    have h : q * partsN n s / partsN n s = q := Nat.mul_div_cancel q hg1
    rw [hq'] at h
    exact h]
  exact mult_lt n _ q q hq' hg1 (Nat.le_refl q)
theorem every_iff (n s : Nat) (h1 : 1 ≤ n) (h2 : n ≤ 12) : sizeN (partN n s) = n ↔ partsN n s = 1 := by
  constructor
  · intro h
    rw [sizeN_of n _ h2 (partF_lt n s h1), popF_cnt] at h
    have hall := (cnt_full _ n).2 h
    by_cases hn : n = 1
    · have := partsN_pos n s h1; omega
    · have := (part_bit n s 1 h1).1 (hall 1 (by omega))
      exact Nat.dvd_one.1 this.2
  · intro h
    rw [part_one n s h1 h, size_all n h2]
theorem far_le12 (n s v : Nat) (h2 : n ≤ 12) : farN n s v ≤ 12 := by have := far_le n s v; omega
theorem most_eq (n s m : Nat) (h1 : 1 ≤ n) (h : MostOf (fun v => (partN n s).testBit v) (farN n s) m) : m = mostN n s n :=
  h.unique (most_is n s n) (fun v => by
    cases hb : (partN n s).testBit v
    · simp
    · have := ((part_bit n s v h1).1 hb).1
      simp [this])
theorem sum_eq (n s k : Nat) (h1 : 1 ≤ n) (hp : partsN n s = 1) (hk : k ≤ n) : farSumN n s k = ((sumOf (partN n s) 0 k (farN n s) : Nat) : Int) := by
  induction k with
  | zero => rfl
  | succ k ih =>
    have hb : (partN n s).testBit k = true := by rw [part_bit n s k h1, hp]; exact ⟨by omega, Nat.one_dvd k⟩
    have e1 : farSumN n s (k + 1) = farSumN n s k + distN n s k := rfl
    have e2 : sumOf (partN n s) 0 (k + 1) (farN n s) = sumOf (partN n s) 0 k (farN n s) + farN n s k := by
      show sumTo _ k + (if (partN n s).testBit k && !(0 : Nat).testBit k then farN n s k else 0) = _
      rw [hb, Nat.zero_testBit]
      rfl
    rw [e1, e2, ih (by omega)]
    unfold distN
    rw [hb]
    simp
theorem implFarList_yes (n s : Nat) (w : World) (h1 : 1 ≤ n) (h2 : n ≤ 12) (hs : s < 2 ^ n) (h0 : s.testBit 0 = false) :
    Calls Tryz.prog 10 #[.int .i64 (n:Int), .int .i64 (s:Int)] w (ListsPost w n (tabI n (distN n s))) := by
  have HO := Lib.hid (distancesOf_yes n s w h1 h2 hs h0)
  have HL := Lib.hid (fun M W hT => list_any n s M (partN n s) (farN n s) W h2 hT (fun v _ => far_le12 n s v h2))
  go_enter Tryz.func10, Tryz.ntmps10
  go_wp2_with fail
  refine HO.out.mono ?_
  rintro e w1 ⟨M, rfl, hb1, hM, hT⟩
  have z1 := hb1.size
  have hT1 := hT.alloc (.cells #[.int .i64 (n:Int), .int .i64 (s:Int), .map (some M)] 64)
  have hB1 := hb1.alloc z1 (.cells #[.int .i64 (n:Int), .int .i64 (s:Int), .map (some M)] 64)
  clear hT hb1
  go_wp2_with (go_at_call 25; refine (HL.out M _ hT1).mono ?_; rintro e w2 ⟨g, cap, rfl, hb2, hI⟩; have HI := Lib.hid hI; clear hI)
  go_ret2
  exact ⟨g, cap, rfl, hB1.trans (hb2.mono hB1.size), HI.out.base hB1.size⟩
theorem implFarList_no (n s : Int) (w : World) (h : NoStep n s) :
    Calls Tryz.prog 10 #[.int .i64 n, .int .i64 s] w fun e w' => e = .returned (.tuple #[.slice none 0 0, .bool false]) ∧ Below w.heap.size w w' := by
  have HO := Lib.hid (distancesOf_no n s w h)
  clear h
  go_enter Tryz.func10, Tryz.ntmps10
  go_wp2_with fail
  refine HO.out.mono ?_
  rintro e w1 ⟨rfl, hb1⟩
  have z1 := hb1.size
  go_wp2
  go_ret2
  exact ⟨rfl, hb1.alloc z1 _⟩
end Go.Proofs.YtnlalccnhpblkaaGreat
