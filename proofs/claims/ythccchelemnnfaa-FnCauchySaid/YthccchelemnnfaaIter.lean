/- The places of a set: the iterator and what a loop over it wants. -/
import Derived.RangeFuncNested
import Derived.RangeFuncBound
import Derived.RangeFuncCalls
import Derived.RangeFuncLeaves
import Derived.Shelf.Abstract
import Derived.Shelf.RegionOpen
import Derived.WalkKit
import Derived.OwnWalkIn
import Derived.TacticsInMore
import Derived.LoopNIn
import Derived.LoopIn
import Derived.Test.YthccchelemnnfaaRingC
namespace Go.Proofs.Ythccchelemnnfaa
open Go.RowKit Go.Shelf
set_option linter.unusedVariables false
attribute [local go_sem] Oper.semAt_some

/-- What a round keeps: the box in which the iterator has its set, and all below n₀. -/
structure KB (Bn n₀ : Nat) (W W' : World) : Prop where
  box : ∀ t v, Boxed W Bn t v → Boxed W' Bn t v
  below : Below n₀ W W'
theorem KB.refl (Bn n₀ : Nat) (W : World) : KB Bn n₀ W W := ⟨fun _ _ h => h, Below.refl _ _⟩
theorem KB.trans {Bn n₀ : Nat} {A B C : World} (h : KB Bn n₀ A B) (k : KB Bn n₀ B C) : KB Bn n₀ A C :=
  ⟨fun t v hb => k.box t v (h.box t v hb), h.below.trans k.below⟩
theorem KB.put {Bn n₀ : Nat} {w : World} (hn : n₀ ≤ w.heap.size) (W : World) (l : Nat) (o o' : Obj) (hl : w.heap.size ≤ l) (h : W.heap[l]? = some o) (hc : o.isCells = false) (hw : o.isWalk = false) :
    KB Bn n₀ W (W.putObj l o') :=
  ⟨fun t v hb => hb.kept (grownBy_putObj' W l o') (by
      intro e
      cases e
      have hb' : W.heap[Bn]? = some (.cells #[v] t (0, 0)) := hb
      rw [hb'] at h
      cases h
      simp [Obj.isCells] at hc),
    belowK_b (w := w) hn W l o o' hl h hc hw⟩
theorem KB.setCell {Bn n₀ : Nat} {W W' : World} (h : KB Bn n₀ W W') {p : Nat} (hp : n₀ ≤ p) (hne : Bn ≠ p) (u : Value) : KB Bn n₀ W (W'.setCell ⟨p, 0, none⟩ u) :=
  ⟨fun t v hb => (h.box t v hb).other hne u, h.below.setCell (p := ⟨p, 0, none⟩) hp u⟩
theorem KB.call {Bn n₀ : Nat} {W W1 W' : World} (h : KB Bn n₀ W W1) (hn : n₀ ≤ W1.heap.size) (hb : Below W1.heap.size W1 W') : KB Bn n₀ W W' :=
  ⟨fun t v hx => (hb.block Bn (h.box t v hx).lt).trans (h.box t v hx), h.below.trans (hb.mono hn)⟩
theorem KB.drew {Bn n₀ : Nat} {W W' : World} (h : KB Bn n₀ W W') : KB Bn n₀ W W'.drew := ⟨fun t v hb => h.box t v hb, h.below.drew⟩
theorem boxed_below {W W' : World} {B : Nat} {t : TypeId} {v : Value} (h : Boxed W B t v) {N : Nat} (hN : B < N) (hb : Below N W W') : Boxed W' B t v := (hb.block B hN).trans h
theorem others_below {W W' : World} (hb : Below W.heap.size W W') : KeepsOthers W W' :=
  ⟨hb.size, fun k o hk _ => (hb.block k (Array.getElem?_eq_some_iff.1 hk).1).trans hk⟩
theorem others_drew (W : World) : KeepsOthers W W.drew := ⟨Nat.le_refl _, fun _ _ h _ => h⟩

/-- The places that have come when k is asked next. -/
def comeTo (r s : Nat) : Nat → List (Fin r)
  | 0 => []
  | k + 1 => if h : k < r then (if s.testBit k then comeTo r s k ++ [⟨k, h⟩] else comeTo r s k) else comeTo r s k
theorem comeTo_yes {r s k : Nat} (h : k < r) (hb : s.testBit k = true) : comeTo r s (k + 1) = comeTo r s k ++ [⟨k, h⟩] := by simp [comeTo, h, hb]
theorem comeTo_no {r s k : Nat} (hb : s.testBit k = false) : comeTo r s (k + 1) = comeTo r s k := by simp [comeTo, hb]
theorem comeTo_len (r s k : Nat) : (comeTo r s k).length ≤ k := by
  induction k with
  | zero => simp [comeTo]
  | succ k ih =>
    unfold comeTo
    split
    · split
      · simp; omega
      · omega
    · omega
theorem comeTo_end (r s k : Nat) (hs : s < 2 ^ k) (d : Nat) : comeTo r s (k + d) = comeTo r s k := by
  induction d with
  | zero => rfl
  | succ d ih =>
    have hb : s.testBit (k + d) = false := Nat.testBit_lt_two_pow (Nat.lt_of_lt_of_le hs (Nat.pow_le_pow_right (by omega) (by omega)))
    rw [← Nat.add_assoc, comeTo_no hb, ih]
theorem comeTo_fold {α : Type} (r s : Nat) (f : Nat → α → α) (a : α) (k : Nat) (hk : k ≤ r) : (comeTo r s k).foldl (fun x v => f v.val x) a = overSet s f k a := by
  induction k with
  | zero => rfl
  | succ k ih =>
    have hlt : k < r := by omega
    by_cases hb : s.testBit k = true
    · rw [comeTo_yes hlt hb, List.foldl_append, ih (by omega)]
      simp [overSet, upto, hb]
    · have hb' : s.testBit k = false := by simpa using hb
      rw [comeTo_no hb', ih (by omega)]
      simp [overSet, upto, hb']
theorem shr_zero_iff (s v : Nat) : ((s : Int) / 2 ^ v = 0) ↔ s < 2 ^ v := by
  rw [shr_cast]
  have := Nat.two_pow_pos v
  constructor
  · intro h
    have h' : s / 2 ^ v = 0 := by omega
    exact (Nat.div_eq_zero_iff_lt this).1 h'
  · intro h
    rw [Nat.div_eq_of_lt h]; rfl

set_option maxHeartbeats 1000000 in
theorem places1_in (n : Nat) (hn : 1 ≤ n) (l Bn n₀ r s : Nat) (hs : s < 2 ^ r) (hr : r ≤ 12) (J Jx : List (Fin r) → World → Prop)
    (hY : ∀ pre x W, J pre W → pre.length < 100 → YieldAt Fence.wide (n - 1) Try.prog l #[.int .i64 (x.val : Int)] W fun e W' =>
      (e = .returned (.bool true) ∧ J (pre ++ [x]) W' ∧ KB Bn n₀ W W') ∨ (e = .returned (.bool false) ∧ Jx (pre ++ [x]) W'))
    (W : World) (hBn : Boxed W Bn 45 (.int .i64 (s:Int))) (h0 : J [] W) :
    CallsIn Fence.wide n Try.prog 72 #[.func (.yield l) #[] #[], .pointer (some ⟨Bn, 0, none⟩)] W fun e W' => (∃ v, e = .returned v) ∧
      ((∃ ys, ys = comeTo r s r ∧ J ys W') ∨ (∃ pre, True ∧ Jx pre W')) := by
  refine callsIn_of_wp Try.func72 rfl trivial ?_ rfl
  simp only [Try.ntmps72, List.size_toArray, List.length_cons, List.length_nil, Nat.reduceAdd, Nat.reduceSub, Array.replicate_succ, Array.replicate_zero, List.push_toArray, List.append_toArray, List.nil_append, List.cons_append]
  gi_wp2
  gi_loopw [3] (fun v wr => ∃ k : Nat, v = .int .i64 (k:Int) ∧ k ≤ r ∧ Boxed wr Bn 45 (.int .i64 (s:Int)) ∧ J (comeTo r s k) wr)
    (fun v _ => r - (intOf v).toNat)
  case atStart => exact ⟨0, rfl, Nat.zero_le _, hBn, h0⟩
  case round =>
    obtain ⟨k, rfl, hk, hB, hJ⟩ := hrel
    have hc := hB.cell
    by_cases hz : s < 2 ^ k
    · have hz' := (shr_zero_iff s k).2 hz
      have he : comeTo r s r = comeTo r s k := by
        obtain ⟨d, hd⟩ : ∃ d, r = k + d := ⟨r - k, by omega⟩
        rw [hd]; exact comeTo_end _ s k hz d
      have HE := Lib.hid he
      clear he hY
      gi_wp2
      go_end0
      exact ⟨⟨_, rfl⟩, .inl ⟨_, rfl, by rw [HE.out]; exact hJ⟩⟩
    · have hkr : k < r := by
        by_cases h : k < r
        · exact h
        · exact absurd (Nat.lt_of_lt_of_le hs (Nat.pow_le_pow_right (by omega) (by omega))) hz
      have hz' : ¬ ((s : Int) / 2 ^ k = 0) := fun h => hz ((shr_zero_iff s k).1 h)
      have hs40 : s < 2 ^ 40 := Nat.lt_of_lt_of_le hs (Nat.pow_le_pow_right (by omega) (by omega))
      have hh := has_any s k wr hs40 (by omega)
      by_cases hb : s.testBit k = true
      · obtain ⟨fn, tmps, assign, body, hy, hR⟩ := hY (comeTo r s k) ⟨k, hkr⟩ wr hJ (by have := comeTo_len r s k; omega)
        rw [hb] at hh
        have HE := Lib.hid (comeTo_yes hkr hb)
        clear hY hb hJ hz
        dsimp only at hy
        gi_wp2_with (refine ⟨trivial, ?_⟩; gi_at_call 73; refine (callsIn_wide.2 hh).mono ?_; rintro e w' ⟨rfl, rfl⟩)
        refine hR.mono ?_
        rintro e W3 (⟨rfl, hJ3, hk3⟩ | ⟨rfl, hJx3⟩)
        · have hB3 := hk3.box _ _ hB
          gi_wp2
          go_roundw
          case rel => exact ⟨k + 1, by go_num, by omega, hB3, by rw [HE.out]; exact hJ3⟩
          case measure => simp [intOf]; omega
        · gi_wp2
          refine bodyPost_ret (results_none rfl _ _ _) rfl ?_
          exact ⟨⟨_, rfl⟩, .inr ⟨_, trivial, hJx3⟩⟩
      · have hb' : s.testBit k = false := by simpa using hb
        rw [hb'] at hh
        have HE := Lib.hid (comeTo_no (r := r) hb')
        clear hY hb hb' hz
        gi_wp2_with (refine ⟨trivial, ?_⟩; gi_at_call 73; refine (callsIn_wide.2 hh).mono ?_; rintro e w' ⟨rfl, rfl⟩)
        all_goals (try (refine ⟨fun _ h => (by cases h), ?_⟩; gi_wp2))
        go_roundw
        case rel => exact ⟨k + 1, by go_num, by omega, hB, by rw [HE.out]; exact hJ⟩
        case measure => simp [intOf]; omega
theorem places_any (s : Nat) (w : World) :
    Calls Try.prog 65 #[.int .i64 (s:Int)] w fun e w' => e = .returned (.func (.func 72) #[] #[.pointer (some ⟨w.heap.size, 0, none⟩)]) ∧ w' = w.alloc (.cells #[.int .i64 (s:Int)] 45) := by
  go_enter Try.func65, Try.ntmps65
  go_wp2
  go_ret
  exact ⟨rfl, rfl⟩
theorem places_stops (n : Nat) (hn : 1 ≤ n) (Bn n₀ r s : Nat) (hs : s < 2 ^ r) (hr : r ≤ 12) (w : World) (hB : Boxed w Bn 45 (.int .i64 (s:Int))) :
    SeqStopsK Fence.wide n Try.prog 72 #[.pointer (some ⟨Bn, 0, none⟩)] (fun x : Fin r => #[Value.int .i64 (x.val : Int)]) (KB Bn n₀) (fun ys => ys = comeTo r s r) (fun _ => True) 100 w := fun l J Jx W hW _ _ hY h0 =>
  places1_in n hn l Bn n₀ r s hs hr J Jx hY W (boxed_below hB hB.lt hW) h0
end Go.Proofs.Ythccchelemnnfaa
