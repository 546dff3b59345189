/- Rows, the program's side: the first choices with the sum 0. Written by gen111.py. -/
import Derived.Test.YtkdgbnjpjkhopaaZrpD
import Derived.Test.YtkdgbnjpjkhopaaStepZ
namespace Go.Proofs.Ytkdgbnjpjkhopaa
open Go.RowKit Go.Shelf
set_option linter.unusedVariables false
attribute [local go_sem] Oper.semAt_some
theorem below_outside {w A B : World} {b : Nat} (h : Below w.heap.size w A) (k : Outside b b A B) (hb : w.heap.size ≤ b) : Below w.heap.size w B :=
  ⟨k.os.trans h.os, k.tape.trans h.tape, k.output.trans h.output, Nat.le_trans h.size k.size, fun i hi => (k.low i (by omega)).trans (h.block i hi)⟩
theorem zq_zero (n : Nat) (xs : List Int) : zq n xs 0 = false := rfl
set_option maxRecDepth 100000 in
set_option maxHeartbeats 8000000 in
theorem firstZero_any (n g L cap  : Nat) (xs : List Int) (w : World) (h1 : 1 ≤ n) (h2 : n ≤ 12) (hL : L ≤ 12) (hlc : L ≤ cap) (hr : ∀ i, i < xs.length → 0 ≤ xs.getD i 0 ∧ xs.getD i 0 < (n:Int)) (hS : Shows w g L xs) :
    Calls Try.prog 37 #[.agg #[.int .i64 (n:Int), .slice (some ⟨g, 0, none⟩) L cap]] w fun e w' => e = .returned (.tuple #[.int .i64 ((firstP (zq n xs) (2 ^ xs.length) : Nat) : Int), .bool (decide (firstP (zq n xs) (2 ^ xs.length) ≠ 0))]) ∧ Below w.heap.size w w' := by
  have hmx : Try.prog.follows .mixedOrders = true := by kernel_rfl
  have hp := pow_le L hL
  have hxl := hS.size
  have hgl := hS.lt
  have hD := Duo.new w 40 (.int .i64 (n:Int)) (.slice (some ⟨g, 0, none⟩) L cap)
  have hDD : Duo (((w.alloc (.cells #[.int .i64 (n:Int), .slice (some ⟨g, 0, none⟩) L cap] 40)).alloc (.cells #[.int .i64 0] 45)).alloc (.cells #[.bool false] 4)) w.heap.size 40 (.int .i64 (n:Int)) (.slice (some ⟨g, 0, none⟩) L cap) := (hD.alloc _).alloc _
  have q0 := hDD.cell0
  have q1 := hDD.cell1
  refine (callsIn_wide (n := 9)).1 ?_
  refine callsIn_of_wp_marks Try.func37 rfl trivial ?_ rfl
  simp only [Try.ntmps37, List.size_toArray, List.length_cons, List.length_nil, Nat.reduceAdd, Nat.reduceSub, Array.replicate_succ, Array.replicate_zero, List.push_toArray, List.append_toArray, List.nil_append, List.cons_append]
  gi_wp2_with (refine ⟨trivial, ?_⟩; gi_at_call 33; refine (callsIn_wide.2 (zeros_any n (.slice (some ⟨g, 0, none⟩) L cap) _ ⟨_, _, _, rfl⟩)).mono ?_; rintro e w' ⟨rfl, rfl⟩)
  clear q0 q1
  have bR0 := (Boxed.new (w.alloc (.cells #[.int .i64 (n:Int), .slice (some ⟨g, 0, none⟩) L cap] 40)) 45 (.int .i64 0)).alloc (.cells #[.bool false] 4) |>.alloc (.cells #[.int .i64 (n:Int), .slice (some ⟨g, 0, none⟩) L cap] 40)
  have bQ0 := (Boxed.new ((w.alloc (.cells #[.int .i64 (n:Int), .slice (some ⟨g, 0, none⟩) L cap] 40)).alloc (.cells #[.int .i64 0] 45)) 4 (.bool false)).alloc (.cells #[.int .i64 (n:Int), .slice (some ⟨g, 0, none⟩) L cap] 40)
  have bZ0 := Duo.new (((w.alloc (.cells #[.int .i64 (n:Int), .slice (some ⟨g, 0, none⟩) L cap] 40)).alloc (.cells #[.int .i64 0] 45)).alloc (.cells #[.bool false] 4)) 40 (.int .i64 (n:Int)) (.slice (some ⟨g, 0, none⟩) L cap)
  simp only [World.size_alloc] at bR0 bQ0 bZ0
  have hB0 : Below w.heap.size w ((((w.alloc (.cells #[.int .i64 (n:Int), .slice (some ⟨g, 0, none⟩) L cap] 40)).alloc (.cells #[.int .i64 0] 45)).alloc (.cells #[.bool false] 4)).alloc (.cells #[.int .i64 (n:Int), .slice (some ⟨g, 0, none⟩) L cap] 40)) := ((((Below.refl _ w).alloc (Nat.le_refl _) _).alloc (by simp) _).alloc (by simp; omega) _).alloc (by simp; omega) _
  have hz0 : ((((w.alloc (.cells #[.int .i64 (n:Int), .slice (some ⟨g, 0, none⟩) L cap] 40)).alloc (.cells #[.int .i64 0] 45)).alloc (.cells #[.bool false] 4)).alloc (.cells #[.int .i64 (n:Int), .slice (some ⟨g, 0, none⟩) L cap] 40)).heap.size = w.heap.size + 4 := by simp
  obtain ⟨W0, hW0⟩ : ∃ W0, ((((w.alloc (.cells #[.int .i64 (n:Int), .slice (some ⟨g, 0, none⟩) L cap] 40)).alloc (.cells #[.int .i64 0] 45)).alloc (.cells #[.bool false] 4)).alloc (.cells #[.int .i64 (n:Int), .slice (some ⟨g, 0, none⟩) L cap] 40)) = W0 := ⟨_, rfl⟩
  rw [hW0] at bR0 bQ0 bZ0 hB0 hz0 ⊢
  clear hW0 hD hDD
  have hS0 := hS.belowAll hB0
  clear hS
  refine rangeReadsA rfl (by omega) (gf := 42) (lb := #[.pointer (some ⟨w.heap.size + 1 + 1 + 1, 0, none⟩)]) rfl trivial (enters_of Try.func42 (by kernel_rfl) rfl)
    (zeros_keeps n (w.heap.size + 1 + 1 + 1) g L cap xs W0 h1 h2 hL hlc hr bZ0 hS0) (fun k hk => by subst hk; omega) (Below.refl _ _) rdZ_put
    (fun pre W9 => pre = [] ∧ Boxed W9 (w.heap.size + 1) 45 (.int .i64 0) ∧ Boxed W9 (w.heap.size + 1 + 1) 4 (.bool false) ∧ Below w.heap.size w W9)
    (fun c pre W9 => c = .ret ∧ ∃ x, pre = [x] ∧  Boxed W9 (w.heap.size + 1) 45 (.int .i64 ((x.val : Nat) : Int)) ∧ Boxed W9 (w.heap.size + 1 + 1) 4 (.bool true) ∧ Below w.heap.size w W9)
    (fun pre A B h k => ⟨h.1, boxed_outside h.2.1 k, boxed_outside h.2.2.1 k, below_outside h.2.2.2 k (by omega)⟩)
    (fun c pre A B h k => by
      obtain ⟨e, x, hx, a, b, c⟩ := h
      exact ⟨e, x, hx, boxed_outside a k, boxed_outside b k, below_outside c k (by omega)⟩)
    rdZ_below ⟨rfl, bR0, bQ0, hB0⟩
    (fun v a' W9 => (∃ z : Int, v = .int .i64 z) ∧ a' = { tmps := #[.agg #[.int .i64 (n:Int), .slice (some ⟨g, 0, none⟩) L cap], .pointer (some ⟨w.heap.size, 0, none⟩), .pointer (some ⟨w.heap.size + 1, 0, none⟩), .pointer (some ⟨w.heap.size + 1 + 1, 0, none⟩), v, .agg #[.int .i64 (n:Int), .slice (some ⟨g, 0, none⟩) L cap], .func (.func 42) #[] #[.pointer (some ⟨w.heap.size + 1 + 1 + 1, 0, none⟩)], v, undef], defers := [] })
    (fun v a' W9 l' o o' h hl ho => h) ?assign ?body ?done ?stop
  case assign =>
    rintro l' x v W9 K hz rfl hK
    gi_wp2
    exact hK _ _ (Below.refl _ _) ⟨⟨_, rfl⟩, rfl⟩
  case body =>
    rintro l' pre x v a' W9 hz ⟨hc, bR, bQ, hB⟩ rfl ⟨_, rfl⟩ hlen
    subst hc
    have cR := bR.cell
    have fR := bR.frozen
    have cQ := (bQ.other (show (w.heap.size + 1 + 1) ≠ w.heap.size + 1 by omega) (.int .i64 ((x.val : Nat) : Int))).cell
    have fQ := (bQ.other (show (w.heap.size + 1 + 1) ≠ w.heap.size + 1 by omega) (.int .i64 ((x.val : Nat) : Int))).frozen
    have sR := ((bR.set (.int .i64 ((x.val : Nat) : Int))).other (show (w.heap.size + 1) ≠ w.heap.size + 1 + 1 by omega) (.bool true))
    have sQ := (bQ.other (show (w.heap.size + 1 + 1) ≠ w.heap.size + 1 by omega) (.int .i64 ((x.val : Nat) : Int))).set (.bool true)
    have hB9 := (hB.setCell (p := ⟨w.heap.size + 1, 0, none⟩) (by show w.heap.size ≤ w.heap.size + 1; omega) (.int .i64 ((x.val : Nat) : Int))).setCell (p := ⟨w.heap.size + 1 + 1, 0, none⟩) (by show w.heap.size ≤ w.heap.size + 1 + 1; omega) (.bool true)
    have HS9 : Hid (Kept 45 W0.heap.size (fun k => k = g) W9 ((W9.setCell ⟨w.heap.size + 1, 0, none⟩ (.int .i64 ((x.val : Nat) : Int))).setCell ⟨w.heap.size + 1 + 1, 0, none⟩ (.bool true))) := Lib.hid ((Kept.setCell W9 ⟨w.heap.size + 1, 0, none⟩ _ (by show w.heap.size + 1 < _; omega) (by show ¬ w.heap.size + 1 = g; omega)).trans (Kept.setCell _ ⟨w.heap.size + 1 + 1, 0, none⟩ _ (by show w.heap.size + 1 + 1 < _; omega) (by show ¬ w.heap.size + 1 + 1 = g; omega)))
    gi_wp2
    exact ⟨HS9.out, rfl, x, rfl, sR, sQ, hB9⟩
  case done =>
    rintro D ys W9 hD rfl ⟨hc, bR, bQ, hB⟩ hK
    have hV : Hid (firstP (zq n xs) (2 ^ xs.length) = 0) := Lib.hid ((come_first (zq n xs) (2 ^ xs.length) (2 ^ xs.length) (Nat.le_refl _) (zq_zero n xs)).2 hc)
    have cR := bR.cell
    have fR := bR.frozen
    have cQ := (bQ.other (show (w.heap.size + 1 + 1) ≠ w.heap.size + 1 by omega) (.int .i64 0)).cell
    have fQ := (bQ.other (show (w.heap.size + 1 + 1) ≠ w.heap.size + 1 by omega) (.int .i64 0)).frozen
    have sR := ((bR.set (.int .i64 0)).other (show (w.heap.size + 1) ≠ w.heap.size + 1 + 1 by omega) (.bool false))
    have sQ := (bQ.other (show (w.heap.size + 1 + 1) ≠ w.heap.size + 1 by omega) (.int .i64 0)).set (.bool false)
    have hB9 := (hB.setCell (p := ⟨w.heap.size + 1, 0, none⟩) (by show w.heap.size ≤ w.heap.size + 1; omega) (.int .i64 0)).setCell (p := ⟨w.heap.size + 1 + 1, 0, none⟩) (by show w.heap.size ≤ w.heap.size + 1 + 1; omega) (.bool false)
    have hKD : ((W9.setCell ⟨w.heap.size + 1, 0, none⟩ (.int .i64 0)).setCell ⟨w.heap.size + 1 + 1, 0, none⟩ (.bool false)).heap[D]? = some (.deferred (some [])) := (Below.heap_setCell _ ⟨w.heap.size + 1 + 1, 0, none⟩ _ D (by show D ≠ w.heap.size + 1 + 1; omega)).trans ((Below.heap_setCell _ ⟨w.heap.size + 1, 0, none⟩ _ D (by show D ≠ w.heap.size + 1; omega)).trans hK)
    gi_wp2
    refine ⟨by simp, .inl ⟨_, _, rfl, run_takeDeferred hKD, ?_⟩⟩
    have hB3 := hB9.trans (belowK_b (w := w) (Nat.le_refl _) _ D _ (.deferred none) (by omega) hKD rfl rfl)
    have x0 := (show Boxed (((W9.setCell ⟨w.heap.size + 1, 0, none⟩ (.int .i64 0)).setCell ⟨w.heap.size + 1 + 1, 0, none⟩ (.bool false)).putObj D (.deferred none)) (w.heap.size + 1) 45 (.int .i64 0) from (World.putObj_heap_other (by omega)).trans sR).cell
    have x1 := (show Boxed (((W9.setCell ⟨w.heap.size + 1, 0, none⟩ (.int .i64 0)).setCell ⟨w.heap.size + 1 + 1, 0, none⟩ (.bool false)).putObj D (.deferred none)) (w.heap.size + 1 + 1) 4 (.bool false) from (World.putObj_heap_other (by omega)).trans sQ).cell
    obtain ⟨W3, hW3⟩ : ∃ W3, (((W9.setCell ⟨w.heap.size + 1, 0, none⟩ (.int .i64 0)).setCell ⟨w.heap.size + 1 + 1, 0, none⟩ (.bool false)).putObj D (.deferred none)) = W3 := ⟨_, rfl⟩
    rw [hW3] at x0 x1 hB3 ⊢
    refine ⟨.tuple #[.int .i64 0, .bool false], ?_, ?_, hB3⟩
    · simp [results, Try.results37, go_sem, x0, x1]
    · rw [hV.out]; rfl
  case stop =>
    rintro D c pre W9 hD hpre ⟨rfl, x, rfl, bR, bQ, hB⟩ hK
    have hV : Hid (firstP (zq n xs) (2 ^ xs.length) = x.val ∧ x.val ≠ 0) := Lib.hid (by
      obtain ⟨r, hr9⟩ := hpre
      have h := (come_first (zq n xs) (2 ^ xs.length) (2 ^ xs.length) (Nat.le_refl _) (zq_zero n xs)).1 x r hr9.symm
      exact ⟨h.1.symm, fun e => h.2 (h.1.symm.trans e)⟩)
    clear hpre
    gi_wp2
    refine ⟨by simp, .inl ⟨_, _, rfl, run_takeDeferred hK, ?_⟩⟩
    have hB3 := hB.trans (belowK_b (w := w) (Nat.le_refl _) _ D _ (.deferred none) (by omega) hK rfl rfl)
    have x0 := (show Boxed (W9.putObj D (.deferred none)) (w.heap.size + 1) 45 (.int .i64 ((x.val : Nat) : Int)) from (World.putObj_heap_other (by omega)).trans bR).cell
    have x1 := (show Boxed (W9.putObj D (.deferred none)) (w.heap.size + 1 + 1) 4 (.bool true) from (World.putObj_heap_other (by omega)).trans bQ).cell
    obtain ⟨W3, hW3⟩ : ∃ W3, (W9.putObj D (.deferred none)) = W3 := ⟨_, rfl⟩
    rw [hW3] at x0 x1 hB3 ⊢
    refine ⟨.tuple #[.int .i64 ((x.val : Nat) : Int), .bool true], ?_, ?_, hB3⟩
    · simp [results, Try.results37, go_sem, x0, x1]
    · rw [hV.out.1, decide_eq_true hV.out.2]
theorem isPlain_any (n g L cap : Nat) (xs : List Int) (w : World) (h1 : 1 ≤ n) (h2 : n ≤ 12) (hL : L ≤ 12) (hlc : L ≤ cap) (hr : ∀ i, i < xs.length → 0 ≤ xs.getD i 0 ∧ xs.getD i 0 < (n:Int)) (hS : Shows w g L xs) :
    Calls Try.prog 25 #[.agg #[.int .i64 (n:Int), .slice (some ⟨g, 0, none⟩) L cap]] w fun e w' => e = .returned (.bool (!decide (firstP (zq n xs) (2 ^ xs.length) ≠ 0))) ∧ Below w.heap.size w w' := by
  have hD := Duo.new w 40 (.int .i64 (n:Int)) (.slice (some ⟨g, 0, none⟩) L cap)
  have q0 := hD.cell0
  have q1 := hD.cell1
  have HF := Lib.hid (firstZero_any n g L cap xs (w.alloc (.cells #[.int .i64 (n:Int), .slice (some ⟨g, 0, none⟩) L cap] 40)) h1 h2 hL hlc hr (hS.belowAll ((Below.refl _ w).alloc (Nat.le_refl _) _)))
  have HB := Lib.hid ((Below.refl _ w).alloc (Nat.le_refl _) (.cells #[.int .i64 (n:Int), .slice (some ⟨g, 0, none⟩) L cap] 40))
  clear hr hS hD
  generalize firstP (zq n xs) (2 ^ xs.length) = V at *
  by_cases hV : V = 0
  all_goals
    first | rw [decide_eq_false (show ¬ V ≠ 0 from fun h => h hV)] at HF ⊢ | rw [decide_eq_true (show V ≠ 0 from hV)] at HF ⊢
    clear hV
    go_enter Try.func25, Try.ntmps25
    go_wp2_with fail
    refine HF.out.mono ?_
    rintro e w2 ⟨rfl, hb2⟩
    have HB2 := Lib.hid (HB.out.trans (hb2.mono HB.out.size))
    clear hb2
    go_wp2
    go_ret
    exact ⟨rfl, HB2.out⟩
end Go.Proofs.Ytkdgbnjpjkhopaa
