/- The exact law of RingCounts. -/
import Derived.Test.YtfecjafnobgknaaCountsI
import Derived.Test.YtfecjafnobgknaaLaw1
import Derived.Test.YtfecjafnobgknaaWrapA
namespace Go.Proofs.Ytfecjafnobgknaa
open Go.RowKit
set_option linter.unusedVariables false
def ListPost (w : World) (n : Nat) (xs : List Int) (e : Ending) (w' : World) : Prop :=
  ∃ g, e = .returned (.tuple #[.slice (some ⟨g, 0, none⟩) n n, .bool true]) ∧ Below w.heap.size w w' ∧ IsInts w' w.heap.size (.slice (some ⟨g, 0, none⟩) n n) xs
theorem implCounts_yes (n a b : Nat) (w : World) (h1 : 1 ≤ n) (h2 : n ≤ 12) (ha : a < 2 ^ n) (hb : b < 2 ^ n) :
    Calls Try.prog 24 #[.int .i64 (n:Int), .int .i64 (a:Int), .int .i64 (b:Int)] w (ListPost w n (countsN n a b n)) := by
  have HO := Lib.hid (of2_yes n a b w h1 h2 ha hb)
  have HS := Lib.hid (fun W => counts_any n a b W h1 h2 ha hb)
  go_enter Try.func24, Try.ntmps24
  go_wp2_with fail
  refine HO.out.mono ?_
  rintro e w1 ⟨rfl, hb1⟩
  go_wp2_with fail
  refine (HS.out _).mono ?_
  rintro e w2 ⟨rfl, hb2, hI⟩
  have HI := Lib.hid hI
  clear hI
  have hz := hb1.size
  have hz2 := hb2.size
  go_wp2
  go_ret2
  have e1 : w.heap.size ≤ (w1.alloc (.cells #[.int .i64 (n:Int)] 35)).heap.size := by simp; omega
  exact ⟨_, rfl, Below.trans (B := w.heap.size) (hb1.alloc (by omega) _) (hb2.mono e1), by have h := HI.out.base e1; rw [World.size_alloc] at h; exact h⟩
theorem implCounts_no (n a b : Int) (w : World) (h : NotIn n a ∨ NotIn n b) :
    Calls Try.prog 24 #[.int .i64 n, .int .i64 a, .int .i64 b] w fun e w' => e = .returned (.tuple #[.slice none 0 0, .bool false]) ∧ Below w.heap.size w w' := by
  have HO := Lib.hid (of2_no n a b w h)
  clear h
  go_enter Try.func24, Try.ntmps24
  go_wp2_with fail
  refine HO.out.mono ?_
  rintro e w1 ⟨rfl, hb1⟩
  go_wp2
  go_ret2
  exact ⟨rfl, by
    have := hb1.size
    first
    | exact hb1
    | exact hb1.alloc (by omega) _⟩
def EmptyPost (w : World) (e : Ending) (w' : World) : Prop :=
  ∃ sv, e = .returned (.tuple #[sv, .bool false]) ∧ Below w.heap.size w w' ∧ IsInts w' w.heap.size sv []
theorem specCounts_no (n a b : Int) (w : World) (h : NotIn n a ∨ NotIn n b) :
    Calls Try.prog 23 #[.int .i64 n, .int .i64 a, .int .i64 b] w (EmptyPost w) := by
  by_cases ha : NotIn n a
  · have HI := Lib.hid (specIn_no n a w ha)
    clear h ha
    go_enter Try.func23, Try.ntmps23
    go_wp2_with (go_at_call 15; refine HI.out.mono ?_; rintro e w' ⟨rfl, rfl⟩)
    go_ret2
    exact ⟨_, rfl, (Below.refl _ _).alloc (Nat.le_refl _) _, World.ownsRow_lit w #[] 0 (Nat.le_refl _) (by simp [maxLen]) rfl⟩
  · have hb : NotIn n b := by
      rcases h with h | h
      · exact absurd h ha
      · exact h
    have HJ := Lib.hid (specIn_no n b w hb)
    obtain ⟨m, t, rfl, rfl, h1, h2, h3⟩ := not_notIn ha
    have HI := Lib.hid (specIn_yes m t w h1 h2 h3)
    clear h ha hb
    go_enter Try.func23, Try.ntmps23
    go_wp2_with fail
    refine HI.out.mono ?_
    rintro e w' ⟨rfl, rfl⟩
    go_wp2_with fail
    refine HJ.out.mono ?_
    rintro e w' ⟨rfl, rfl⟩
    go_wp2
    go_ret2
    exact ⟨_, rfl, (Below.refl _ _).alloc (Nat.le_refl _) _, World.ownsRow_lit w #[] 0 (Nat.le_refl _) (by simp [maxLen]) rfl⟩
theorem law_RingCounts (n a b : Int) (w : World) :
    Calls Try.prog 7 #[.int .i64 n, .int .i64 a, .int .i64 b] w fun e w' => e = .returned (.bool true) ∧ Below w.heap.size w w' := by
  by_cases h : NotIn n a ∨ NotIn n b
  · have H := Lib.hid h
    clear h
    go_enter Try.func7, Try.ntmps7
    go_wp2_with fail
    refine (specCounts_no n a b w H.out).mono ?_
    rintro e w1 ⟨sv, rfl, hb1, hI⟩
    have HI := Lib.hid hI
    clear hI
    have z1 := hb1.size
    go_wp2_with fail
    refine (implCounts_no n a b _ H.out).mono ?_
    rintro e w2 ⟨rfl, hb2⟩
    have z2 := hb2.size
    go_wp2_with fail
    refine (eqInts_any _ _ [] _ _ _ (isInts_nil _ 0) (HI.out.belowAll hb2)).mono ?_
    rintro e w3 ⟨rfl, hb3⟩
    have z3 := hb3.size
    go_wp2_with fail
    refine (markInts_any _ [] _ 0 _ (isInts_nil _ 0) (by omega) (by omega) (by simp)).mono ?_
    rintro e w4 ⟨rfl, hI4, hg4⟩
    have hb4 : Below w3.heap.size w3 w4 := Below.grown (Below.refl w3.heap.size w3) hg4 (Nat.le_refl _) (fun k e => by cases e)
    have z4 := hb4.size
    clear hI4 hg4
    go_wp2_with fail
    refine (heldInts_any _ 0 _ 0 _ (isInts_nil _ 0) (by omega) (by omega) (by omega)).mono ?_
    rintro e w5 ⟨rfl, rfl⟩
    go_wp2_with fail
    refine (implCounts_no n a b _ H.out).mono ?_
    rintro e w6 ⟨rfl, hb6⟩
    have z6 := hb6.size
    go_wp2_with fail
    refine (eqInts_any _ _ [] _ _ _ (isInts_nil _ 0) (((HI.out.belowAll hb2).belowAll hb3 |>.belowAll hb4).belowAll hb6)).mono ?_
    rintro e w7 ⟨rfl, hb7⟩
    have z7 := hb7.size
    go_wp2_with fail
    refine (heldInts_any _ 0 _ 0 _ (isInts_nil _ 0) (by omega) (by omega) (by omega)).mono ?_
    rintro e w8 ⟨rfl, rfl⟩
    go_wp2
    go_ret
    exact ⟨rfl, ((((hb1.trans (hb2.mono z1)).trans (hb3.mono (by omega))).trans (hb4.mono (by omega))).trans (hb6.mono (by omega))).trans (hb7.mono (by omega))⟩
  · obtain ⟨m, t, rfl, rfl, h1, h2, h3⟩ := not_notIn (fun hh => h (.inl hh))
    obtain ⟨m', u, hm, rfl, h1', h2', h4⟩ := not_notIn (fun hh => h (.inr hh))
    obtain rfl : m = m' := by omega
    clear h hm h1' h2'
    have HLen := Lib.hid (countsN_len m t u m)
    have HS := Lib.hid (fun W => specCounts_yes m t u W h1 h2 h3 h4)
    have HI := Lib.hid (fun W => implCounts_yes m t u W h1 h2 h3 h4)
    go_enter Try.func7, Try.ntmps7
    go_wp2_with fail
    refine (HS.out _).mono ?_
    rintro e w1 ⟨rfl, hb1, hI1⟩
    have z1 := hb1.size
    have HI1 := Lib.hid hI1
    clear hI1
    go_wp2_with fail
    refine (HI.out _).mono ?_
    rintro e w2 ⟨g, rfl, hb2, hI2⟩
    have z2 := hb2.size
    have HI2 := Lib.hid hI2
    have hgl : w1.heap.size ≤ g ∧ g < w2.heap.size := World.ownsRow.lt hI2 g rfl
    clear hI2
    go_wp2_with fail
    refine (eqInts_any _ _ (countsN m t u m) _ _ _ HI2.out (HI1.out.belowAll hb2)).mono ?_
    rintro e w3 ⟨rfl, hb3⟩
    have z3 := hb3.size
    go_wp2_with fail
    refine (markInts_any _ (countsN m t u m) _ w1.heap.size _ (HI2.out.belowAll hb3) (by omega) (by omega) (by rw [HLen.out]; omega)).mono ?_
    rintro e w4 ⟨rfl, hI4, hg4⟩
    rw [HLen.out] at hI4 ⊢
    have hb4 : Below w1.heap.size w3 w4 := Below.grown (Below.refl _ w3) hg4 (by omega) (fun k e => by cases e; exact hgl.1)
    have HI4 := Lib.hid hI4
    have HO4 : Hid (IsInts w4 w.heap.size (.slice (some ⟨w.heap.size, 0, none⟩) m m) (countsN m t u m)) :=
      Lib.hid (((HI1.out.belowAll hb2).belowAll hb3).below (N := w1.heap.size) (fun q hq => (World.ownsRow.lt HI1.out q hq).2) hb4)
    have z4 := hb4.size
    clear hI4 hg4
    go_wp2_with fail
    refine (heldInts_any _ m _ w1.heap.size _ HI4.out (by omega) (by omega) (by omega)).mono ?_
    rintro e w5 ⟨rfl, rfl⟩
    go_wp2_with fail
    refine (HI.out _).mono ?_
    rintro e w6 ⟨g', rfl, hb6, hI6⟩
    have z6 := hb6.size
    have HI6 := Lib.hid hI6
    clear hI6
    go_wp2_with fail
    refine (eqInts_any _ _ (countsN m t u m) _ _ _ HI6.out (HO4.out.belowAll hb6)).mono ?_
    rintro e w7 ⟨rfl, hb7⟩
    have z7 := hb7.size
    go_wp2_with fail
    refine (heldInts_any _ m _ w1.heap.size _ ((HI4.out.belowAll hb6).belowAll hb7) (by omega) (by omega) (by omega)).mono ?_
    rintro e w8 ⟨rfl, rfl⟩
    go_wp2
    go_ret
    exact ⟨rfl, ((((hb1.trans (hb2.mono z1)).trans (hb3.mono (by omega))).trans (hb4.mono z1)).trans (hb6.mono (by omega))).trans (hb7.mono (by omega))⟩
end Go.Proofs.Ytfecjafnobgknaa
