/- The exact law of RingCounts. -/
import Derived.Test.YthccchelemnnfaaCountsI
import Derived.Test.YthccchelemnnfaaLaw1
import Derived.Test.YthccchelemnnfaaWrapA
namespace Go.Proofs.Ythccchelemnnfaa
open Go.RowKit
set_option linter.unusedVariables false
def ListPost (w : World) (n : Nat) (xs : List Int) (e : Ending) (w' : World) : Prop :=
  ∃ g, e = .returned (.tuple #[.slice (some ⟨g, 0, none⟩) n n, .bool true]) ∧ Below w.heap.size w w' ∧ IsInts w' w.heap.size (.slice (some ⟨g, 0, none⟩) n n) xs
theorem implCounts_yes (n a b : Nat) (w : World) (h1 : 1 ≤ n) (h2 : n ≤ 12) (ha : a < 2 ^ n) (hb : b < 2 ^ n) :
    Calls Try.prog 17 #[.int .i64 (n:Int), .int .i64 (a:Int), .int .i64 (b:Int)] w (ListPost w n (countsN n a b n)) := by
  have HO := Lib.hid (of2_yes n a b w h1 h2 ha hb)
  have HS := Lib.hid (fun W => counts_any n a b W h1 h2 ha hb)
  go_enter Try.func17, Try.ntmps17
  go_wp2_with fail
  refine HO.out.mono ?_
  rintro e w1 ⟨rfl, hb1⟩
  go_wp2_with fail
  refine (HS.out _).mono ?_
  rintro e w2 ⟨rfl, hb2, hI⟩
  have HI := Lib.hid hI
  clear hI
  have hz := hb1.size
  have hz2 := hb2.size
  go_wp2
  go_ret2
  have e1 : w.heap.size ≤ (w1.alloc (.cells #[.int .i64 (n:Int)] 42)).heap.size := by simp; omega
  exact ⟨_, rfl, Below.trans (B := w.heap.size) (hb1.alloc (by omega) _) (hb2.mono e1), by have h := HI.out.base e1; rw [World.size_alloc] at h; exact h⟩
theorem implCounts_no (n a b : Int) (w : World) (h : NotIn n a ∨ NotIn n b) :
    Calls Try.prog 17 #[.int .i64 n, .int .i64 a, .int .i64 b] w fun e w' => e = .returned (.tuple #[.slice none 0 0, .bool false]) ∧ Below w.heap.size w w' := by
  have HO := Lib.hid (of2_no n a b w h)
  clear h
  go_enter Try.func17, Try.ntmps17
  go_wp2_with fail
  refine HO.out.mono ?_
  rintro e w1 ⟨rfl, hb1⟩
  go_wp2
  go_ret2
  exact ⟨rfl, by
    have := hb1.size
    first
    | exact hb1
    | exact hb1.alloc (by omega) _⟩
def EmptyPost (w : World) (e : Ending) (w' : World) : Prop :=
  ∃ sv, e = .returned (.tuple #[sv, .bool false]) ∧ Below w.heap.size w w' ∧ IsInts w' w.heap.size sv []
theorem specCounts_no (n a b : Int) (w : World) (h : NotIn n a ∨ NotIn n b) :
    Calls Try.prog 18 #[.int .i64 n, .int .i64 a, .int .i64 b] w (EmptyPost w) := by
  by_cases ha : NotIn n a
  · have HI := Lib.hid (specIn_no n a w ha)
    clear h ha
    go_enter Try.func18, Try.ntmps18
    go_wp2_with (go_at_call 44; refine HI.out.mono ?_; rintro e w' ⟨rfl, rfl⟩)
    go_ret2
    exact ⟨_, rfl, (Below.refl _ _).alloc (Nat.le_refl _) _, World.ownsRow_lit w #[] 0 (Nat.le_refl _) (by simp [maxLen]) rfl⟩
  · have hb : NotIn n b := by
      rcases h with h | h
      · exact absurd h ha
      · exact h
    have HJ := Lib.hid (specIn_no n b w hb)
    obtain ⟨m, t, rfl, rfl, h1, h2, h3⟩ := not_notIn ha
    have HI := Lib.hid (specIn_yes m t w h1 h2 h3)
    clear h ha hb
    go_enter Try.func18, Try.ntmps18
    go_wp2_with fail
    refine HI.out.mono ?_
    rintro e w' ⟨rfl, rfl⟩
    go_wp2_with fail
    refine HJ.out.mono ?_
    rintro e w' ⟨rfl, rfl⟩
    go_wp2
    go_ret2
    exact ⟨_, rfl, (Below.refl _ _).alloc (Nat.le_refl _) _, World.ownsRow_lit w #[] 0 (Nat.le_refl _) (by simp [maxLen]) rfl⟩
end Go.Proofs.Ythccchelemnnfaa
