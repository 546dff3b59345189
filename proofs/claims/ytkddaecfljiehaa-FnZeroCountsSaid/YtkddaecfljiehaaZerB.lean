/- Rows of places: the model's ZeroSum, ZeroFirst, ZeroOf, ZeroPlain. Written by gen84.py. -/
import Derived.Test.YtkddaecfljiehaaZerA
import Derived.Test.YtkddaecfljiehaaGP
namespace Go.Proofs.Ytkddaecfljiehaa
open Go.RowKit Go.Shelf
set_option linter.unusedVariables false
theorem IsInts.slice {W : World} {b : Nat} {v : Value} {xs : List Int} (h : IsInts W b v xs) : ∃ A cap, v = .slice A xs.length cap := by
  rcases h.shape with ⟨rfl, rfl⟩ | ⟨g, cap, rfl, _⟩
  · exact ⟨none, 0, rfl⟩
  · exact ⟨_, cap, rfl⟩
theorem IsInts.belowAll' {W W' : World} {b : Nat} {v : Value} {xs : List Int} (h : IsInts W b v xs) (hb : Below W.heap.size W W') : IsInts W' b v xs := h.belowAll hb
theorem pow12L {L : Nat} (h : L ≤ 12) : ∃ N : Nat, 2 ^ L = N ∧ 1 ≤ N ∧ N ≤ 4096 ∧ wrap64 (2 ^ L) = (N : Int) ∧ IntKind.i64.wrap (2 ^ L) = (N : Int) ∧ wrap64 ((N : Int) - 1) = ((N - 1 : Nat) : Int) ∧ IntKind.i64.wrap ((N : Int) - 1) = ((N - 1 : Nat) : Int) := by
  have hp := pow_le L h
  have hp1 := Nat.two_pow_pos L
  have hw := wrap_pow L (by omega)
  have hw2 : IntKind.i64.wrap (2 ^ L) = ((2 ^ L : Nat) : Int) := by rw [IntWalk.i64_left]; exact hw
  obtain ⟨N, hN⟩ : ∃ N, 2 ^ L = N := ⟨_, rfl⟩
  rw [hN] at hp hp1 hw hw2
  exact ⟨N, hN, hp1, hp, hw, hw2, by rw [IntWalk.wrap64_in _ (by omega)]; omega, by rw [IntWalk.i64_in _ (by omega)]; omega⟩
theorem row_dec (n : Int) (xs : List Int) : ∃ q : Bool, q = true ↔ RowIn n xs := by
  by_cases h : RowIn n xs
  · exact ⟨true, ⟨fun _ => h, fun _ => rfl⟩⟩
  · exact ⟨false, ⟨(fun c => by cases c), fun c => absurd c h⟩⟩
theorem given_yes (n : Nat) (sv : Value) (xs : List Int) (b : Nat) (w : World) (h : RowIn (n : Int) xs) (hI : IsInts w b sv xs) : Calls Try.prog 25 #[.int .i64 (n:Int), sv] w fun e w' => e = .returned (.bool true) ∧ w = w' :=
  l9Given_any n sv xs b w true ⟨fun _ => h, fun _ => rfl⟩ (by have := h.2.1; omega) hI
theorem given_none (n : Int) (sv : Value) (xs : List Int) (b : Nat) (w : World) (h : ¬ RowIn n xs) (hl : xs.length ≤ 2000000) (hI : IsInts w b sv xs) : Calls Try.prog 25 #[.int .i64 n, sv] w fun e w' => e = .returned (.bool false) ∧ w = w' :=
  l9Given_any n sv xs b w false ⟨(fun c => by cases c), fun c => absurd c h⟩ hl hI
theorem specZeroSum_no (n : Int) (sv : Value) (xs : List Int) (b : Nat) (w : World) (h : ¬ RowIn n xs) (hl : xs.length ≤ 2000000) (hI : IsInts w b sv xs) :
    Calls Try.prog 15 #[.int .i64 n, sv] w fun e w' => e = .returned (.tuple #[.int .i64 0, .bool false]) ∧ w = w' := by
  have HG := Lib.hid (given_none n sv xs b w h hl hI)
  clear h hI
  go_enter Try.func15, Try.ntmps15
  go_wp2_with fail
  refine HG.out.mono ?_
  rintro e w1 ⟨rfl, rfl⟩
  go_wp2
  go_ret2
  exact ⟨rfl, rfl⟩
theorem specZeroSum_yes (n : Nat) (sv : Value) (xs : List Int) (b : Nat) (w : World) (h : RowIn (n : Int) xs) (hI : IsInts w b sv xs) :
    Calls Try.prog 15 #[.int .i64 (n:Int), sv] w fun e w' => e = .returned (.tuple #[.int .i64 ((zsum n (rowZ xs) xs.length (2 ^ xs.length - 1) : Nat) : Int), .bool true]) ∧ Below w.heap.size w w' := by
  have h12 := h.2.1
  have HG := Lib.hid (given_yes n sv xs b w h hI)
  obtain ⟨N, hN, hN1, hN2, hw1, hw2, hw3, hw4⟩ := pow12L h12
  rw [hN]
  have HSum := Lib.hid (l9Sum_any n sv xs b (N - 1) w h (by omega) hI)
  obtain ⟨A, cap, hsv⟩ := hI.slice
  generalize zsum n (rowZ xs) xs.length (N - 1) = V at *
  generalize N - 1 = M at *
  generalize xs.length = L at *
  subst hsv
  clear hI h hN
  go_enter Try.func15, Try.ntmps15
  go_wp2_with fail
  refine HG.out.mono ?_
  rintro e w1 ⟨rfl, rfl⟩
  go_wp2_with fail
  refine HSum.out.mono ?_
  rintro e w2 ⟨rfl, hb2⟩
  go_wp2
  go_ret2
  exact ⟨rfl, hb2⟩
end Go.Proofs.Ytkddaecfljiehaa
