/- The functions of chapter 2 as others call them: steps, both, other, next, even. -/
import Derived.Test.YtnlalccnhpblkaaGreatGC
namespace Go.Proofs.YtnlalccnhpblkaaGreat
open Go.RowKit
set_option linter.unusedVariables false
theorem implStepBoth_yes (n s : Nat) (w : World) (h1 : 1 ≤ n) (h2 : n ≤ 12) (hs : s < 2 ^ n) (h0 : s.testBit 0 = false) :
    Calls Tryz.prog 9 #[.int .i64 (n:Int), .int .i64 (s:Int)] w fun e w' => e = .returned (.tuple #[.int .i64 ((bothN n s : Nat) : Int), .bool true]) ∧ Below w.heap.size w w' := by
  have HO := Lib.hid (stepsOf_yes n s w h1 h2 hs h0)
  have HS := Lib.hid (fun W => both_any n s W h1 h2 hs)
  go_enter Tryz.func9, Tryz.ntmps9
  go_wp2_with fail
  refine HO.out.mono ?_
  rintro e w1 ⟨rfl, hb1⟩
  go_wp2_with ((go_at_call 23; refine (HS.out _).mono ?_; rintro e w2 ⟨rfl, hb2⟩))
  go_ret2
  exact ⟨rfl, by
    have := hb1.size
    first
    | exact hb1
    | exact hb1.alloc (by omega) _
    | exact (hb1.alloc (by omega) _).trans (hb2.mono (by simp; omega))
    | exact ((hb1.alloc (by omega) _).trans (hb2.mono (by simp; omega))).trans (hb3.mono (by have := hb2.size; simp at this; omega))⟩
theorem implStepBoth_no (n s : Int) (w : World) (h : NoStep n s) :
    Calls Tryz.prog 9 #[.int .i64 n, .int .i64 s] w fun e w' => e = .returned (.tuple #[.int .i64 0, .bool false]) ∧ Below w.heap.size w w' := by
  have HO := Lib.hid (stepsOf_no n s w h)
  clear h
  go_enter Tryz.func9, Tryz.ntmps9
  go_wp2_with fail
  refine HO.out.mono ?_
  rintro e w1 ⟨rfl, hb1⟩
  go_wp2
  go_ret2
  exact ⟨rfl, by
    have := hb1.size
    first
    | exact hb1
    | exact hb1.alloc (by omega) _
    | exact (hb1.alloc (by omega) _).trans (hb2.mono (by simp; omega))
    | exact ((hb1.alloc (by omega) _).trans (hb2.mono (by simp; omega))).trans (hb3.mono (by have := hb2.size; simp at this; omega))⟩
theorem turn_lt12 (n s : Nat) (m : Int) (h1 : 1 ≤ n) (h2 : n ≤ 12) : turnN n s m < 2 ^ 12 := pow_mono h2 (turnN_lt n s m h1)
theorem even_iff (n s : Nat) (h1 : 1 ≤ n) (hs : s < 2 ^ n) : turnN n s (-1) = s ↔ bothN n s = s := by
  unfold bothN
  constructor
  · intro h
    rw [h, Nat.or_self]
  · intro h
    refine Nat.eq_of_testBit_eq fun i => ?_
    have hsub : ∀ i, (turnN n s (-1)).testBit i = true → s.testBit i = true := fun i hi => by
      rw [← h, Nat.testBit_or, hi, Bool.or_true]
    rw [Bool.eq_iff_iff]
    refine ⟨hsub i, fun hi => ?_⟩
    have hin := lt_of_bits n s hs i hi
    have h3 : (turnN n s (-1)).testBit (rest n (-(i : Int))) = true := by
      rw [turn_map, mapN_bit]
      exact ⟨i, hin, hi, by congr 1; omega⟩
    have h4 := hsub _ h3
    have h5 := rest_lt n (-(i : Int)) h1
    rw [turn_map, mapN_bit]
    refine ⟨_, h5, h4, ?_⟩
    have g : rest n (-1 * ((rest n (-(i : Int)) : Nat) : Int) + 0) = rest n (i : Int) := by
      have e : (-1 * ((rest n (-(i : Int)) : Nat) : Int) + 0) = -((rest n (-(i : Int)) : Nat) : Int) := by omega
      rw [e]
      have g2 : (-((rest n (-(i : Int)) : Nat) : Int)) % (n : Int) = (i : Int) % (n : Int) := by
        rw [rest_cast n _ h1, ← Int.zero_sub, Int.sub_emod, Int.emod_emod, ← Int.sub_emod, Int.zero_sub, Int.neg_neg]
      unfold rest at *
      rw [g2]
    rw [g]
    unfold rest
    rw [← Int.natCast_emod, Nat.mod_eq_of_lt hin]
    rfl
end Go.Proofs.YtnlalccnhpblkaaGreat
