/- The functions of chapter 2 as others call them: steps, both, other, next, even. -/
import Derived.Test.YtgadlhcgaeilcaaStepB
namespace Go.Proofs.Ytgadlhcgaeilcaa
open Go.RowKit
set_option linter.unusedVariables false
theorem implStepBoth_yes (n s : Nat) (w : World) (h1 : 1 ≤ n) (h2 : n ≤ 12) (hs : s < 2 ^ n) (h0 : s.testBit 0 = false) :
    Calls Try.prog 19 #[.int .i64 (n:Int), .int .i64 (s:Int)] w fun e w' => e = .returned (.tuple #[.int .i64 ((bothN n s : Nat) : Int), .bool true]) ∧ Below w.heap.size w w' := by
  have HO := Lib.hid (stepsOf_yes n s w h1 h2 hs h0)
  have HS := Lib.hid (fun W => both_any n s W h1 h2 hs)
  go_enter Try.func19, Try.ntmps19
  go_wp2_with fail
  refine HO.out.mono ?_
  rintro e w1 ⟨rfl, hb1⟩
  go_wp2_with ((go_at_call 48; refine (HS.out _).mono ?_; rintro e w2 ⟨rfl, hb2⟩))
  go_ret2
  exact ⟨rfl, by
    have := hb1.size
    first
    | exact hb1
    | exact hb1.alloc (by omega) _
    | exact (hb1.alloc (by omega) _).trans (hb2.mono (by simp; omega))
    | exact ((hb1.alloc (by omega) _).trans (hb2.mono (by simp; omega))).trans (hb3.mono (by have := hb2.size; simp at this; omega))⟩
theorem implStepBoth_no (n s : Int) (w : World) (h : NoStep n s) :
    Calls Try.prog 19 #[.int .i64 n, .int .i64 s] w fun e w' => e = .returned (.tuple #[.int .i64 0, .bool false]) ∧ Below w.heap.size w w' := by
  have HO := Lib.hid (stepsOf_no n s w h)
  clear h
  go_enter Try.func19, Try.ntmps19
  go_wp2_with fail
  refine HO.out.mono ?_
  rintro e w1 ⟨rfl, hb1⟩
  go_wp2
  go_ret2
  exact ⟨rfl, by
    have := hb1.size
    first
    | exact hb1
    | exact hb1.alloc (by omega) _
    | exact (hb1.alloc (by omega) _).trans (hb2.mono (by simp; omega))
    | exact ((hb1.alloc (by omega) _).trans (hb2.mono (by simp; omega))).trans (hb3.mono (by have := hb2.size; simp at this; omega))⟩
theorem specStepBoth_yes (n s : Nat) (w : World) (h1 : 1 ≤ n) (h2 : n ≤ 12) (hs : s < 2 ^ n) (h0 : s.testBit 0 = false) :
    Calls Try.prog 21 #[.int .i64 (n:Int), .int .i64 (s:Int)] w fun e w' => e = .returned (.tuple #[.int .i64 ((bothN n s : Nat) : Int), .bool true]) ∧ w = w' := by
  have HI := Lib.hid (specStep_yes n s w h1 h2 hs h0)
  have HS := Lib.hid (l2Both_any n s w h1 h2 hs)
  go_enter Try.func21, Try.ntmps21
  go_wp2_with (first | (go_at_call 13; refine HI.out.mono ?_; rintro e w' ⟨rfl, rfl⟩) | (go_at_call 49; refine (HS.out).mono ?_; rintro e w' ⟨rfl, rfl⟩))
  go_ret2
  exact ⟨rfl, rfl⟩
theorem specStepBoth_no (n s : Int) (w : World) (h : NoStep n s) :
    Calls Try.prog 21 #[.int .i64 n, .int .i64 s] w fun e w' => e = .returned (.tuple #[.int .i64 0, .bool false]) ∧ w = w' := by
  have HI := Lib.hid (specStep_no n s w h)
  clear h
  go_enter Try.func21, Try.ntmps21
  go_wp2_with ((go_at_call 13; refine HI.out.mono ?_; rintro e w' ⟨rfl, rfl⟩))
  go_ret2
  exact ⟨rfl, rfl⟩
theorem implStepOther_yes (n s : Nat) (w : World) (h1 : 1 ≤ n) (h2 : n ≤ 12) (hs : s < 2 ^ n) (h0 : s.testBit 0 = false) :
    Calls Try.prog 15 #[.int .i64 (n:Int), .int .i64 (s:Int)] w fun e w' => e = .returned (.tuple #[.int .i64 ((otherN n s : Nat) : Int), .bool true]) ∧ Below w.heap.size w w' := by
  have HO := Lib.hid (stepsOf_yes n s w h1 h2 hs h0)
  have HS := Lib.hid (fun W => other_any n s W h1 h2 hs)
  go_enter Try.func15, Try.ntmps15
  go_wp2_with fail
  refine HO.out.mono ?_
  rintro e w1 ⟨rfl, hb1⟩
  go_wp2_with ((go_at_call 45; refine (HS.out _).mono ?_; rintro e w2 ⟨rfl, hb2⟩))
  go_ret2
  exact ⟨rfl, by
    have := hb1.size
    first
    | exact hb1
    | exact hb1.alloc (by omega) _
    | exact (hb1.alloc (by omega) _).trans (hb2.mono (by simp; omega))
    | exact ((hb1.alloc (by omega) _).trans (hb2.mono (by simp; omega))).trans (hb3.mono (by have := hb2.size; simp at this; omega))⟩
theorem implStepOther_no (n s : Int) (w : World) (h : NoStep n s) :
    Calls Try.prog 15 #[.int .i64 n, .int .i64 s] w fun e w' => e = .returned (.tuple #[.int .i64 0, .bool false]) ∧ Below w.heap.size w w' := by
  have HO := Lib.hid (stepsOf_no n s w h)
  clear h
  go_enter Try.func15, Try.ntmps15
  go_wp2_with fail
  refine HO.out.mono ?_
  rintro e w1 ⟨rfl, hb1⟩
  go_wp2
  go_ret2
  exact ⟨rfl, by
    have := hb1.size
    first
    | exact hb1
    | exact hb1.alloc (by omega) _
    | exact (hb1.alloc (by omega) _).trans (hb2.mono (by simp; omega))
    | exact ((hb1.alloc (by omega) _).trans (hb2.mono (by simp; omega))).trans (hb3.mono (by have := hb2.size; simp at this; omega))⟩
theorem specStepOther_yes (n s : Nat) (w : World) (h1 : 1 ≤ n) (h2 : n ≤ 12) (hs : s < 2 ^ n) (h0 : s.testBit 0 = false) :
    Calls Try.prog 23 #[.int .i64 (n:Int), .int .i64 (s:Int)] w fun e w' => e = .returned (.tuple #[.int .i64 ((otherN n s : Nat) : Int), .bool true]) ∧ w = w' := by
  have HI := Lib.hid (specStep_yes n s w h1 h2 hs h0)
  have hp := pow_le n h2
  have he : bits .andNot .i64 (wrap64 (wrap64 (2 ^ n) - 2)) (s : Int) = ((otherN n s : Nat) : Int) := by
    rw [pow2_nat n h1 h2, less_nat _ _ (by omega) (by omega), other_spec n s h1]
  have HE := Lib.hid he
  clear he
  go_enter Try.func23, Try.ntmps23
  go_wp2_with ((go_at_call 13; refine HI.out.mono ?_; rintro e w' ⟨rfl, rfl⟩))
  go_ret2
  exact ⟨by rw [← HE.out]; rfl, rfl⟩
theorem specStepOther_no (n s : Int) (w : World) (h : NoStep n s) :
    Calls Try.prog 23 #[.int .i64 n, .int .i64 s] w fun e w' => e = .returned (.tuple #[.int .i64 0, .bool false]) ∧ w = w' := by
  have HI := Lib.hid (specStep_no n s w h)
  clear h
  go_enter Try.func23, Try.ntmps23
  go_wp2_with ((go_at_call 13; refine HI.out.mono ?_; rintro e w' ⟨rfl, rfl⟩))
  go_ret2
  exact ⟨rfl, rfl⟩
theorem implStepEven_yes (n s : Nat) (w : World) (h1 : 1 ≤ n) (h2 : n ≤ 12) (hs : s < 2 ^ n) (h0 : s.testBit 0 = false) :
    Calls Try.prog 17 #[.int .i64 (n:Int), .int .i64 (s:Int)] w fun e w' => e = .returned (.bool (decide (bothN n s = s))) ∧ Below w.heap.size w w' := by
  have HO := Lib.hid (stepsOf_yes n s w h1 h2 hs h0)
  have HS := Lib.hid (fun W => even_any n s W h1 h2 hs)
  go_enter Try.func17, Try.ntmps17
  go_wp2_with fail
  refine HO.out.mono ?_
  rintro e w1 ⟨rfl, hb1⟩
  go_wp2_with ((go_at_call 46; refine (HS.out _).mono ?_; rintro e w2 ⟨rfl, hb2⟩))
  go_ret
  exact ⟨rfl, by
    have := hb1.size
    first
    | exact hb1
    | exact hb1.alloc (by omega) _
    | exact (hb1.alloc (by omega) _).trans (hb2.mono (by simp; omega))
    | exact ((hb1.alloc (by omega) _).trans (hb2.mono (by simp; omega))).trans (hb3.mono (by have := hb2.size; simp at this; omega))⟩
theorem implStepEven_no (n s : Int) (w : World) (h : NoStep n s) :
    Calls Try.prog 17 #[.int .i64 n, .int .i64 s] w fun e w' => e = .returned (.bool false) ∧ Below w.heap.size w w' := by
  have HO := Lib.hid (stepsOf_no n s w h)
  clear h
  go_enter Try.func17, Try.ntmps17
  go_wp2_with fail
  refine HO.out.mono ?_
  rintro e w1 ⟨rfl, hb1⟩
  go_wp2
  go_ret
  exact ⟨rfl, by
    have := hb1.size
    first
    | exact hb1
    | exact hb1.alloc (by omega) _
    | exact (hb1.alloc (by omega) _).trans (hb2.mono (by simp; omega))
    | exact ((hb1.alloc (by omega) _).trans (hb2.mono (by simp; omega))).trans (hb3.mono (by have := hb2.size; simp at this; omega))⟩
theorem implStepNext_yes (n s : Nat) (v : Int) (w : World) (h1 : 1 ≤ n) (h2 : n ≤ 12) (hs : s < 2 ^ n) (h0 : s.testBit 0 = false) (hv1 : 0 ≤ v) (hv2 : v < (n:Int)) :
    Calls Try.prog 27 #[.int .i64 (n:Int), .int .i64 (s:Int), .int .i64 v] w fun e w' => e = .returned (.tuple #[.int .i64 ((shiftN n s v : Nat) : Int), .bool true]) ∧ Below w.heap.size w w' := by
  have HO := Lib.hid (stepsOf_yes n s w h1 h2 hs h0)
  have hm := fun W => isPlace_any n v W
  rw [show decide (0 ≤ v ∧ v < (n:Int)) = true from by simp; omega] at hm
  have HM := Lib.hid hm
  clear hm
  have HS := Lib.hid (fun W => next_any n s v W h1 h2 hs (by omega) (by omega))
  go_enter Try.func27, Try.ntmps27
  go_wp2_with fail
  refine HO.out.mono ?_
  rintro e w1 ⟨rfl, hb1⟩
  go_wp2_with (first | (go_at_call 52; refine (HM.out _).mono ?_; rintro e w2 ⟨rfl, hb2⟩; have k0 : w2.cell? ⟨w1.heap.size, 0, none⟩ = some (.int .i64 (n:Int)) := (hb2.cell (p := ⟨w1.heap.size, 0, none⟩) (by simp)).trans (by simp); have k1 : w2.cell? ⟨w1.heap.size, 1, none⟩ = some (.int .i64 (s:Int)) := (hb2.cell (p := ⟨w1.heap.size, 1, none⟩) (by simp)).trans (by simp)) | (go_at_call 53; refine (HS.out _).mono ?_; rintro e w3 ⟨rfl, hb3⟩))
  go_ret2
  exact ⟨rfl, by
    have := hb1.size
    first
    | exact hb1
    | exact hb1.alloc (by omega) _
    | exact (hb1.alloc (by omega) _).trans (hb2.mono (by simp; omega))
    | exact ((hb1.alloc (by omega) _).trans (hb2.mono (by simp; omega))).trans (hb3.mono (by have := hb2.size; simp at this; omega))⟩
theorem implStepNext_no (n s v : Int) (w : World) (h : NoStep n s) :
    Calls Try.prog 27 #[.int .i64 n, .int .i64 s, .int .i64 v] w fun e w' => e = .returned (.tuple #[.int .i64 0, .bool false]) ∧ Below w.heap.size w w' := by
  have HO := Lib.hid (stepsOf_no n s w h)
  clear h
  go_enter Try.func27, Try.ntmps27
  go_wp2_with fail
  refine HO.out.mono ?_
  rintro e w1 ⟨rfl, hb1⟩
  go_wp2
  go_ret2
  exact ⟨rfl, by
    have := hb1.size
    first
    | exact hb1
    | exact hb1.alloc (by omega) _
    | exact (hb1.alloc (by omega) _).trans (hb2.mono (by simp; omega))
    | exact ((hb1.alloc (by omega) _).trans (hb2.mono (by simp; omega))).trans (hb3.mono (by have := hb2.size; simp at this; omega))⟩
theorem implStepNext_move (n s : Nat) (v : Int) (w : World) (h1 : 1 ≤ n) (h2 : n ≤ 12) (hs : s < 2 ^ n) (h0 : s.testBit 0 = false) (h : ¬ (0 ≤ v ∧ v < (n:Int))) :
    Calls Try.prog 27 #[.int .i64 (n:Int), .int .i64 (s:Int), .int .i64 v] w fun e w' => e = .returned (.tuple #[.int .i64 0, .bool false]) ∧ Below w.heap.size w w' := by
  have HO := Lib.hid (stepsOf_yes n s w h1 h2 hs h0)
  have hm := fun W => isPlace_any n v W
  rw [show decide (0 ≤ v ∧ v < (n:Int)) = false from by simpa using h] at hm
  have HM := Lib.hid hm
  clear hm
  clear h
  go_enter Try.func27, Try.ntmps27
  go_wp2_with fail
  refine HO.out.mono ?_
  rintro e w1 ⟨rfl, hb1⟩
  go_wp2_with ((go_at_call 52; refine (HM.out _).mono ?_; rintro e w2 ⟨rfl, hb2⟩))
  go_ret2
  exact ⟨rfl, by
    have := hb1.size
    first
    | exact hb1
    | exact hb1.alloc (by omega) _
    | exact (hb1.alloc (by omega) _).trans (hb2.mono (by simp; omega))
    | exact ((hb1.alloc (by omega) _).trans (hb2.mono (by simp; omega))).trans (hb3.mono (by have := hb2.size; simp at this; omega))⟩
theorem specStepNext_yes (n s : Nat) (v : Int) (w : World) (h1 : 1 ≤ n) (h2 : n ≤ 12) (hs : s < 2 ^ n) (h0 : s.testBit 0 = false) (hv1 : 0 ≤ v) (hv2 : v < (n:Int)) :
    Calls Try.prog 28 #[.int .i64 (n:Int), .int .i64 (s:Int), .int .i64 v] w fun e w' => e = .returned (.tuple #[.int .i64 ((shiftN n s v : Nat) : Int), .bool true]) ∧ w = w' := by
  have HI := Lib.hid (specStep_yes n s w h1 h2 hs h0)
  have HM := Lib.hid (l6In_yes v 0 ((n:Int) - 1) w hv1 (by omega))
  have E := IntWalk.i64_in ((n:Int) - 1) ⟨by omega, by omega⟩
  have HS := Lib.hid (l1ShiftK_any n s v w h1 h2 hs (by omega) (by omega))
  go_enter Try.func28, Try.ntmps28
  go_wp2_with (first | (go_at_call 13; refine HI.out.mono ?_; rintro e w' ⟨rfl, rfl⟩) | (go_at_call 54; refine (HM.out).mono ?_; rintro e w' ⟨rfl, rfl⟩) | (go_at_call 47; refine (HS.out).mono ?_; rintro e w' ⟨rfl, rfl⟩))
  go_ret2
  exact ⟨rfl, rfl⟩
theorem specStepNext_no (n s v : Int) (w : World) (h : NoStep n s) :
    Calls Try.prog 28 #[.int .i64 n, .int .i64 s, .int .i64 v] w fun e w' => e = .returned (.tuple #[.int .i64 0, .bool false]) ∧ w = w' := by
  have HI := Lib.hid (specStep_no n s w h)
  clear h
  go_enter Try.func28, Try.ntmps28
  go_wp2_with ((go_at_call 13; refine HI.out.mono ?_; rintro e w' ⟨rfl, rfl⟩))
  go_ret2
  exact ⟨rfl, rfl⟩
theorem specStepNext_move (n s : Nat) (v : Int) (w : World) (h1 : 1 ≤ n) (h2 : n ≤ 12) (hs : s < 2 ^ n) (h0 : s.testBit 0 = false) (h : ¬ (0 ≤ v ∧ v < (n:Int))) :
    Calls Try.prog 28 #[.int .i64 (n:Int), .int .i64 (s:Int), .int .i64 v] w fun e w' => e = .returned (.tuple #[.int .i64 0, .bool false]) ∧ w = w' := by
  have HI := Lib.hid (specStep_yes n s w h1 h2 hs h0)
  have HM := Lib.hid (l6In_no v 0 ((n:Int) - 1) w (by omega))
  have E := IntWalk.i64_in ((n:Int) - 1) ⟨by omega, by omega⟩
  clear h
  go_enter Try.func28, Try.ntmps28
  go_wp2_with (first | (go_at_call 13; refine HI.out.mono ?_; rintro e w' ⟨rfl, rfl⟩) | (go_at_call 54; refine (HM.out).mono ?_; rintro e w' ⟨rfl, rfl⟩))
  go_ret2
  exact ⟨rfl, rfl⟩
theorem turn_lt12 (n s : Nat) (m : Int) (h1 : 1 ≤ n) (h2 : n ≤ 12) : turnN n s m < 2 ^ 12 := pow_mono h2 (turnN_lt n s m h1)
theorem even_iff (n s : Nat) (h1 : 1 ≤ n) (hs : s < 2 ^ n) : turnN n s (-1) = s ↔ bothN n s = s := by
  unfold bothN
  constructor
  · intro h
    rw [h, Nat.or_self]
  · intro h
    refine Nat.eq_of_testBit_eq fun i => ?_
    have hsub : ∀ i, (turnN n s (-1)).testBit i = true → s.testBit i = true := fun i hi => by
      rw [← h, Nat.testBit_or, hi, Bool.or_true]
    rw [Bool.eq_iff_iff]
    refine ⟨hsub i, fun hi => ?_⟩
    have hin := lt_of_bits n s hs i hi
    have h3 : (turnN n s (-1)).testBit (rest n (-(i : Int))) = true := by
      rw [turn_map, mapN_bit]
      exact ⟨i, hin, hi, by congr 1; omega⟩
    have h4 := hsub _ h3
    have h5 := rest_lt n (-(i : Int)) h1
    rw [turn_map, mapN_bit]
    refine ⟨_, h5, h4, ?_⟩
    have g : rest n (-1 * ((rest n (-(i : Int)) : Nat) : Int) + 0) = rest n (i : Int) := by
      have e : (-1 * ((rest n (-(i : Int)) : Nat) : Int) + 0) = -((rest n (-(i : Int)) : Nat) : Int) := by omega
      rw [e]
      have g2 : (-((rest n (-(i : Int)) : Nat) : Int)) % (n : Int) = (i : Int) % (n : Int) := by
        rw [rest_cast n _ h1, ← Int.zero_sub, Int.sub_emod, Int.emod_emod, ← Int.sub_emod, Int.zero_sub, Int.neg_neg]
      unfold rest at *
      rw [g2]
    rw [g]
    unfold rest
    rw [← Int.natCast_emod, Nat.mod_eq_of_lt hin]
    rfl
theorem specStepEven_yes (n s : Nat) (w : World) (h1 : 1 ≤ n) (h2 : n ≤ 12) (hs : s < 2 ^ n) (h0 : s.testBit 0 = false) :
    Calls Try.prog 18 #[.int .i64 (n:Int), .int .i64 (s:Int)] w fun e w' => e = .returned (.bool (decide (bothN n s = s))) ∧ w = w' := by
  have HI := Lib.hid (specStep_yes n s w h1 h2 hs h0)
  have HT := Lib.hid (l1Turn_any n s (-1) w h1 h2 hs (by omega) (by omega))
  have HE : Hid ((((turnN n s (-1) : Nat) : Int) == (s : Int)) = decide (bothN n s = s)) := Lib.hid (by
    have hi := even_iff n s h1 hs
    by_cases h : bothN n s = s
    · have h' := hi.2 h
      simp [h, h']
    · have h' := fun hh => h (hi.1 hh)
      simp [h]
      omega)
  generalize turnN n s (-1) = q at *
  go_enter Try.func18, Try.ntmps18
  go_wp2_with (first | (go_at_call 13; refine HI.out.mono ?_; rintro e w' ⟨rfl, rfl⟩) | (go_at_call 47; refine (HT.out).mono ?_; rintro e w' ⟨rfl, rfl⟩))
  go_ret
  exact ⟨ret_bool (by first | exact HE.out | simpa using HE.out), rfl⟩
theorem specStepEven_no (n s : Int) (w : World) (h : NoStep n s) :
    Calls Try.prog 18 #[.int .i64 n, .int .i64 s] w fun e w' => e = .returned (.bool false) ∧ w = w' := by
  have HI := Lib.hid (specStep_no n s w h)
  clear h
  go_enter Try.func18, Try.ntmps18
  go_wp2_with ((go_at_call 13; refine HI.out.mono ?_; rintro e w' ⟨rfl, rfl⟩))
  go_ret
  exact ⟨rfl, rfl⟩
end Go.Proofs.Ytgadlhcgaeilcaa
