/- Free sets, the program's side: what holds of a set. -/
import Derived.Test.YtcmobeeneleidaaFreC
import Derived.Test.YtcmobeeneleidaaRoA
import Derived.Test.YtcmobeeneleidaaStepZ
namespace Go.Proofs.Ytcmobeeneleidaa
open Go.RowKit Go.Shelf
set_option linter.unusedVariables false
theorem cast_beq0 (a : Nat) : ((a : Int) == 0) = Nat.beq a 0 := by
  cases a with
  | zero => rfl
  | succ k =>
    show ((((k + 1 : Nat) : Int)) == 0) = false
    simp; omega
theorem cast_beq (a b : Nat) : ((a : Int) == (b : Int)) = Nat.beq a b := by
  by_cases h : a = b
  · subst h
    rw [Nat.beq_refl]
    simp
  · rw [beq_cast_ne h]
    cases hb : Nat.beq a b
    · rfl
    · exact absurd (Nat.eq_of_beq_eq_true hb) h
theorem isFree_any (n s x : Nat) (w : World) (h1 : 1 ≤ n) (h2 : n ≤ 12) (hs : s < 2 ^ n) (hx : x < 2 ^ n) :
    Calls Try.prog 54 #[.agg #[.int .i64 (n:Int), .int .i64 (s:Int)], .int .i64 (x:Int)] w fun e w' => e = .returned (.bool (fsetN n s x)) ∧ Below w.heap.size w w' := by
  have hp := pow_le n h2
  have hl := sumN_lt n s x
  have hsu := fun W => sum_any n x s W h1 h2 hx hs
  rw [sum_comm n x s h1 hx hs] at hsu
  have HS := Lib.hid hsu
  have hand := and_nat (sumN n s x) x (by omega) (by omega)
  have HE : Hid ((((sumN n s x &&& x : Nat) : Int) == 0) = fsetN n s x) := Lib.hid (cast_beq0 _)
  clear hsu
  generalize fsetN n s x = b at *
  generalize sumN n s x = q at *
  generalize q &&& x = y at *
  go_enter Try.func54, Try.ntmps54
  go_wp2_with fail
  refine (HS.out _).mono ?_
  rintro e w1 ⟨rfl, hb⟩
  go_wp2
  go_ret
  exact ⟨ret_bool (by first | exact HE.out | simpa using HE.out), ((Below.refl _ _).alloc (Nat.le_refl _) _).trans (hb.mono (by simp))⟩
theorem isSumless_any (n x : Nat) (w : World) (h1 : 1 ≤ n) (h2 : n ≤ 12) (hx : x < 2 ^ n) :
    Calls Try.prog 51 #[.agg #[.int .i64 (n:Int)], .int .i64 (x:Int)] w fun e w' => e = .returned (.bool (sumlN n x)) ∧ Below w.heap.size w w' := by
  have hp := pow_le n h2
  have hl := sumN_lt n x x
  have HS := Lib.hid (fun W => sum_any n x x W h1 h2 hx hx)
  have hand := and_nat (sumN n x x) x (by omega) (by omega)
  have HE : Hid ((((sumN n x x &&& x : Nat) : Int) == 0) = sumlN n x) := Lib.hid (cast_beq0 _)
  generalize sumlN n x = b at *
  generalize sumN n x x = q at *
  generalize q &&& x = y at *
  go_enter Try.func51, Try.ntmps51
  go_wp2_with fail
  refine (HS.out _).mono ?_
  rintro e w1 ⟨rfl, hb⟩
  go_wp2
  go_ret
  exact ⟨ret_bool (by first | exact HE.out | simpa using HE.out), ((Below.refl _ _).alloc (Nat.le_refl _) _).trans (hb.mono (by simp))⟩
theorem watched_any (n s : Nat) (w : World) (h1 : 1 ≤ n) (h2 : n ≤ 12) (hs : s < 2 ^ n) :
    Calls Try.prog 68 #[.agg #[.int .i64 (n:Int), .int .i64 (s:Int)]] w fun e w' => e = .returned (.int .i64 ((s ||| 1 : Nat) : Int)) ∧ Below w.heap.size w w' := by
  have hp := pow_le n h2
  have hw := fun W => with_int s 0 0 W rfl (by omega) (by omega)
  simp only [Nat.pow_zero] at hw
  have HW := Lib.hid hw
  clear hw
  generalize s ||| 1 = q at *
  go_enter Try.func68, Try.ntmps68
  go_wp2_with (go_at_call 67; refine (HW.out _).mono ?_; rintro e w2 ⟨rfl, rfl⟩)
  go_ret
  exact ⟨rfl, (Below.refl _ _).alloc (Nat.le_refl _) _⟩
theorem watches_any (n s x : Nat) (w : World) (h1 : 1 ≤ n) (h2 : n ≤ 12) (hs : s < 2 ^ n) (hx : x < 2 ^ n) :
    Calls Try.prog 59 #[.agg #[.int .i64 (n:Int), .int .i64 (s:Int)], .int .i64 (x:Int)] w fun e w' => e = .returned (.bool (wideN n s x)) ∧ Below w.heap.size w w' := by
  have hp := pow_le n h2
  have ho := or_one_lt n s h1 hs
  have hsu := fun W => sum_any n x (s ||| 1) W h1 h2 hx ho
  rw [sum_comm n x (s ||| 1) h1 hx ho] at hsu
  have HS := Lib.hid hsu
  have HA := Lib.hid (fun W => all_any n W h2)
  have HW := Lib.hid (fun W => watched_any n s W h1 h2 hs)
  have HE : Hid ((((sumN n (s ||| 1) x : Nat) : Int) == ((2 ^ n - 1 : Nat) : Int)) = wideN n s x) := Lib.hid (cast_beq _ _)
  clear hsu ho
  generalize wideN n s x = b at *
  generalize sumN n (s ||| 1) x = q at *
  generalize s ||| 1 = o at *
  generalize 2 ^ n - 1 = N at *
  go_enter Try.func59, Try.ntmps59
  go_wp2_with fail
  have c0 : (w.alloc (.cells #[.int .i64 (n:Int), .int .i64 (s:Int)] 39)).cell? ⟨w.heap.size, 0, none⟩ = some (.int .i64 (n:Int)) := by simp
  have c1 : (w.alloc (.cells #[.int .i64 (n:Int), .int .i64 (s:Int)] 39)).cell? ⟨w.heap.size, 1, none⟩ = some (.int .i64 (s:Int)) := by simp
  have B0 : Below w.heap.size w (w.alloc (.cells #[.int .i64 (n:Int), .int .i64 (s:Int)] 39)) := (Below.refl _ _).alloc (Nat.le_refl _) _
  have z0 : w.heap.size + 1 ≤ (w.alloc (.cells #[.int .i64 (n:Int), .int .i64 (s:Int)] 39)).heap.size := by simp
  obtain ⟨W0, hW0⟩ : ∃ W0, w.alloc (.cells #[.int .i64 (n:Int), .int .i64 (s:Int)] 39) = W0 := ⟨_, rfl⟩
  rw [hW0] at c0 c1 B0 z0 ⊢
  clear hW0
  have Bd : Below w.heap.size w W0.drew := B0.drew
  have T4 : (fun W : World => W.cell? ⟨w.heap.size, 0, none⟩ = some (.int .i64 (n:Int)) ∧ W.cell? ⟨w.heap.size, 1, none⟩ = some (.int .i64 (s:Int)) ∧ Below w.heap.size w W ∧ w.heap.size + 1 ≤ W.heap.size) W0.drew := ⟨c0, c1, Bd, z0⟩
  go_region_held3 (fun W => W.cell? ⟨w.heap.size, 0, none⟩ = some (.int .i64 (n:Int)) ∧ W.cell? ⟨w.heap.size, 1, none⟩ = some (.int .i64 (s:Int)) ∧ Below w.heap.size w W ∧ w.heap.size + 1 ≤ W.heap.size)
    (first | exact T4 | ((try dsimp only); (try go_split_ands); refine ⟨?_, ?_, ?_, ?_⟩ <;> first | assumption | (exact (hb2.cell (by simp; omega)).trans (by assumption)) | (exact Below.trans (by assumption) (hb2.mono (by omega))) | (have := hb2.size; omega)))
    (first | (go_at_call 61; refine (HA.out _).mono ?_; rintro e w2 ⟨rfl, hb2⟩) | (go_at_call 68; refine (HW.out _).mono ?_; rintro e w2 ⟨rfl, hb2⟩) | (go_at_call 63; refine (HS.out _).mono ?_; rintro e w2 ⟨rfl, hb2⟩))
  all_goals go_split_ands
  all_goals go_wp2
  all_goals go_ret
  all_goals exact ⟨ret_bool (by first | exact HE.out | simpa using HE.out), by assumption⟩
end Go.Proofs.Ytcmobeeneleidaa
