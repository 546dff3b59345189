/- Steps and a number of arcs; full sets and lengths of rounds: the program. -/
import Derived.Test.YtjgpdmjfpcdklaaArrD
import Derived.Test.YtjgpdmjfpcdklaaWalkC
namespace Go.Proofs.Ytjgpdmjfpcdklaa
open Go.RowKit Go.Shelf
set_option linter.unusedVariables false
attribute [local go_sem] Oper.semAt_some
theorem duo_frozen {W : World} {B : Nat} {t : TypeId} {u v : Value} (h : Duo W B t u v) (i : Nat) : W.frozen? ⟨B, i, none⟩ = false := by
  have h' : W.heap[B]? = some (.cells #[u, v] t (0, 0)) := h
  simp [World.frozen?, h']
theorem wso_yes (n s k most : Nat) (w : World) (h1 : 1 ≤ n) (h2 : n ≤ 12) (hs : s < 2 ^ n) (h0 : s.testBit 0 = false) (hk : k ≤ most) (hm : most ≤ 1000) :
    Calls Try.prog 38 #[.int .i64 (n:Int), .int .i64 (s:Int), .int .i64 (k:Int), .int .i64 (most:Int)] w fun e w' => e = .returned (.tuple #[.agg #[.int .i64 (n:Int), .int .i64 (s:Int)], .bool true]) ∧ Below w.heap.size w w' := by
  have hO := stepsOf_yes n s (w.alloc (.cells #[.int .i64 0, .int .i64 0] 44)) h1 h2 hs h0
  simp only [World.size_alloc] at hO
  have HO := Lib.hid hO
  clear hO
  have k1 : ¬ (k : Int) < 0 := by omega
  have k2 : ¬ (most : Int) < (k : Int) := by omega
  have k3 : decide ((k : Int) < 0) = false := decide_eq_false k1
  have k4 : decide ((most : Int) < (k : Int)) = false := decide_eq_false k2
  go_enter Try.func38, Try.ntmps38
  go_wp2_with fail
  refine HO.out.mono ?_
  rintro e w1 ⟨rfl, hb⟩
  have hR := (Duo.new w 44 (.int .i64 0) (.int .i64 0)).same (hb.block _ (by simp))
  have hB : Below w.heap.size w w1 := ((Below.refl _ _).alloc (Nat.le_refl _) _).trans (hb.mono (by simp))
  have hz : w.heap.size + 1 ≤ w1.heap.size := by have := hb.size; simpa using this
  have hlt : w.heap.size < w1.heap.size := by omega
  have c0 := hR.cell0
  have c1 := hR.cell1
  have g0 := duo_frozen hR 0
  have g1 := duo_frozen hR 1
  clear hb
  go_wp2
  refine bodyPost_ret (v := .tuple #[.agg #[.int .i64 (n:Int), .int .i64 (s:Int)], .bool true]) ?_ rfl ⟨rfl, ?_⟩
  · simp [results, Try.results38, go_sem, c0, c1, hlt]
  · exact ((hB.setCell (p := ⟨w.heap.size, 0, none⟩) (Nat.le_refl _) _).setCell (p := ⟨w.heap.size, 1, none⟩) (Nat.le_refl _) _).alloc (by simp; omega) _
theorem wso_no (n s k most : Int) (w : World) (h : NoStep n s) :
    Calls Try.prog 38 #[.int .i64 n, .int .i64 s, .int .i64 k, .int .i64 most] w fun e w' => e = .returned (.tuple #[.agg #[.int .i64 0, .int .i64 0], .bool false]) ∧ Below w.heap.size w w' := by
  have hO := stepsOf_no n s (w.alloc (.cells #[.int .i64 0, .int .i64 0] 44)) h
  simp only [World.size_alloc] at hO
  have HO := Lib.hid hO
  clear hO
  clear h
  go_enter Try.func38, Try.ntmps38
  go_wp2_with fail
  refine HO.out.mono ?_
  rintro e w1 ⟨rfl, hb⟩
  have hR := (Duo.new w 44 (.int .i64 0) (.int .i64 0)).same (hb.block _ (by simp))
  have hB : Below w.heap.size w w1 := ((Below.refl _ _).alloc (Nat.le_refl _) _).trans (hb.mono (by simp))
  have hz : w.heap.size + 1 ≤ w1.heap.size := by have := hb.size; simpa using this
  have hlt : w.heap.size < w1.heap.size := by omega
  have c0 := hR.cell0
  have c1 := hR.cell1
  have g0 := duo_frozen hR 0
  have g1 := duo_frozen hR 1
  clear hb
  go_wp2
  refine bodyPost_ret (v := .tuple #[.agg #[.int .i64 0, .int .i64 0], .bool false]) ?_ rfl ⟨rfl, ?_⟩
  · simp [results, Try.results38, go_sem, c0, c1, hlt]
  · exact ((hB.setCell (p := ⟨w.heap.size, 0, none⟩) (Nat.le_refl _) _).setCell (p := ⟨w.heap.size, 1, none⟩) (Nat.le_refl _) _).alloc (by simp; omega) _
theorem wso_low (n s : Nat) (k most : Int) (w : World) (h1 : 1 ≤ n) (h2 : n ≤ 12) (hs : s < 2 ^ n) (h0 : s.testBit 0 = false) (hk : k < 0) :
    Calls Try.prog 38 #[.int .i64 (n:Int), .int .i64 (s:Int), .int .i64 k, .int .i64 most] w fun e w' => e = .returned (.tuple #[.agg #[.int .i64 0, .int .i64 0], .bool false]) ∧ Below w.heap.size w w' := by
  have hO := stepsOf_yes n s (w.alloc (.cells #[.int .i64 0, .int .i64 0] 44)) h1 h2 hs h0
  simp only [World.size_alloc] at hO
  have HO := Lib.hid hO
  clear hO
  have k3 : decide (k < 0) = true := decide_eq_true hk
  go_enter Try.func38, Try.ntmps38
  go_wp2_with fail
  refine HO.out.mono ?_
  rintro e w1 ⟨rfl, hb⟩
  have hR := (Duo.new w 44 (.int .i64 0) (.int .i64 0)).same (hb.block _ (by simp))
  have hB : Below w.heap.size w w1 := ((Below.refl _ _).alloc (Nat.le_refl _) _).trans (hb.mono (by simp))
  have hz : w.heap.size + 1 ≤ w1.heap.size := by have := hb.size; simpa using this
  have hlt : w.heap.size < w1.heap.size := by omega
  have c0 := hR.cell0
  have c1 := hR.cell1
  have g0 := duo_frozen hR 0
  have g1 := duo_frozen hR 1
  clear hb
  go_wp2
  refine bodyPost_ret (v := .tuple #[.agg #[.int .i64 0, .int .i64 0], .bool false]) ?_ rfl ⟨rfl, ?_⟩
  · simp [results, Try.results38, go_sem, c0, c1, hlt]
  · exact ((hB.setCell (p := ⟨w.heap.size, 0, none⟩) (Nat.le_refl _) _).setCell (p := ⟨w.heap.size, 1, none⟩) (Nat.le_refl _) _).alloc (by simp; omega) _
theorem wso_high (n s : Nat) (k most : Int) (w : World) (h1 : 1 ≤ n) (h2 : n ≤ 12) (hs : s < 2 ^ n) (h0 : s.testBit 0 = false) (hk0 : ¬ k < 0) (hk : most < k) :
    Calls Try.prog 38 #[.int .i64 (n:Int), .int .i64 (s:Int), .int .i64 k, .int .i64 most] w fun e w' => e = .returned (.tuple #[.agg #[.int .i64 0, .int .i64 0], .bool false]) ∧ Below w.heap.size w w' := by
  have hO := stepsOf_yes n s (w.alloc (.cells #[.int .i64 0, .int .i64 0] 44)) h1 h2 hs h0
  simp only [World.size_alloc] at hO
  have HO := Lib.hid hO
  clear hO
  have k3 : decide (k < 0) = false := decide_eq_false hk0
  have k4 : decide (most < k) = true := decide_eq_true hk
  go_enter Try.func38, Try.ntmps38
  go_wp2_with fail
  refine HO.out.mono ?_
  rintro e w1 ⟨rfl, hb⟩
  have hR := (Duo.new w 44 (.int .i64 0) (.int .i64 0)).same (hb.block _ (by simp))
  have hB : Below w.heap.size w w1 := ((Below.refl _ _).alloc (Nat.le_refl _) _).trans (hb.mono (by simp))
  have hz : w.heap.size + 1 ≤ w1.heap.size := by have := hb.size; simpa using this
  have hlt : w.heap.size < w1.heap.size := by omega
  have c0 := hR.cell0
  have c1 := hR.cell1
  have g0 := duo_frozen hR 0
  have g1 := duo_frozen hR 1
  clear hb
  go_wp2
  refine bodyPost_ret (v := .tuple #[.agg #[.int .i64 0, .int .i64 0], .bool false]) ?_ rfl ⟨rfl, ?_⟩
  · simp [results, Try.results38, go_sem, c0, c1, hlt]
  · exact ((hB.setCell (p := ⟨w.heap.size, 0, none⟩) (Nat.le_refl _) _).setCell (p := ⟨w.heap.size, 1, none⟩) (Nat.le_refl _) _).alloc (by simp; omega) _
/-- 1 at what has come. -/
def oneP (pre : List Nat) (x : Nat) : Nat := if 0 < pre.count x then 1 else 0
theorem oneP_snoc {r : Nat} (pre : List (Fin r)) (y : Fin r) (x : Nat) : oneP (vals (pre ++ [y])) x = if x = y.val then 1 else oneP (vals pre) x := by
  unfold oneP
  rw [count_snoc]
  by_cases e : x = y.val
  · simp [e]
  · simp [e]
/-- 1 at all places of a ring of n. -/
def allP (n x : Nat) : Nat := if x < n then 1 else 0
theorem oneP_end (n x : Nat) : oneP (vals (comeTo n (2 ^ n - 1) n)) x = allP n x := by
  unfold oneP allP
  rw [count_come n _ n x (Nat.le_refl n), Nat.testBit_two_pow_sub_one]
  by_cases c : x < n <;> simp [c]
end Go.Proofs.Ytjgpdmjfpcdklaa
