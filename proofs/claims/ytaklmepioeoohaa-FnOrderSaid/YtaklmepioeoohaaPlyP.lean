/- PlayOrder: the contracts, and the model where there is no order. Written by gen72.py. -/
import Derived.Test.YtaklmepioeoohaaPlyI
import Derived.Test.YtaklmepioeoohaaGQ
import Derived.Test.YtaklmepioeoohaaGG
namespace Go.Proofs.Ytaklmepioeoohaa
open Go.RowKit Go.Shelf
set_option linter.unusedVariables false
def NoPlayOrder : Prop := ∀ (n s : Int) (W : World), NoPlay n s ∨ 9 < n → Calls Try.prog 38 #[.int .i64 n, .int .i64 s] W (ListRes W [] false)
def YesPlayOrder : Prop := ∀ (n s : Nat) (W : World), n ≤ 9 → s < 2 ^ n → playB n s = true → Calls Try.prog 38 #[.int .i64 (n:Int), .int .i64 (s:Int)] W (ListRes W (ordL n s) true)
def NoSpecOrder : Prop := ∀ (n s : Int) (W : World), NoPlay n s ∨ 9 < n → Calls Try.prog 39 #[.int .i64 n, .int .i64 s] W (ListRes W [] false)
def YesSpecOrder : Prop := ∀ (n s : Nat) (W : World), n ≤ 9 → s < 2 ^ n → playB n s = true → Calls Try.prog 39 #[.int .i64 (n:Int), .int .i64 (s:Int)] W (ListRes W (ordL n s) true)
theorem specPlayOrder_no : NoSpecOrder := by
  intro n s W h
  by_cases hn : NoPlay n s
  · have HI := Lib.hid (fun W => specPlayIn_no n s W hn)
    clear h hn
    go_enter Try.func39, Try.ntmps39
    go_wp2_with (go_at_call 13; refine (HI.out _).mono ?_; rintro e w' ⟨rfl, rfl⟩)
    go_ret2
    exact ⟨_, rfl, (Below.refl _ _).alloc (Nat.le_refl _) _, nil_made W _ (Nat.le_refl _)⟩
  · have h9 : 9 < n := h.resolve_left hn
    have h8 := decide_eq_true h9
    obtain ⟨m, t, rfl, rfl, h1, h2, h3, h4⟩ := not_noPlay hn
    have HI := Lib.hid (fun W => specPlayIn_yes m t W h2 h3 h4)
    clear h hn
    go_enter Try.func39, Try.ntmps39
    go_wp2_with (go_at_call 13; refine (HI.out _).mono ?_; rintro e w' ⟨rfl, rfl⟩)
    go_ret2
    exact ⟨_, rfl, (Below.refl _ _).alloc (Nat.le_refl _) _, nil_made W _ (Nat.le_refl _)⟩
theorem seeO_lt (n : Nat) (l : List Int) (h : ∀ i, i < n → atN l i < n) (i : Nat) (hi : i ≤ n) : seeO l i < 2 ^ n := by
  induction i with
  | zero => exact Nat.two_pow_pos n
  | succ i ih => exact or_pow_lt n _ _ (ih (by omega)) (h i hi)
theorem fitsO (x : Int) (h : -100000 ≤ x ∧ x ≤ 100000) : IntKind.i64.wrap x = x ∧ wrap64 x = x := ⟨IntWalk.i64_in _ ⟨by omega, by omega⟩, IntWalk.wrap64_in _ ⟨by omega, by omega⟩⟩
theorem step_fits (n x y : Nat) (h1 : 1 ≤ n) (h2 : n ≤ 12) (hx : x < n) (hy : y < n) : (IntKind.i64.wrap ((x : Int) - (y : Int)) = (x : Int) - (y : Int) ∧ wrap64 ((x : Int) - (y : Int)) = (x : Int) - (y : Int)) ∧ (IntKind.i64.wrap ((x : Int) - (y : Int) + (n : Int)) = (x : Int) - (y : Int) + (n : Int) ∧ wrap64 ((x : Int) - (y : Int) + (n : Int)) = (x : Int) - (y : Int) + (n : Int)) ∧ (Int.tmod ((x : Int) - (y : Int) + (n : Int)) (n : Int) = ((rest n ((x : Int) - (y : Int)) : Nat) : Int) ∧ ((x : Int) - (y : Int) + (n : Int)) % (n : Int) = ((rest n ((x : Int) - (y : Int)) : Nat) : Int)) := by
  have e : ((x : Int) - (y : Int) + (n : Int)) % (n : Int) = ((rest n ((x : Int) - (y : Int)) : Nat) : Int) := by
    rw [rest_cast n _ h1, Int.add_emod_right]
  refine ⟨fitsO _ ⟨by omega, by omega⟩, fitsO _ ⟨by omega, by omega⟩, ?_, e⟩
  rw [Int.tmod_eq_emod_of_nonneg (by omega)]
  exact e
end Go.Proofs.Ytaklmepioeoohaa
