/- bits.TrailingZeros at small numbers, by its table. -/
import Derived.Test.YtecjhkpldcmlaaaDoorTrwA
import Derived.Lib.LaidTab
namespace Go.Proofs.YtecjhkpldcmlaaaDoor
open Go.RowKit Go.Shelf
set_option linter.unusedVariables false
attribute [local go_sem] Oper.semAt_some
def debA : List Int := [0, 1, 28, 2, 29, 14, 24, 3, 30, 22, 20, 15, 25, 17, 4, 8, 31, 27, 13, 23, 21, 19, 16, 7, 26, 12, 18, 6, 11, 5, 10, 9]
def debL : List Int := [0, 1, 56, 2, 57, 49, 28, 3, 61, 58, 42, 50, 38, 29, 17, 4, 62, 47, 59, 36, 45, 43, 51, 22, 53, 39, 33, 30, 24, 18, 12, 5, 63, 55, 48, 27, 60, 41, 37, 16, 46, 35, 44, 21, 52, 32, 23, 11, 54, 26, 40, 15, 34, 20, 31, 10, 25, 14, 19, 9, 13, 8, 7, 6]
/-- The table is there. -/
def TabVar (W : World) : Prop := Lib.TabIs Tryd.prog W "math/bits.deBruijn64tab" .u8 debL
theorem deb_glob : Tryd.prog.globalNamed "math/bits.deBruijn64tab" = some 3 := by kernel_rfl
theorem TabVar.cell {W : World} (h : TabVar W) (i : Nat) (hi : i < 64) : W.cell? ⟨3, i, none⟩ = some (.int .u8 (debL.getD i 0)) := Lib.TabIs.cell h deb_glob i hi
def tzA (x : Nat) : Int := bits .and .u64 (x : Int) (IntKind.u64.wrap (-(x : Int)))
def tzB (x : Nat) : Int := IntKind.u64.wrap (tzA x * 285870213051353865)
def tzI (x : Nat) : Nat := (tzB x / 288230376151711744).toNat
def tzWalk (x : Nat) : Bool := x == 0 || (decide (0 ≤ tzB x) && decide (tzI x < 64) && decide (debL.getD (tzI x) 0 = (tzN x : Int)) && decide (0 ≤ tzB x / 288230376151711744))
theorem tz_walk_all : ((List.range 4096).all tzWalk) = true := by decide +kernel
theorem tz_walk (x : Nat) (h : x < 4096) (h0 : x ≠ 0) : ∃ (c a b : Int) (i : Nat), IntKind.u64.wrap (-(x : Int)) = c ∧ bits .and .u64 (x : Int) c = a ∧ IntKind.u64.wrap (a * 285870213051353865) = b ∧ b / 288230376151711744 = (i : Int) ∧ i < 64 ∧ debL.getD i 0 = (tzN x : Int) := by
  have h1 := List.all_eq_true.1 tz_walk_all x (List.mem_range.2 h)
  unfold tzWalk at h1
  rw [Bool.or_eq_true, beq_iff_eq] at h1
  have h2 := h1.resolve_left h0
  simp only [Bool.and_eq_true, decide_eq_true_eq] at h2
  obtain ⟨⟨⟨_, h4⟩, h5⟩, h6⟩ := h2
  exact ⟨_, _, _, tzI x, rfl, rfl, rfl, (Int.toNat_of_nonneg h6).symm, h4, h5⟩
theorem oneZ (v : Nat) (h : v < 4096) : IntKind.i64.wrap (v : Int) = (v : Int) ∧ wrap64 (v : Int) = (v : Int) := ⟨IntWalk.i64_in _ ⟨by omega, by omega⟩, IntWalk.wrap64_in _ ⟨by omega, by omega⟩⟩
theorem tz64_any (x : Nat) (h : x < 4096) (h0 : x ≠ 0) (w : World) (hT : TabVar w) : Calls Tryd.prog 90 #[.int .u64 (x : Int)] w fun e w' => e = .returned (.int .i64 ((tzN x : Nat) : Int)) ∧ w = w' := by
  obtain ⟨c, a, b, i, e1, e2, e3, e4, hi, e5⟩ := tz_walk x h h0
  have hc := hT.cell i hi
  rw [e5] at hc
  have hv := (tz_facts x h h0).1
  have hx0 : ((x : Int) == 0) = false := by rw [beq_eq_false_iff_ne]; omega
  have q0 : (0 : Int) ≤ (i : Int) := by omega
  have q1 : (i : Int) < 64 := by omega
  have hw := (oneZ (tzN x) (by omega))
  clear hT h h0 e5 hv
  generalize tzN x = v at *
  go_enter Tryd.func90, Tryd.ntmps90
  go_wp2
  go_ret
  exact ⟨rfl, rfl⟩
end Go.Proofs.YtecjhkpldcmlaaaDoor
