/- The divisor of steps, and the places to which ways lead from 0: the program. -/
import Derived.Test.YthccchelemnnfaaStepB
import Derived.Test.YthccchelemnnfaaHeld
namespace Go.Proofs.Ythccchelemnnfaa
open Go.RowKit Go.Shelf
set_option linter.unusedVariables false
attribute [local go_sem] Oper.semAt_some
/-- Block B has two cells of type t, which hold u and v. -/
def Duo (W : World) (B : Nat) (t : TypeId) (u v : Value) : Prop := W.heap[B]? = some (.cells #[u, v] t (0, 0))
theorem Duo.lt {W : World} {B : Nat} {t : TypeId} {u v : Value} (h : Duo W B t u v) : B < W.heap.size := (Array.getElem?_eq_some_iff.1 h).1
theorem Duo.cell0 {W : World} {B : Nat} {t : TypeId} {u v : Value} (h : Duo W B t u v) : W.cell? ⟨B, 0, none⟩ = some u := by simp [World.cell?, show W.heap[B]? = _ from h]
theorem Duo.cell1 {W : World} {B : Nat} {t : TypeId} {u v : Value} (h : Duo W B t u v) : W.cell? ⟨B, 1, none⟩ = some v := by simp [World.cell?, show W.heap[B]? = _ from h]
theorem Duo.new (W : World) (t : TypeId) (u v : Value) : Duo (W.alloc (.cells #[u, v] t)) W.heap.size t u v := World.alloc_heap_new W _
theorem Duo.kept {W W' : World} {row : Option Nat} {B : Nat} {t : TypeId} {u v : Value} (h : Duo W B t u v) (hg : W.grownBy W' row) (hne : some B ≠ row) : Duo W' B t u v := (hg.block B h.lt hne).trans h
theorem Duo.alloc {W : World} {B : Nat} {t : TypeId} {u v : Value} (h : Duo W B t u v) (o : Obj) : Duo (W.alloc o) B t u v := h.kept (World.grownBy_alloc W o none) (by simp)
theorem Duo.other {W : World} {B B' : Nat} {t : TypeId} {u v : Value} (h : Duo W B t u v) (hne : B ≠ B') (x : Value) : Duo (W.setCell ⟨B', 0, none⟩ x) B t u v := h.kept (grownBy_setCell' W B' x) (fun e => hne (by cases e; rfl))
theorem duo_own {β : Type} (B : Nat) (t : TypeId) (f g : β → Value) : Own (fun s W => Duo W B t (f s) (g s)) := fun s X Y row hs hg hrow =>
  hs.kept hg (fun e' => by obtain ⟨o, ho, hc⟩ := hrow B e'.symm; rw [show X.heap[B]? = _ from hs] at ho; cases ho; cases hc)
theorem duo_below {W W' : World} {B : Nat} {t : TypeId} {u v : Value} (h : Duo W B t u v) {N : Nat} (hN : B < N) (hb : Below N W W') : Duo W' B t u v := (hb.block B hN).trans h
theorem Aside.duo {T : Nat} {W W' : World} (h : Aside T W W') {B : Nat} {t : TypeId} {u v : Value} (hB : Duo W B t u v) (hn : B ≠ T) : Duo W' B t u v := (h.block B hB.lt hn).trans hB
theorem partsS_lt (n v x : Nat) (h2 : n ≤ 12) (hv : v < n) (hx : x < 13) : partsS v x < 13 := by
  unfold partsS
  by_cases h : x = 0
  · subst h
    rw [Nat.gcd_zero_left]
    omega
  · have := Nat.le_of_dvd (by omega) (Nat.gcd_dvd_left x v)
    omega
/-- The multiples of g below n. -/
def multS (g j x : Nat) : Nat := x ||| 2 ^ (j * g)
def multN (n g : Nat) : Nat := upto (multS g) (n / g) 0
def partN (n s : Nat) : Nat := multN n (partsN n s)
theorem parts_dvd_n (n s j : Nat) : overSet s partsS j n ∣ n := by
  induction j with
  | zero => exact Nat.dvd_refl _
  | succ j ih =>
    rw [over_step]
    split
    · exact Nat.dvd_trans (Nat.gcd_dvd_left _ _) ih
    · exact ih
theorem mult_lt (n g q j : Nat) (hq : q * g = n) (hg : 1 ≤ g) (hj : j ≤ q) : upto (multS g) j 0 < 2 ^ n := by
  refine upto_lt (multS g) n j 0 (Nat.two_pow_pos n) (fun v x hv hx => ?_)
  refine or_pow_lt n x (v * g) hx ?_
  have : v * g < q * g := Nat.mul_lt_mul_of_pos_right (by omega) hg
  omega
end Go.Proofs.Ythccchelemnnfaa
