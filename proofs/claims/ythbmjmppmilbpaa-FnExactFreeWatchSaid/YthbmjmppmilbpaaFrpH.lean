/- Free sets, the program's side: the functions that others call, but for colours. Written by gen50.py. -/
import Derived.Test.YthbmjmppmilbpaaGI
import Derived.Test.YthbmjmppmilbpaaGJ
import Derived.Test.YthbmjmppmilbpaaDfpD
import Derived.Test.YthbmjmppmilbpaaFrpW
namespace Go.Proofs.Ythbmjmppmilbpaa
open Go.RowKit Go.Shelf
set_option linter.unusedVariables false
theorem setsR_any (n g : Nat) (b l : Array Value) (w : World) :
    Calls Try.prog 42 #[.agg #[.int .i64 (n:Int)], .func (.func g) b l] w fun e w' => ∃ R H, e = .returned (.func (.func 64) #[] #[.pointer (some ⟨R, 0, none⟩), .pointer (some ⟨H, 0, none⟩)]) ∧ Boxed w' R 34 (.int .i64 (n:Int)) ∧ Boxed w' H 46 (.func (.func g) b l) ∧ Below w.heap.size w w' := by
  refine (setsThat_any n g b l w).mono ?_
  rintro e w' ⟨rfl, rfl⟩
  have bR := (Boxed.new w 34 (.int .i64 (n:Int))).alloc (.cells #[.func (.func g) b l] 46)
  have bH := Boxed.new (w.alloc (.cells #[.int .i64 (n:Int)] 34)) 46 (.func (.func g) b l)
  rw [World.size_alloc] at bH
  exact ⟨_, _, rfl, bR, bH, ((Below.refl _ w).alloc (Nat.le_refl _) _).alloc (by simp) _⟩
theorem no_FreeWatch : NoFreeWatch := by
  intro n s W h
  have HO := Lib.hid (stepsOf_no n s W h)
  clear h
  go_enter Try.func29, Try.ntmps29
  go_wp2_with fail
  refine HO.out.mono ?_
  rintro e w1 ⟨rfl, hb1⟩
  go_wp2
  go_ret2
  exact ⟨rfl, by
    have := hb1.size
    first
    | exact hb1
    | exact hb1.alloc (by omega) _
    | exact (hb1.alloc (by omega) _).trans (hb2.mono (by simp; omega))
    | exact ((hb1.alloc (by omega) _).trans (hb2.mono (by simp; omega))).trans (hb3.mono (by have := hb2.size; simp at this; omega))
    | exact (((hb1.alloc (by omega) _).trans (hb2.mono (by simp; omega))).trans (hb3.mono (by have := hb2.size; simp at this; omega))).trans (hb4.mono (by have := hb2.size; have := hb3.size; simp at *; omega))⟩
theorem yes_FreeWatch : YesFreeWatch := by
  intro n s W h1 h2 hs h0
  have hp := pow_le n h2
  have HO := Lib.hid (stepsOf_yes n s W h1 h2 hs h0)
  have HE : Hid (lowN (wideN n s) 12 (2 ^ n) = watchF n s) := Lib.hid (watch_low n s h1 h2 hs)
  clear h0
  go_enter Try.func29, Try.ntmps29
  go_wp2_with fail
  refine HO.out.mono ?_
  rintro e w1 ⟨rfl, hb1⟩
  go_wp2_with (first
    | (go_at_call 42; refine (setsR_any _ _ _ _ _).mono ?_; rintro e w2 ⟨R, H, rfl, bR, bH, hb2⟩)
    | (go_at_call 44; refine (fewest_any R H (2 ^ n) (wideN n s) _ hp bR.lt bH.lt (stops_watches 8 (by omega) R H _ n s h1 h2 hs _ bR bH)).mono ?_; rintro e w3 ⟨rfl, hb3⟩))
  go_ret2
  exact ⟨by rw [HE.out]; rfl, by
    have := hb1.size
    first
    | exact hb1
    | exact hb1.alloc (by omega) _
    | exact (hb1.alloc (by omega) _).trans (hb2.mono (by simp; omega))
    | exact ((hb1.alloc (by omega) _).trans (hb2.mono (by simp; omega))).trans (hb3.mono (by have := hb2.size; simp at this; omega))
    | exact (((hb1.alloc (by omega) _).trans (hb2.mono (by simp; omega))).trans (hb3.mono (by have := hb2.size; simp at this; omega))).trans (hb4.mono (by have := hb2.size; have := hb3.size; simp at *; omega))⟩
end Go.Proofs.Ythbmjmppmilbpaa
