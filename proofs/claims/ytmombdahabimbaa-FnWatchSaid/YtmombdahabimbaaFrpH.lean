/- Free sets, the program's side: the functions that others call, but for colours. Written by gen50.py. -/
import Derived.Test.YtmombdahabimbaaGI
import Derived.Test.YtmombdahabimbaaGJ
import Derived.Test.YtmombdahabimbaaDfpD
import Derived.Test.YtmombdahabimbaaFrpW
namespace Go.Proofs.Ytmombdahabimbaa
open Go.RowKit Go.Shelf
set_option linter.unusedVariables false
theorem setsR_any (n g : Nat) (b l : Array Value) (w : World) :
    Calls Try.prog 20 #[.agg #[.int .i64 (n:Int)], .func (.func g) b l] w fun e w' => ∃ R H, e = .returned (.func (.func 38) #[] #[.pointer (some ⟨R, 0, none⟩), .pointer (some ⟨H, 0, none⟩)]) ∧ Boxed w' R 35 (.int .i64 (n:Int)) ∧ Boxed w' H 45 (.func (.func g) b l) ∧ Below w.heap.size w w' := by
  refine (setsThat_any n g b l w).mono ?_
  rintro e w' ⟨rfl, rfl⟩
  have bR := (Boxed.new w 35 (.int .i64 (n:Int))).alloc (.cells #[.func (.func g) b l] 45)
  have bH := Boxed.new (w.alloc (.cells #[.int .i64 (n:Int)] 35)) 45 (.func (.func g) b l)
  rw [World.size_alloc] at bH
  exact ⟨_, _, rfl, bR, bH, ((Below.refl _ w).alloc (Nat.le_refl _) _).alloc (by simp) _⟩
theorem no_FreeMost : NoFreeMost := by
  intro n s W h
  have HO := Lib.hid (stepsOf_no n s W h)
  clear h
  go_enter Try.func9, Try.ntmps9
  go_wp2_with fail
  refine HO.out.mono ?_
  rintro e w1 ⟨rfl, hb1⟩
  go_wp2
  go_ret2
  exact ⟨rfl, by
    have := hb1.size
    first
    | exact hb1
    | exact hb1.alloc (by omega) _
    | exact (hb1.alloc (by omega) _).trans (hb2.mono (by simp; omega))
    | exact ((hb1.alloc (by omega) _).trans (hb2.mono (by simp; omega))).trans (hb3.mono (by have := hb2.size; simp at this; omega))
    | exact (((hb1.alloc (by omega) _).trans (hb2.mono (by simp; omega))).trans (hb3.mono (by have := hb2.size; simp at this; omega))).trans (hb4.mono (by have := hb2.size; have := hb3.size; simp at *; omega))⟩
theorem yes_FreeMost : YesFreeMost := by
  intro n s W h1 h2 hs h0
  have hp := pow_le n h2
  have HO := Lib.hid (stepsOf_yes n s W h1 h2 hs h0)
  have HF := Lib.hid (fun W => free_any n s W h1 h2 hs)
  have HE : Hid (topN (fsetN n s) (2 ^ n) = mostF n s) := Lib.hid rfl
  clear h0
  go_enter Try.func9, Try.ntmps9
  go_wp2_with fail
  refine HO.out.mono ?_
  rintro e w1 ⟨rfl, hb1⟩
  go_wp2_with (first
    | (go_at_call 27; refine (HF.out _).mono ?_; rintro e w2 ⟨R, H, rfl, hR, hH, bR, bH, hb2⟩)
    | (go_at_call 26; refine (greatest_any R H (2 ^ n) (fsetN n s) _ hp bR.lt bH.lt (stops_isFree 8 (by omega) R H _ n s h1 h2 hs _ bR bH)).mono ?_; rintro e w3 ⟨rfl, hb3⟩))
  go_ret2
  exact ⟨by rw [HE.out]; rfl, by
    have := hb1.size
    first
    | exact hb1
    | exact hb1.alloc (by omega) _
    | exact (hb1.alloc (by omega) _).trans (hb2.mono (by simp; omega))
    | exact ((hb1.alloc (by omega) _).trans (hb2.mono (by simp; omega))).trans (hb3.mono (by have := hb2.size; simp at this; omega))
    | exact (((hb1.alloc (by omega) _).trans (hb2.mono (by simp; omega))).trans (hb3.mono (by have := hb2.size; simp at this; omega))).trans (hb4.mono (by have := hb2.size; have := hb3.size; simp at *; omega))⟩
theorem no_FreeWatch : NoFreeWatch := by
  intro n s W h
  have HO := Lib.hid (stepsOf_no n s W h)
  clear h
  go_enter Try.func6, Try.ntmps6
  go_wp2_with fail
  refine HO.out.mono ?_
  rintro e w1 ⟨rfl, hb1⟩
  go_wp2
  go_ret2
  exact ⟨rfl, by
    have := hb1.size
    first
    | exact hb1
    | exact hb1.alloc (by omega) _
    | exact (hb1.alloc (by omega) _).trans (hb2.mono (by simp; omega))
    | exact ((hb1.alloc (by omega) _).trans (hb2.mono (by simp; omega))).trans (hb3.mono (by have := hb2.size; simp at this; omega))
    | exact (((hb1.alloc (by omega) _).trans (hb2.mono (by simp; omega))).trans (hb3.mono (by have := hb2.size; simp at this; omega))).trans (hb4.mono (by have := hb2.size; have := hb3.size; simp at *; omega))⟩
theorem yes_FreeWatch : YesFreeWatch := by
  intro n s W h1 h2 hs h0
  have hp := pow_le n h2
  have HO := Lib.hid (stepsOf_yes n s W h1 h2 hs h0)
  have HE : Hid (lowN (wideN n s) 12 (2 ^ n) = watchF n s) := Lib.hid (watch_low n s h1 h2 hs)
  clear h0
  go_enter Try.func6, Try.ntmps6
  go_wp2_with fail
  refine HO.out.mono ?_
  rintro e w1 ⟨rfl, hb1⟩
  go_wp2_with (first
    | (go_at_call 20; refine (setsR_any _ _ _ _ _).mono ?_; rintro e w2 ⟨R, H, rfl, bR, bH, hb2⟩)
    | (go_at_call 19; refine (fewest_any R H (2 ^ n) (wideN n s) _ hp bR.lt bH.lt (stops_watches 8 (by omega) R H _ n s h1 h2 hs _ bR bH)).mono ?_; rintro e w3 ⟨rfl, hb3⟩))
  go_ret2
  exact ⟨by rw [HE.out]; rfl, by
    have := hb1.size
    first
    | exact hb1
    | exact hb1.alloc (by omega) _
    | exact (hb1.alloc (by omega) _).trans (hb2.mono (by simp; omega))
    | exact ((hb1.alloc (by omega) _).trans (hb2.mono (by simp; omega))).trans (hb3.mono (by have := hb2.size; simp at this; omega))
    | exact (((hb1.alloc (by omega) _).trans (hb2.mono (by simp; omega))).trans (hb3.mono (by have := hb2.size; simp at this; omega))).trans (hb4.mono (by have := hb2.size; have := hb3.size; simp at *; omega))⟩
theorem no_FreeNeat : NoFreeNeat := by
  intro n s W h
  have HO := Lib.hid (stepsOf_no n s W h)
  clear h
  go_enter Try.func12, Try.ntmps12
  go_wp2_with fail
  refine HO.out.mono ?_
  rintro e w1 ⟨rfl, hb1⟩
  go_wp2
  go_ret2
  exact nil_res ⟨rfl, by
    have := hb1.size
    first
    | exact hb1
    | exact hb1.alloc (by omega) _
    | exact (hb1.alloc (by omega) _).trans (hb2.mono (by simp; omega))
    | exact ((hb1.alloc (by omega) _).trans (hb2.mono (by simp; omega))).trans (hb3.mono (by have := hb2.size; simp at this; omega))
    | exact (((hb1.alloc (by omega) _).trans (hb2.mono (by simp; omega))).trans (hb3.mono (by have := hb2.size; simp at this; omega))).trans (hb4.mono (by have := hb2.size; have := hb3.size; simp at *; omega))⟩
theorem yes_FreeNeat : YesFreeNeat := by
  intro n s W h1 h2 hs h0
  have hp := pow_le n h2
  have HO := Lib.hid (stepsOf_yes n s W h1 h2 hs h0)
  have HF := Lib.hid (fun W => neat_any n s W h1 h2 hs)
  clear h0
  go_enter Try.func12, Try.ntmps12
  go_wp2_with fail
  refine HO.out.mono ?_
  rintro e w1 ⟨rfl, hb1⟩
  go_wp2_with (first
    | (go_at_call 31; refine (HF.out _).mono ?_; rintro e w2 ⟨sv, rfl, hb2, hI2⟩))
  go_ret2
  have hz1 := hb1.size
  exact ⟨_, rfl, (hb1.alloc (by omega) _).trans (hb2.mono (by simp; omega)), IsInts.base hI2 (by simp; omega)⟩
end Go.Proofs.Ytmombdahabimbaa
