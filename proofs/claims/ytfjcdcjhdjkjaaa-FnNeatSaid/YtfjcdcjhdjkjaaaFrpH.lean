/- Free sets, the program's side: the functions that others call, but for colours. Written by gen50.py. -/
import Derived.Test.YtfjcdcjhdjkjaaaGI
import Derived.Test.YtfjcdcjhdjkjaaaGJ
namespace Go.Proofs.Ytfjcdcjhdjkjaaa
open Go.RowKit Go.Shelf
set_option linter.unusedVariables false
theorem setsR_any (n g : Nat) (b l : Array Value) (w : World) :
    Calls Try.prog 71 #[.agg #[.int .i64 (n:Int)], .func (.func g) b l] w fun e w' => ∃ R H, e = .returned (.func (.func 88) #[] #[.pointer (some ⟨R, 0, none⟩), .pointer (some ⟨H, 0, none⟩)]) ∧ Boxed w' R 40 (.int .i64 (n:Int)) ∧ Boxed w' H 70 (.func (.func g) b l) ∧ Below w.heap.size w w' := by
  refine (setsThat_any n g b l w).mono ?_
  rintro e w' ⟨rfl, rfl⟩
  have bR := (Boxed.new w 40 (.int .i64 (n:Int))).alloc (.cells #[.func (.func g) b l] 70)
  have bH := Boxed.new (w.alloc (.cells #[.int .i64 (n:Int)] 40)) 70 (.func (.func g) b l)
  rw [World.size_alloc] at bH
  exact ⟨_, _, rfl, bR, bH, ((Below.refl _ w).alloc (Nat.le_refl _) _).alloc (by simp) _⟩
theorem no_FreeMost : NoFreeMost := by
  intro n s W h
  have HO := Lib.hid (stepsOf_no n s W h)
  clear h
  go_enter Try.func12, Try.ntmps12
  go_wp2_with fail
  refine HO.out.mono ?_
  rintro e w1 ⟨rfl, hb1⟩
  go_wp2
  go_ret2
  exact ⟨rfl, by
    have := hb1.size
    first
    | exact hb1
    | exact hb1.alloc (by omega) _
    | exact (hb1.alloc (by omega) _).trans (hb2.mono (by simp; omega))
    | exact ((hb1.alloc (by omega) _).trans (hb2.mono (by simp; omega))).trans (hb3.mono (by have := hb2.size; simp at this; omega))
    | exact (((hb1.alloc (by omega) _).trans (hb2.mono (by simp; omega))).trans (hb3.mono (by have := hb2.size; simp at this; omega))).trans (hb4.mono (by have := hb2.size; have := hb3.size; simp at *; omega))⟩
theorem yes_FreeMost : YesFreeMost := by
  intro n s W h1 h2 hs h0
  have hp := pow_le n h2
  have HO := Lib.hid (stepsOf_yes n s W h1 h2 hs h0)
  have HF := Lib.hid (fun W => free_any n s W h1 h2 hs)
  have HE : Hid (topN (fsetN n s) (2 ^ n) = mostF n s) := Lib.hid rfl
  clear h0
  go_enter Try.func12, Try.ntmps12
  go_wp2_with fail
  refine HO.out.mono ?_
  rintro e w1 ⟨rfl, hb1⟩
  go_wp2_with (first
    | (go_at_call 45; refine (HF.out _).mono ?_; rintro e w2 ⟨R, H, rfl, hR, hH, bR, bH, hb2⟩)
    | (go_at_call 44; refine (greatest_any R H (2 ^ n) (fsetN n s) _ hp bR.lt bH.lt (stops_isFree 8 (by omega) R H _ n s h1 h2 hs _ bR bH)).mono ?_; rintro e w3 ⟨rfl, hb3⟩))
  go_ret2
  exact ⟨by rw [HE.out]; rfl, by
    have := hb1.size
    first
    | exact hb1
    | exact hb1.alloc (by omega) _
    | exact (hb1.alloc (by omega) _).trans (hb2.mono (by simp; omega))
    | exact ((hb1.alloc (by omega) _).trans (hb2.mono (by simp; omega))).trans (hb3.mono (by have := hb2.size; simp at this; omega))
    | exact (((hb1.alloc (by omega) _).trans (hb2.mono (by simp; omega))).trans (hb3.mono (by have := hb2.size; simp at this; omega))).trans (hb4.mono (by have := hb2.size; have := hb3.size; simp at *; omega))⟩
theorem no_FreeMany : NoFreeMany := by
  intro n s W h
  have HO := Lib.hid (stepsOf_no n s W h)
  clear h
  go_enter Try.func17, Try.ntmps17
  go_wp2_with fail
  refine HO.out.mono ?_
  rintro e w1 ⟨rfl, hb1⟩
  go_wp2
  go_ret2
  exact ⟨rfl, by
    have := hb1.size
    first
    | exact hb1
    | exact hb1.alloc (by omega) _
    | exact (hb1.alloc (by omega) _).trans (hb2.mono (by simp; omega))
    | exact ((hb1.alloc (by omega) _).trans (hb2.mono (by simp; omega))).trans (hb3.mono (by have := hb2.size; simp at this; omega))
    | exact (((hb1.alloc (by omega) _).trans (hb2.mono (by simp; omega))).trans (hb3.mono (by have := hb2.size; simp at this; omega))).trans (hb4.mono (by have := hb2.size; have := hb3.size; simp at *; omega))⟩
theorem yes_FreeMany : YesFreeMany := by
  intro n s W h1 h2 hs h0
  have hp := pow_le n h2
  have HO := Lib.hid (stepsOf_yes n s W h1 h2 hs h0)
  have HF := Lib.hid (fun W => freeMany_any n s W h1 h2 hs)
  clear h0
  go_enter Try.func17, Try.ntmps17
  go_wp2_with fail
  refine HO.out.mono ?_
  rintro e w1 ⟨rfl, hb1⟩
  go_wp2_with (first
    | (go_at_call 50; refine (HF.out _).mono ?_; rintro e w2 ⟨rfl, hb2⟩))
  go_ret2
  exact ⟨rfl, by
    have := hb1.size
    first
    | exact hb1
    | exact hb1.alloc (by omega) _
    | exact (hb1.alloc (by omega) _).trans (hb2.mono (by simp; omega))
    | exact ((hb1.alloc (by omega) _).trans (hb2.mono (by simp; omega))).trans (hb3.mono (by have := hb2.size; simp at this; omega))
    | exact (((hb1.alloc (by omega) _).trans (hb2.mono (by simp; omega))).trans (hb3.mono (by have := hb2.size; simp at this; omega))).trans (hb4.mono (by have := hb2.size; have := hb3.size; simp at *; omega))⟩
theorem no_FreeFull : NoFreeFull := by
  intro n s W h
  have HO := Lib.hid (stepsOf_no n s W h)
  clear h
  go_enter Try.func15, Try.ntmps15
  go_wp2_with fail
  refine HO.out.mono ?_
  rintro e w1 ⟨rfl, hb1⟩
  go_wp2
  go_ret2
  exact ⟨rfl, by
    have := hb1.size
    first
    | exact hb1
    | exact hb1.alloc (by omega) _
    | exact (hb1.alloc (by omega) _).trans (hb2.mono (by simp; omega))
    | exact ((hb1.alloc (by omega) _).trans (hb2.mono (by simp; omega))).trans (hb3.mono (by have := hb2.size; simp at this; omega))
    | exact (((hb1.alloc (by omega) _).trans (hb2.mono (by simp; omega))).trans (hb3.mono (by have := hb2.size; simp at this; omega))).trans (hb4.mono (by have := hb2.size; have := hb3.size; simp at *; omega))⟩
theorem yes_FreeFull : YesFreeFull := by
  intro n s W h1 h2 hs h0
  have hp := pow_le n h2
  have HO := Lib.hid (stepsOf_yes n s W h1 h2 hs h0)
  have hq := otherN_lt n (bothN n s)
  have HA := Lib.hid (fun W => apart_any n s W h1 h2 hs)
  have HE : Hid (topN (fsetN n (otherN n (bothN n s))) (2 ^ n) = fullF n s) := Lib.hid rfl
  generalize otherN n (bothN n s) = q at *
  have HF := Lib.hid (fun W => free_any n q W h1 h2 hq)
  clear h0
  go_enter Try.func15, Try.ntmps15
  go_wp2_with fail
  refine HO.out.mono ?_
  rintro e w1 ⟨rfl, hb1⟩
  go_wp2_with (first
    | (go_at_call 49; refine (HA.out _).mono ?_; rintro e w2 ⟨rfl, hb2⟩)
    | (go_at_call 45; refine (HF.out _).mono ?_; rintro e w3 ⟨R, H, rfl, hR, hH, bR, bH, hb3⟩)
    | (go_at_call 44; refine (greatest_any R H (2 ^ n) (fsetN n q) _ hp bR.lt bH.lt (stops_isFree 8 (by omega) R H _ n q h1 h2 hq _ bR bH)).mono ?_; rintro e w4 ⟨rfl, hb4⟩))
  go_ret2
  exact ⟨by rw [HE.out]; rfl, by
    have := hb1.size
    first
    | exact hb1
    | exact hb1.alloc (by omega) _
    | exact (hb1.alloc (by omega) _).trans (hb2.mono (by simp; omega))
    | exact ((hb1.alloc (by omega) _).trans (hb2.mono (by simp; omega))).trans (hb3.mono (by have := hb2.size; simp at this; omega))
    | exact (((hb1.alloc (by omega) _).trans (hb2.mono (by simp; omega))).trans (hb3.mono (by have := hb2.size; simp at this; omega))).trans (hb4.mono (by have := hb2.size; have := hb3.size; simp at *; omega))⟩
theorem no_FreeWatch : NoFreeWatch := by
  intro n s W h
  have HO := Lib.hid (stepsOf_no n s W h)
  clear h
  go_enter Try.func31, Try.ntmps31
  go_wp2_with fail
  refine HO.out.mono ?_
  rintro e w1 ⟨rfl, hb1⟩
  go_wp2
  go_ret2
  exact ⟨rfl, by
    have := hb1.size
    first
    | exact hb1
    | exact hb1.alloc (by omega) _
    | exact (hb1.alloc (by omega) _).trans (hb2.mono (by simp; omega))
    | exact ((hb1.alloc (by omega) _).trans (hb2.mono (by simp; omega))).trans (hb3.mono (by have := hb2.size; simp at this; omega))
    | exact (((hb1.alloc (by omega) _).trans (hb2.mono (by simp; omega))).trans (hb3.mono (by have := hb2.size; simp at this; omega))).trans (hb4.mono (by have := hb2.size; have := hb3.size; simp at *; omega))⟩
theorem yes_FreeWatch : YesFreeWatch := by
  intro n s W h1 h2 hs h0
  have hp := pow_le n h2
  have HO := Lib.hid (stepsOf_yes n s W h1 h2 hs h0)
  have HF := Lib.hid (fun W => leastWatch_any n s W h1 h2 hs)
  clear h0
  go_enter Try.func31, Try.ntmps31
  go_wp2_with fail
  refine HO.out.mono ?_
  rintro e w1 ⟨rfl, hb1⟩
  go_wp2_with (first
    | (go_at_call 63; refine (HF.out _).mono ?_; rintro e w2 ⟨rfl, hb2⟩))
  go_ret2
  exact ⟨rfl, by
    have := hb1.size
    first
    | exact hb1
    | exact hb1.alloc (by omega) _
    | exact (hb1.alloc (by omega) _).trans (hb2.mono (by simp; omega))
    | exact ((hb1.alloc (by omega) _).trans (hb2.mono (by simp; omega))).trans (hb3.mono (by have := hb2.size; simp at this; omega))
    | exact (((hb1.alloc (by omega) _).trans (hb2.mono (by simp; omega))).trans (hb3.mono (by have := hb2.size; simp at this; omega))).trans (hb4.mono (by have := hb2.size; have := hb3.size; simp at *; omega))⟩
theorem no_FreeNeat : NoFreeNeat := by
  intro n s W h
  have HO := Lib.hid (stepsOf_no n s W h)
  clear h
  go_enter Try.func34, Try.ntmps34
  go_wp2_with fail
  refine HO.out.mono ?_
  rintro e w1 ⟨rfl, hb1⟩
  go_wp2
  go_ret2
  exact nil_res ⟨rfl, by
    have := hb1.size
    first
    | exact hb1
    | exact hb1.alloc (by omega) _
    | exact (hb1.alloc (by omega) _).trans (hb2.mono (by simp; omega))
    | exact ((hb1.alloc (by omega) _).trans (hb2.mono (by simp; omega))).trans (hb3.mono (by have := hb2.size; simp at this; omega))
    | exact (((hb1.alloc (by omega) _).trans (hb2.mono (by simp; omega))).trans (hb3.mono (by have := hb2.size; simp at this; omega))).trans (hb4.mono (by have := hb2.size; have := hb3.size; simp at *; omega))⟩
theorem yes_FreeNeat : YesFreeNeat := by
  intro n s W h1 h2 hs h0
  have hp := pow_le n h2
  have HO := Lib.hid (stepsOf_yes n s W h1 h2 hs h0)
  have HF := Lib.hid (fun W => neat_any n s W h1 h2 hs)
  clear h0
  go_enter Try.func34, Try.ntmps34
  go_wp2_with fail
  refine HO.out.mono ?_
  rintro e w1 ⟨rfl, hb1⟩
  go_wp2_with (first
    | (go_at_call 66; refine (HF.out _).mono ?_; rintro e w2 ⟨sv, rfl, hb2, hI2⟩))
  go_ret2
  have hz1 := hb1.size
  exact ⟨_, rfl, (hb1.alloc (by omega) _).trans (hb2.mono (by simp; omega)), IsInts.base hI2 (by simp; omega)⟩
theorem no_FreeSumless : NoFreeSumless := by
  intro n W h
  have HO := Lib.hid (ringOf_out n (.slice none 0 0) W h)
  clear h
  go_enter Try.func40, Try.ntmps40
  go_wp2_with fail
  refine HO.out.mono ?_
  rintro e w1 ⟨rfl, hb1⟩
  go_wp2
  go_ret2
  exact ⟨rfl, by
    have := hb1.size
    first
    | exact hb1
    | exact hb1.alloc (by omega) _
    | exact (hb1.alloc (by omega) _).trans (hb2.mono (by simp; omega))
    | exact ((hb1.alloc (by omega) _).trans (hb2.mono (by simp; omega))).trans (hb3.mono (by have := hb2.size; simp at this; omega))
    | exact (((hb1.alloc (by omega) _).trans (hb2.mono (by simp; omega))).trans (hb3.mono (by have := hb2.size; simp at this; omega))).trans (hb4.mono (by have := hb2.size; have := hb3.size; simp at *; omega))⟩
theorem yes_FreeSumless : YesFreeSumless := by
  intro n W h1 h2
  have hp := pow_le n h2
  have HO := Lib.hid (ringOf_nil n W h1 h2)
  have HE : Hid (topN (sumlN n) (2 ^ n) = sumlF n) := Lib.hid rfl
  go_enter Try.func40, Try.ntmps40
  go_wp2_with fail
  refine HO.out.mono ?_
  rintro e w1 ⟨rfl, hb1⟩
  go_wp2_with (first
    | (go_at_call 71; refine (setsR_any _ _ _ _ _).mono ?_; rintro e w2 ⟨R, H, rfl, bR, bH, hb2⟩)
    | (go_at_call 44; refine (greatest_any R H (2 ^ n) (sumlN n) _ hp bR.lt bH.lt (stops_isSumless 8 (by omega) R H _ n h1 h2 _ bR bH)).mono ?_; rintro e w3 ⟨rfl, hb3⟩))
  go_ret2
  exact ⟨by rw [HE.out]; rfl, by
    have := hb1.size
    first
    | exact hb1
    | exact hb1.alloc (by omega) _
    | exact (hb1.alloc (by omega) _).trans (hb2.mono (by simp; omega))
    | exact ((hb1.alloc (by omega) _).trans (hb2.mono (by simp; omega))).trans (hb3.mono (by have := hb2.size; simp at this; omega))
    | exact (((hb1.alloc (by omega) _).trans (hb2.mono (by simp; omega))).trans (hb3.mono (by have := hb2.size; simp at this; omega))).trans (hb4.mono (by have := hb2.size; have := hb3.size; simp at *; omega))⟩
end Go.Proofs.Ytfjcdcjhdjkjaaa
