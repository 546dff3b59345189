/- The exact law of PlayOrder over given contracts, the model's among them. Written by gen73.py. -/
import Derived.Test.YtpkjpigpebhknaaPlyP
namespace Go.Proofs.Ytpkjpigpebhknaa
open Go.RowKit Go.Shelf
set_option linter.unusedVariables false
theorem lawL_PlayOrder (nI sI : Int) (xs : List Int) (b : Bool) (w : World) (hl : xs.length ≤ 10000) (hS : ∀ W, Calls Try.prog 25 #[.int .i64 nI, .int .i64 sI] W (ListRes W xs b)) (hI : ∀ W, Calls Try.prog 26 #[.int .i64 nI, .int .i64 sI] W (ListRes W xs b)) :
    Calls Try.prog 9 #[.int .i64 nI, .int .i64 sI] w fun e w' => e = .returned (.bool true) ∧ Below w.heap.size w w' := by
  have HS := Lib.hid hS
  have HI := Lib.hid hI
  clear hS hI
  cases b
  all_goals
    go_enter Try.func9, Try.ntmps9
    go_wp2_with fail
    refine (HS.out _).mono ?_
    rintro e w1 ⟨sv, rfl, hb1, hI1⟩
    have z1 := hb1.size
    have HI1 := Lib.hid hI1
    clear hI1
    go_wp2_with fail
    refine (HI.out _).mono ?_
    rintro e w2 ⟨sa, rfl, hb2, hI2⟩
    have z2 := hb2.size
    have HI2 := Lib.hid hI2
    clear hI2
    go_wp2_with fail
    refine (eqInts_any _ _ xs _ _ _ HI2.out (HI1.out.belowAll hb2)).mono ?_
    rintro e w3 ⟨rfl, hb3⟩
    have z3 := hb3.size
    go_wp2_with fail
    refine (markInts_any _ xs _ w1.heap.size _ (HI2.out.belowAll hb3) (by omega) (by omega) (by omega)).mono ?_
    rintro e w4 ⟨rfl, hI4, hg4⟩
    have hb4 : Below w1.heap.size w3 w4 := Below.grown (Below.refl _ w3) hg4 (by omega) (fun k e => (World.ownsRow.lt HI2.out k e).1)
    have HI4 := Lib.hid hI4
    have HO4 : Hid (IsInts w4 w.heap.size sv xs) :=
      Lib.hid (((HI1.out.belowAll hb2).belowAll hb3).below (N := w1.heap.size) (fun q hq => (World.ownsRow.lt HI1.out q hq).2) hb4)
    have z4 := hb4.size
    clear hI4 hg4
    go_wp2_with fail
    refine (heldInts_any _ xs.length _ w1.heap.size _ HI4.out (by omega) (by omega) (by omega)).mono ?_
    rintro e w5 ⟨rfl, rfl⟩
    go_wp2_with fail
    refine (HI.out _).mono ?_
    rintro e w6 ⟨sb, rfl, hb6, hI6⟩
    have z6 := hb6.size
    have HI6 := Lib.hid hI6
    clear hI6
    go_wp2_with fail
    refine (eqInts_any _ _ xs _ _ _ HI6.out (HO4.out.belowAll hb6)).mono ?_
    rintro e w7 ⟨rfl, hb7⟩
    have z7 := hb7.size
    go_wp2_with fail
    refine (heldInts_any _ xs.length _ w1.heap.size _ ((HI4.out.belowAll hb6).belowAll hb7) (by omega) (by omega) (by omega)).mono ?_
    rintro e w8 ⟨rfl, rfl⟩
    go_wp2
    go_ret
    exact ⟨rfl, ((((hb1.trans (hb2.mono z1)).trans (hb3.mono (by omega))).trans (hb4.mono z1)).trans (hb6.mono (by omega))).trans (hb7.mono (by omega))⟩
theorem lawE_PlayOrder (n s : Int) (w : World) (hN : NoPlayOrder) (hY : YesPlayOrder) (hSY : YesSpecOrder) :
    Calls Try.prog 9 #[.int .i64 n, .int .i64 s] w fun e w' => e = .returned (.bool true) ∧ Below w.heap.size w w' := by
  by_cases h : NoPlay n s ∨ 9 < n
  · exact lawL_PlayOrder n s [] false w (by simp) (fun W => specPlayOrder_no n s W h) (fun W => hN n s W h)
  · obtain ⟨m, t, rfl, rfl, h1, h2, h3, h4⟩ := not_noPlay (fun c => h (.inl c))
    have h9 : m ≤ 9 := by have : ¬ 9 < (m : Int) := fun c => h (.inr c); omega
    refine lawL_PlayOrder m t (ordL m t) true w ?_ (fun W => hSY m t W h9 h3 h4) (fun W => hY m t W h9 h3 h4)
    rw [(ord_says m t h9 h3 h4).2.1]
    omega
end Go.Proofs.Ytpkjpigpebhknaa
