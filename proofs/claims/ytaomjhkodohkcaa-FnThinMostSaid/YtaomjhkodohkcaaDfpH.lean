/- Differences, the program's side: the functions that others call. Written by gen81.py. -/
import Derived.Test.YtaomjhkodohkcaaDifX
import Derived.Test.YtaomjhkodohkcaaDfpB
import Derived.Test.YtaomjhkodohkcaaDfpC
import Derived.Test.YtaomjhkodohkcaaDfpD
import Derived.Test.YtaomjhkodohkcaaDfpF
import Derived.Test.YtaomjhkodohkcaaDfpG
namespace Go.Proofs.Ytaomjhkodohkcaa
open Go.RowKit Go.Shelf
set_option linter.unusedVariables false
theorem setsQ_any (n g : Nat) (b l : Array Value) (w : World) :
    Calls Try.prog 56 #[.agg #[.int .i64 (n:Int)], .func (.func g) b l] w fun e w' => ∃ R H, e = .returned (.func (.func 78) #[] #[.pointer (some ⟨R, 0, none⟩), .pointer (some ⟨H, 0, none⟩)]) ∧ Boxed w' R 40 (.int .i64 (n:Int)) ∧ Boxed w' H 56 (.func (.func g) b l) ∧ Below w.heap.size w w' := by
  refine (setsThat_any n g b l w).mono ?_
  rintro e w' ⟨rfl, rfl⟩
  have bR := (Boxed.new w 40 (.int .i64 (n:Int))).alloc (.cells #[.func (.func g) b l] 56)
  have bH := Boxed.new (w.alloc (.cells #[.int .i64 (n:Int)] 40)) 56 (.func (.func g) b l)
  rw [World.size_alloc] at bH
  exact ⟨_, _, rfl, bR, bH, ((Below.refl _ w).alloc (Nat.le_refl _) _).alloc (by simp) _⟩
theorem no_DiffTable : NoDiffTable := by
  intro n s W h
  have HO := Lib.hid (of1_no n s W h)
  clear h
  go_enter Try.func12, Try.ntmps12
  go_wp2_with fail
  refine HO.out.mono ?_
  rintro e w1 ⟨rfl, hb1⟩
  go_wp2
  go_ret2
  exact nil_res ⟨rfl, by
    have := hb1.size
    first
    | exact hb1
    | exact hb1.alloc (by omega) _
    | exact (hb1.alloc (by omega) _).trans (hb2.mono (by simp; omega))
    | exact ((hb1.alloc (by omega) _).trans (hb2.mono (by simp; omega))).trans (hb3.mono (by have := hb2.size; simp at this; omega))⟩
theorem yes_DiffTable : YesDiffTable := by
  intro n s W h1 h2 hs
  have HO := Lib.hid (of1_yes n s W h1 h2 hs)
  have HS := Lib.hid (fun W => differences_any n s W h1 h2 hs)
  clear hs
  go_enter Try.func12, Try.ntmps12
  go_wp2_with fail
  refine HO.out.mono ?_
  rintro e w1 ⟨rfl, hb1⟩
  have z1 := hb1.size
  go_wp2_with fail
  refine (HS.out _).mono ?_
  rintro e w2 ⟨g, rfl, hb2, hI2⟩
  have HI2 := Lib.hid (hI2.base (b' := W.heap.size) (by simp; omega))
  have HB := Lib.hid (show Below W.heap.size W w2 from (hb1.alloc (by omega) _).trans (hb2.mono (by simp; omega)))
  clear hI2 hb2
  go_wp2
  go_ret2
  exact ⟨_, rfl, HB.out, HI2.out⟩
theorem no_DiffEven : NoDiffEven := by
  intro n s W h
  by_cases hn : NotIn n s
  · have HO := Lib.hid (of1_no n s W hn)
    clear h hn
    go_enter Try.func19, Try.ntmps19
    go_wp2_with fail
    refine HO.out.mono ?_
    rintro e w1 ⟨rfl, hb1⟩
    go_wp2
    go_ret2
    exact ⟨rfl, by
    have := hb1.size
    first
    | exact hb1
    | exact hb1.alloc (by omega) _
    | exact (hb1.alloc (by omega) _).trans (hb2.mono (by simp; omega))
    | exact ((hb1.alloc (by omega) _).trans (hb2.mono (by simp; omega))).trans (hb3.mono (by have := hb2.size; simp at this; omega))⟩
  · obtain ⟨m, t, rfl, rfl, h1, h2, h3⟩ := not_notIn hn
    have h4 : ((m : Nat) : Int) < 2 := by
      rcases h with h | h
      · exact absurd h hn
      · exact h
    obtain rfl : m = 1 := by omega
    have HO := Lib.hid (of1_yes 1 t W h1 h2 h3)
    have HS := Lib.hid (fun W => evenWays_any 1 t W h1 h2 h3)
    have e1 : evY 1 t = 0 := rfl
    have e2 : evQ 1 t = false := rfl
    rw [e1, e2] at HS
    clear e1 e2 h hn h3
    go_enter Try.func19, Try.ntmps19
    go_wp2_with fail
    refine HO.out.mono ?_
    rintro e w1 ⟨rfl, hb1⟩
    go_wp2_with (go_at_call 45; refine (HS.out _).mono ?_; rintro e w2 ⟨rfl, hb2⟩)
    go_ret2
    exact ⟨rfl, by
    have := hb1.size
    first
    | exact hb1
    | exact hb1.alloc (by omega) _
    | exact (hb1.alloc (by omega) _).trans (hb2.mono (by simp; omega))
    | exact ((hb1.alloc (by omega) _).trans (hb2.mono (by simp; omega))).trans (hb3.mono (by have := hb2.size; simp at this; omega))⟩
theorem any_DiffEven : AnyDiffEven := by
  intro n s W h1 h2 hs
  have HO := Lib.hid (of1_yes n s W (by omega) h2 hs)
  have HS := Lib.hid (fun W => evenWays_any n s W (by omega) h2 hs)
  rw [evY_evZ n s h1, evQ_even n s h1] at HS
  clear hs
  go_enter Try.func19, Try.ntmps19
  go_wp2_with fail
  refine HO.out.mono ?_
  rintro e w1 ⟨rfl, hb1⟩
  go_wp2_with (go_at_call 45; refine (HS.out _).mono ?_; rintro e w2 ⟨rfl, hb2⟩)
  go_ret2
  exact ⟨rfl, by
    have := hb1.size
    first
    | exact hb1
    | exact hb1.alloc (by omega) _
    | exact (hb1.alloc (by omega) _).trans (hb2.mono (by simp; omega))
    | exact ((hb1.alloc (by omega) _).trans (hb2.mono (by simp; omega))).trans (hb3.mono (by have := hb2.size; simp at this; omega))⟩
theorem no_DiffFind : NoDiffFind := by
  intro n k W h
  by_cases hn : 1 ≤ n ∧ n ≤ 12
  · obtain ⟨m, rfl⟩ : ∃ m : Nat, n = (m : Int) := ⟨n.toNat, by omega⟩
    have h1 : 1 ≤ m := by omega
    have h2 : m ≤ 12 := by omega
    have HO := Lib.hid (ringOf_nil m W h1 h2)
    by_cases hk : k < 1
    · clear h hn
      go_enter Try.func22, Try.ntmps22
      go_wp2_with fail
      refine HO.out.mono ?_
      rintro e w1 ⟨rfl, hb1⟩
      go_wp2
      go_ret2
      exact ⟨rfl, by
    have := hb1.size
    first
    | exact hb1
    | exact hb1.alloc (by omega) _
    | exact (hb1.alloc (by omega) _).trans (hb2.mono (by simp; omega))
    | exact ((hb1.alloc (by omega) _).trans (hb2.mono (by simp; omega))).trans (hb3.mono (by have := hb2.size; simp at this; omega))⟩
    · have hk2 : k ≥ (m : Int) := by omega
      have hk3 : (m : Int) ≤ k := by omega
      clear h hn
      go_enter Try.func22, Try.ntmps22
      go_wp2_with fail
      refine HO.out.mono ?_
      rintro e w1 ⟨rfl, hb1⟩
      go_wp2
      go_ret2
      exact ⟨rfl, by
    have := hb1.size
    first
    | exact hb1
    | exact hb1.alloc (by omega) _
    | exact (hb1.alloc (by omega) _).trans (hb2.mono (by simp; omega))
    | exact ((hb1.alloc (by omega) _).trans (hb2.mono (by simp; omega))).trans (hb3.mono (by have := hb2.size; simp at this; omega))⟩
  · have HO := Lib.hid (ringOf_out n (.slice none 0 0) W hn)
    clear h hn
    go_enter Try.func22, Try.ntmps22
    go_wp2_with fail
    refine HO.out.mono ?_
    rintro e w1 ⟨rfl, hb1⟩
    go_wp2
    go_ret2
    exact ⟨rfl, by
    have := hb1.size
    first
    | exact hb1
    | exact hb1.alloc (by omega) _
    | exact (hb1.alloc (by omega) _).trans (hb2.mono (by simp; omega))
    | exact ((hb1.alloc (by omega) _).trans (hb2.mono (by simp; omega))).trans (hb3.mono (by have := hb2.size; simp at this; omega))⟩
theorem any_DiffFind : AnyDiffFind := by
  intro n k W h1 h2 hk1 hk2
  have HO := Lib.hid (ringOf_nil n W (by omega) h2)
  have HS := Lib.hid (fun W => leastEven_any n k W h1 h2 hk1 hk2)
  have i1 : ¬ ((k : Int) < 1) := by omega
  have i2 : ¬ ((k : Int) ≥ (n : Int)) := by omega
  have i3 : ¬ ((n : Int) ≤ (k : Int)) := by omega
  have i4 : ¬ (n ≤ k) := by omega
  generalize findN n k = q at *
  obtain ⟨b, hb⟩ : ∃ b, decide (q ≠ 0) = b := ⟨_, rfl⟩
  rw [hb] at HS ⊢
  clear hb hk1 hk2
  go_enter Try.func22, Try.ntmps22
  go_wp2_with fail
  refine HO.out.mono ?_
  rintro e w1 ⟨rfl, hb1⟩
  go_wp2_with (go_at_call 49; refine (HS.out _).mono ?_; rintro e w2 ⟨rfl, hb2⟩)
  go_ret2
  exact ⟨rfl, by
    have := hb1.size
    first
    | exact hb1
    | exact hb1.alloc (by omega) _
    | exact (hb1.alloc (by omega) _).trans (hb2.mono (by simp; omega))
    | exact ((hb1.alloc (by omega) _).trans (hb2.mono (by simp; omega))).trans (hb3.mono (by have := hb2.size; simp at this; omega))⟩
theorem no_DiffThin : NoDiffThin := by
  intro n s W h
  have HO := Lib.hid (of1_no n s W h)
  clear h
  go_enter Try.func25, Try.ntmps25
  go_wp2_with fail
  refine HO.out.mono ?_
  rintro e w1 ⟨rfl, hb1⟩
  go_wp2
  go_ret
  exact ⟨rfl, by
    have := hb1.size
    first
    | exact hb1
    | exact hb1.alloc (by omega) _
    | exact (hb1.alloc (by omega) _).trans (hb2.mono (by simp; omega))
    | exact ((hb1.alloc (by omega) _).trans (hb2.mono (by simp; omega))).trans (hb3.mono (by have := hb2.size; simp at this; omega))⟩
theorem yes_DiffThin : YesDiffThin := by
  intro n s W h1 h2 hs
  have HO := Lib.hid (of1_yes n s W h1 h2 hs)
  have HS := Lib.hid (fun W => isThin_any n s W h1 h2 hs)
  clear hs
  go_enter Try.func25, Try.ntmps25
  go_wp2_with fail
  refine HO.out.mono ?_
  rintro e w1 ⟨rfl, hb1⟩
  go_wp2_with (go_at_call 52; refine (HS.out _).mono ?_; rintro e w2 ⟨rfl, hb2⟩)
  go_ret
  exact ⟨rfl, by
    have := hb1.size
    first
    | exact hb1
    | exact hb1.alloc (by omega) _
    | exact (hb1.alloc (by omega) _).trans (hb2.mono (by simp; omega))
    | exact ((hb1.alloc (by omega) _).trans (hb2.mono (by simp; omega))).trans (hb3.mono (by have := hb2.size; simp at this; omega))⟩
theorem no_DiffThinMost : NoDiffThinMost := by
  intro n W h
  have HO := Lib.hid (ringOf_out n (.slice none 0 0) W h)
  clear h
  go_enter Try.func28, Try.ntmps28
  go_wp2_with fail
  refine HO.out.mono ?_
  rintro e w1 ⟨rfl, hb1⟩
  go_wp2
  go_ret2
  exact ⟨rfl, by
    have := hb1.size
    first
    | exact hb1
    | exact hb1.alloc (by omega) _
    | exact (hb1.alloc (by omega) _).trans (hb2.mono (by simp; omega))
    | exact ((hb1.alloc (by omega) _).trans (hb2.mono (by simp; omega))).trans (hb3.mono (by have := hb2.size; simp at this; omega))⟩
theorem yes_DiffThinMost : YesDiffThinMost := by
  intro n W h1 h2
  have hp := pow_le n h2
  have HO := Lib.hid (ringOf_nil n W h1 h2)
  have HE : Hid (topN (thinB n) (2 ^ n) = thinM n) := Lib.hid (thin_top n h1 h2)
  go_enter Try.func28, Try.ntmps28
  go_wp2_with fail
  refine HO.out.mono ?_
  rintro e w1 ⟨rfl, hb1⟩
  go_wp2_with (first
    | (go_at_call 56; refine (setsQ_any _ _ _ _ _).mono ?_; rintro e w2 ⟨R, H, rfl, bR, bH, hb2⟩)
    | (go_at_call 55; refine (greatest_any R H (2 ^ n) (thinB n) _ hp bR.lt bH.lt (stops_isThin 8 (by omega) R H _ n h1 h2 _ bR bH)).mono ?_; rintro e w3 ⟨rfl, hb3⟩))
  go_ret2
  exact ⟨by rw [HE.out]; rfl, by
    have := hb1.size
    first
    | exact hb1
    | exact hb1.alloc (by omega) _
    | exact (hb1.alloc (by omega) _).trans (hb2.mono (by simp; omega))
    | exact ((hb1.alloc (by omega) _).trans (hb2.mono (by simp; omega))).trans (hb3.mono (by have := hb2.size; simp at this; omega))⟩
theorem no_DiffWhole : NoDiffWhole := by
  intro n W h
  have HO := Lib.hid (ringOf_out n (.slice none 0 0) W h)
  clear h
  go_enter Try.func31, Try.ntmps31
  go_wp2_with fail
  refine HO.out.mono ?_
  rintro e w1 ⟨rfl, hb1⟩
  go_wp2
  go_ret2
  exact ⟨rfl, by
    have := hb1.size
    first
    | exact hb1
    | exact hb1.alloc (by omega) _
    | exact (hb1.alloc (by omega) _).trans (hb2.mono (by simp; omega))
    | exact ((hb1.alloc (by omega) _).trans (hb2.mono (by simp; omega))).trans (hb3.mono (by have := hb2.size; simp at this; omega))⟩
theorem yes_DiffWhole : YesDiffWhole := by
  intro n W h1 h2
  have hp := pow_le n h2
  have HO := Lib.hid (ringOf_nil n W h1 h2)
  have HE : Hid (lowN (wholeP n) 12 (2 ^ n) = wholeM n) := Lib.hid (whole_low n h1 h2)
  go_enter Try.func31, Try.ntmps31
  go_wp2_with fail
  refine HO.out.mono ?_
  rintro e w1 ⟨rfl, hb1⟩
  go_wp2_with (first
    | (go_at_call 56; refine (setsQ_any _ _ _ _ _).mono ?_; rintro e w2 ⟨R, H, rfl, bR, bH, hb2⟩)
    | (go_at_call 57; refine (fewest_any R H (2 ^ n) (wholeP n) _ hp bR.lt bH.lt (stops_isWhole 8 (by omega) R H _ n h1 h2 _ bR bH)).mono ?_; rintro e w3 ⟨rfl, hb3⟩))
  go_ret2
  exact ⟨by rw [HE.out]; rfl, by
    have := hb1.size
    first
    | exact hb1
    | exact hb1.alloc (by omega) _
    | exact (hb1.alloc (by omega) _).trans (hb2.mono (by simp; omega))
    | exact ((hb1.alloc (by omega) _).trans (hb2.mono (by simp; omega))).trans (hb3.mono (by have := hb2.size; simp at this; omega))⟩
theorem no_DiffCarries : NoDiffCarries := by
  intro n s W h
  have HO := Lib.hid (of1_no n s W h)
  clear h
  go_enter Try.func35, Try.ntmps35
  go_wp2_with fail
  refine HO.out.mono ?_
  rintro e w1 ⟨rfl, hb1⟩
  go_wp2
  go_ret2
  exact ⟨rfl, by
    have := hb1.size
    first
    | exact hb1
    | exact hb1.alloc (by omega) _
    | exact (hb1.alloc (by omega) _).trans (hb2.mono (by simp; omega))
    | exact ((hb1.alloc (by omega) _).trans (hb2.mono (by simp; omega))).trans (hb3.mono (by have := hb2.size; simp at this; omega))⟩
theorem yes_DiffCarries : YesDiffCarries := by
  intro n s W h1 h2 hs
  have HO := Lib.hid (of1_yes n s W h1 h2 hs)
  have HS := Lib.hid (fun W => carriers_any n s W h1 h2 hs)
  clear hs
  go_enter Try.func35, Try.ntmps35
  go_wp2_with fail
  refine HO.out.mono ?_
  rintro e w1 ⟨rfl, hb1⟩
  go_wp2_with (go_at_call 60; refine (HS.out _).mono ?_; rintro e w2 ⟨rfl, hb2⟩)
  go_ret2
  exact ⟨rfl, by
    have := hb1.size
    first
    | exact hb1
    | exact hb1.alloc (by omega) _
    | exact (hb1.alloc (by omega) _).trans (hb2.mono (by simp; omega))
    | exact ((hb1.alloc (by omega) _).trans (hb2.mono (by simp; omega))).trans (hb3.mono (by have := hb2.size; simp at this; omega))⟩
end Go.Proofs.Ytaomjhkodohkcaa
