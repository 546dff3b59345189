/- The model's PlayOrder. -/
import Derived.Test.YtaklmepioeoohaaPlyK
namespace Go.Proofs.Ytaklmepioeoohaa
open Go.RowKit Go.Shelf
set_option linter.unusedVariables false
theorem l8Order_any (m n s met b g cap : Nat) (a : Option Nat) (xs : List Int) (w : World) (h1 : 3 ≤ n) (h2 : n ≤ 9) (hs : s < 2 ^ n) (hl : xs.length + m = n)
    (ha : (a = none ∧ xs = []) ∨ ∃ u, a = some u ∧ u < n ∧ 1 ≤ xs.length ∧ xs.getD (xs.length - 1) 0 = (u : Int)) (hmt : met < 2 ^ n)
    (hI : IsInts w b (.slice (some ⟨g, 0, none⟩) xs.length cap) xs) (hb : b ≤ w.heap.size) :
    Calls Try.prog 70 #[.int .i64 (n:Int), .int .i64 (s:Int), .slice (some ⟨g, 0, none⟩) xs.length cap, .int .i64 (met:Int)] w (OrdPost n s m a met b xs w) := by
  induction m generalizing met b g cap a xs w with
  | zero => exact l8Order_zero n s met b g cap a xs w hl hI
  | succ m ih =>
    refine l8Order_succ m n s met b g cap a xs w h1 h2 hs hl ha hmt hI hb fun v met' b' g' cap' W hv hm' hI' hb' => ?_
    refine ih met' b' g' cap' (some v) (xs ++ [(v : Int)]) W ?_ (.inr ⟨v, rfl, hv, ?_, ?_⟩) hm' hI' hb'
    · rw [List.length_append]; simp; omega
    · rw [List.length_append]; simp
    · rw [List.length_append, List.length_singleton, Nat.add_sub_cancel]
      exact getD_end xs (v : Int)
theorem specPlayOrder_yes : YesSpecOrder := by
  intro n s w h9 hs hp
  have h3 := ((play_iff n s).1 hp).1
  have HI := Lib.hid (fun W => specPlayIn_yes n s W (by omega) hs hp)
  have e := (ord_says n s h9 hs hp).1
  have hO := l8Order_any n n s 0 w.heap.size w.heap.size 0 none [] (w.alloc (.cells #[] 3)) h3 h9 hs (by simp) (.inl ⟨rfl, rfl⟩) (Nat.two_pow_pos n) (nil_made w w.heap.size (Nat.le_refl _)) (by simp)
  unfold OrdPost at hO
  rw [e] at hO
  have HO := Lib.hid hO
  have k1 : ¬ (9 : Int) < (n : Int) := by omega
  have k2 := decide_eq_false k1
  clear hs hp e hO
  go_enter Try.func39, Try.ntmps39
  go_wp2_with (first
    | (go_at_call 13; refine (HI.out _).mono ?_; rintro e w' ⟨rfl, rfl⟩)
    | fail)
  refine HO.out.mono ?_
  rintro e w2 ⟨sv, rfl, hb2, hI2⟩
  have HB2 := Lib.hid (((Below.refl w.heap.size w).alloc (Nat.le_refl _) (.cells #[] 3)).trans (hb2.mono (by simp)))
  have HI2 := Lib.hid hI2
  clear hb2 hI2
  go_wp2
  go_ret2
  exact ⟨_, rfl, HB2.out, HI2.out⟩
end Go.Proofs.Ytaklmepioeoohaa
