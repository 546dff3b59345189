/- Rounds: the model's first one, and how many. -/
import Derived.Test.YtfgolkbafnfblaaRndI
namespace Go.Proofs.Ytfgolkbafnfblaa
open Go.RowKit Go.Shelf
set_option linter.unusedVariables false
attribute [local go_sem] Oper.semAt_some
theorem getD_last (xs : List Int) (v : Int) : (xs ++ [v]).getD ((xs ++ [v]).length - 1) 0 = v := by
  rw [List.getD_eq_getElem?_getD, List.length_append]
  simp
theorem l5Go_any (m n s a met most b g cap : Nat) (xs : List Int) (w : World) (h1 : 1 ≤ n) (h2 : n ≤ 12) (hs : s < 2 ^ n) (hl : xs.length + m = n) (hl1 : 1 ≤ xs.length) (ha : xs.getD (xs.length - 1) 0 = (a : Int)) (han : a < n) (hmt : met < 2 ^ n) (hm : 1 ≤ most) (hm2 : most ≤ 100000)
    (hI : IsInts w b (.slice (some ⟨g, 0, none⟩) xs.length cap) xs) (hb : b ≤ w.heap.size) :
    Calls Try.prog 52 #[.int .i64 (n:Int), .int .i64 (s:Int), .slice (some ⟨g, 0, none⟩) xs.length cap, .int .i64 (met:Int), .int .i64 (most:Int)] w (GoPost n s m a met most b xs w) := by
  induction m generalizing a met most b g cap xs w with
  | zero => exact l5Go_zero n s a met most b g cap xs w h1 h2 hs (by omega) ha han hm hm2 hI hb
  | succ m ih =>
    refine l5Go_succ m n s a met most b g cap xs w h1 h2 hs hl hl1 ha han hmt hm hm2 hI hb ?_
    intro v met' most' b' g' cap' W hv hmt' hm' hm2' hI' hb'
    exact ih v met' most' b' g' cap' (xs ++ [(v : Int)]) W (by simp; omega) (by simp) (getD_last xs v) hv hmt' hm' hm2' hI' hb'
/-- How many rounds there are, and the first one. -/
def manyN (n s : Nat) : Nat := cntN n s (n - 1) 0 1
def firstR (n s : Nat) : List Int := putF [0] (firN n s (n - 1) 0 1)
theorem many_le (n s : Nat) (h1 : 1 ≤ n) (h9 : n ≤ 9) : manyN n s ≤ 40320 :=
  Nat.le_trans (cnt_fac n s (n - 1) 0 1 (free_one n h1)) (fac_small (n - 1) (by omega))
theorem search_any (n s most : Nat) (W : World) (N : Nat) (h2 : 2 ≤ n) (h9 : n ≤ 9) (hs : s < 2 ^ n) (hm : 1 ≤ most) (hm2 : most ≤ 100000) (hN : N ≤ W.heap.size) :
    Calls Try.prog 52 #[.int .i64 (n:Int), .int .i64 (s:Int), .slice (some ⟨W.heap.size, 0, none⟩) 1 1, .int .i64 1, .int .i64 (most:Int)] (W.alloc (.cells #[.int .i64 0] 3)) fun e w' =>
      ∃ sv, e = .returned (.tuple #[.int .i64 ((min (manyN n s) most : Nat) : Int), sv]) ∧ Below W.heap.size W w' ∧ IsInts w' N sv (firstR n s) := by
  have hz : (W.alloc (.cells #[.int .i64 0] 3)).heap.size = W.heap.size + 1 := by simp
  have h := l5Go_any (n - 1) n s 0 1 most N W.heap.size 1 [0] (W.alloc (.cells #[.int .i64 0] 3)) (by omega) (by omega) hs (by simp; omega) (by simp) rfl (by omega) (Nat.one_lt_two_pow (by omega)) hm hm2 (lit_one W N 0 hN) (by omega)
  refine h.mono fun e w' ⟨sv, he, hb, hI⟩ => ⟨sv, he, ?_, hI⟩
  exact ((Below.refl W.heap.size W).alloc (Nat.le_refl _) _).trans (hb.mono (by omega))
theorem specRoundFirst_no (n s : Int) (w : World) (h : NoStep n s ∨ ¬ (2 ≤ n ∧ n ≤ 9)) :
    Calls Try.prog 30 #[.int .i64 n, .int .i64 s] w (ListRes w [] false) := by
  by_cases hn : NoStep n s
  · have HI := Lib.hid (fun W => specStep_no n s W hn)
    clear h hn
    go_enter Try.func30, Try.ntmps30
    go_wp2_with fail
    refine (HI.out _).mono ?_
    rintro e w' ⟨rfl, rfl⟩
    go_wp2
    go_ret2
    exact ⟨_, rfl, (Below.refl _ _).alloc (Nat.le_refl _) _, nil_made w _ (Nat.le_refl _)⟩
  · obtain ⟨m, t, rfl, rfl, h1, h2, h3, h4⟩ := not_noStep hn
    have HI := Lib.hid (fun W => specStep_yes m t W h1 h2 h3 h4)
    have HK := Lib.hid (fun W => l6In_no (m : Int) 2 9 W (h.resolve_left hn))
    clear h hn
    go_enter Try.func30, Try.ntmps30
    go_wp2_with fail
    refine (HI.out _).mono ?_
    rintro e w' ⟨rfl, rfl⟩
    go_wp2_with fail
    refine (HK.out _).mono ?_
    rintro e w' ⟨rfl, rfl⟩
    go_wp2
    go_ret2
    exact ⟨_, rfl, (Below.refl _ _).alloc (Nat.le_refl _) _, nil_made w _ (Nat.le_refl _)⟩
theorem specRoundFirst_yes (n s : Nat) (w : World) (h2 : 2 ≤ n) (h9 : n ≤ 9) (hs : s < 2 ^ n) (h0 : s.testBit 0 = false) :
    Calls Try.prog 30 #[.int .i64 (n:Int), .int .i64 (s:Int)] w (ListRes w (firstR n s) (decide (0 < manyN n s))) := by
  have HI := Lib.hid (fun W => specStep_yes n s W (by omega) (by omega) hs h0)
  have HK := Lib.hid (fun W => l6In_yes (n : Int) 2 9 W (by omega) (by omega))
  have HG := Lib.hid (search_any n s 1 w w.heap.size h2 h9 hs (by omega) (by omega) (Nat.le_refl _))
  by_cases hm : 0 < manyN n s
  · rw [show min (manyN n s) 1 = 1 by omega] at HG
    rw [decide_eq_true hm]
    clear hm
    go_enter Try.func30, Try.ntmps30
    go_wp2_with fail
    refine (HI.out _).mono ?_
    rintro e w' ⟨rfl, rfl⟩
    go_wp2_with fail
    refine (HK.out _).mono ?_
    rintro e w' ⟨rfl, rfl⟩
    go_wp2_with fail
    refine HG.out.mono ?_
    rintro e w1 ⟨sv, rfl, hb1, hI1⟩
    have HI1 := Lib.hid hI1
    have HB1 := Lib.hid hb1
    clear hI1 hb1
    go_wp2
    go_ret2
    exact ⟨_, rfl, HB1.out, HI1.out⟩
  · rw [show min (manyN n s) 1 = 0 by omega] at HG
    rw [decide_eq_false hm]
    clear hm
    go_enter Try.func30, Try.ntmps30
    go_wp2_with fail
    refine (HI.out _).mono ?_
    rintro e w' ⟨rfl, rfl⟩
    go_wp2_with fail
    refine (HK.out _).mono ?_
    rintro e w' ⟨rfl, rfl⟩
    go_wp2_with fail
    refine HG.out.mono ?_
    rintro e w1 ⟨sv, rfl, hb1, hI1⟩
    have HI1 := Lib.hid hI1
    have HB1 := Lib.hid hb1
    clear hI1 hb1
    go_wp2
    go_ret2
    exact ⟨_, rfl, HB1.out, HI1.out⟩
end Go.Proofs.Ytfgolkbafnfblaa
