/- Rounds, the program's side: RoundWord; lists that are equal. -/
import Derived.Test.YtfgolkbafnfblaaRoD
namespace Go.Proofs.Ytfgolkbafnfblaa
open Go.RowKit Go.Shelf
set_option linter.unusedVariables false
theorem but_bit0 (n : Nat) (h2 : n ≤ 12) : (butN n).testBit 0 = false := by
  have : n = 0 ∨ n = 1 ∨ n = 2 ∨ n = 3 ∨ n = 4 ∨ n = 5 ∨ n = 6 ∨ n = 7 ∨ n = 8 ∨ n = 9 ∨ n = 10 ∨ n = 11 ∨ n = 12 := by omega
  rcases this with rfl | rfl | rfl | rfl | rfl | rfl | rfl | rfl | rfl | rfl | rfl | rfl | rfl <;> decide
theorem implRoundWord_no (n : Int) (sv : Value) (w : World) (h : ¬ (1 ≤ n ∧ n ≤ 12)) :
    Calls Try.prog 11 #[.int .i64 n, sv] w (ListRes w [] false) := by
  have HO := Lib.hid (fun W => ringOf_out n (.slice none 0 0) W h)
  clear h
  go_enter Try.func11, Try.ntmps11
  go_wp2_with fail
  refine (HO.out _).mono ?_
  rintro e w1 ⟨rfl, hb1⟩
  go_wp2
  go_ret2
  exact nil_res ⟨rfl, hb1.alloc hb1.size _⟩
theorem implRoundWord_any (n : Nat) (sv : Value) (xs : List Int) (b : Nat) (w : World) (h1 : 1 ≤ n) (h2 : n ≤ 12) (hI : IsInts w b sv xs) :
    Calls Try.prog 11 #[.int .i64 (n:Int), sv] w (ListRes w (if isRndB n (butN n) xs then rwordN n xs n else []) (isRndB n (butN n) xs)) := by
  have HO := Lib.hid (fun W => ringOf_nil n W h1 h2)
  have HAll := Lib.hid (fun W => allSteps_any n W h1 h2)
  have HR := Lib.hid (fun W (h : IsInts W b sv xs) => isRound_any n (butN n) sv xs b W h1 h2 (but_lt n h1) (but_bit0 n h2) h)
  have HI := Lib.hid hI
  clear hI
  cases hr : isRndB n (butN n) xs
  · rw [hr] at HR
    generalize butN n = q at *
    clear hr
    go_enter Try.func11, Try.ntmps11
    go_wp2_with fail
    refine (HO.out _).mono ?_
    rintro e w1 ⟨rfl, hb1⟩
    have B1 := hb1.alloc hb1.size (.cells #[.int .i64 (n:Int)] 49)
    clear hb1
    go_wp2_with fail
    refine (HAll.out _).mono ?_
    rintro e w2 ⟨rfl, hb2⟩
    have B2 := B1.trans (hb2.mono B1.size)
    have HI2 := Lib.hid (HI.out.belowAll B2)
    clear hb2 B1
    go_wp2_with fail
    refine (HR.out _ HI2.out).mono ?_
    rintro e w3 ⟨rfl, hb3⟩
    have B3 := B2.trans (hb3.mono B2.size)
    clear hb3 B2
    go_wp2
    go_ret2
    exact nil_res ⟨rfl, B3⟩
  · have hrd := isRnd_iff.1 hr
    have hord := inOrd_of_rnd hrd
    have HS := Lib.hid (fun W (h : IsInts W b sv xs) => stepsAlong_any n sv xs b W h1 h2 hord.len hord.inn h)
    rw [hr] at HR
    clear hr hord hrd
    generalize butN n = q at *
    have e0 : (if true = true then rwordN n xs n else []) = rwordN n xs n := rfl
    rw [e0]
    clear e0
    generalize rwordN n xs n = ys at *
    go_enter Try.func11, Try.ntmps11
    go_wp2_with fail
    refine (HO.out _).mono ?_
    rintro e w1 ⟨rfl, hb1⟩
    have bx1 := Boxed.new w1 49 (.int .i64 (n:Int))
    have B1 := hb1.alloc hb1.size (.cells #[.int .i64 (n:Int)] 49)
    clear hb1
    go_wp2_with fail
    refine (HAll.out _).mono ?_
    rintro e w2 ⟨rfl, hb2⟩
    have bx2 := boxed_below bx1 bx1.lt hb2
    have B2 := B1.trans (hb2.mono B1.size)
    have HI2 := Lib.hid (HI.out.belowAll B2)
    clear hb2 B1 bx1
    go_wp2_with fail
    refine (HR.out _ HI2.out).mono ?_
    rintro e w3 ⟨rfl, hb3⟩
    have bx3 := boxed_below bx2 bx2.lt hb3
    have B3 := B2.trans (hb3.mono B2.size)
    have HI3 := Lib.hid (HI2.out.belowAll hb3)
    have c3 := bx3.cell
    clear hb3 B2 bx2
    go_wp2_with fail
    refine (HS.out _ HI3.out).mono ?_
    rintro e w4 ⟨yv, rfl, hb4, hI4⟩
    have B4 := B3.trans (hb4.mono B3.size)
    have HI4 := Lib.hid (hI4.base B3.size)
    clear hb4 hI4 c3
    go_wp2
    go_ret2
    exact ⟨_, rfl, B4, HI4.out⟩
theorem ext_getD {xs ys : List Int} {n : Nat} (hx : xs.length = n) (hy : ys.length = n) (h : ∀ i, i < n → xs.getD i 0 = ys.getD i 0) : xs = ys := by
  refine List.ext_getElem (by omega) fun i h1 h2 => ?_
  have a := h i (by omega)
  rw [List.getD_eq_getElem?_getD, List.getElem?_eq_getElem h1, List.getD_eq_getElem?_getD, List.getElem?_eq_getElem h2] at a
  exact a
theorem slicesEq_any (sa sb : Value) (xs ys : List Int) (w : World) (ba bb : Nat) (ha : IsInts w ba sa xs) (hb : IsInts w bb sb ys) (n : Nat) (hn1 : 1 ≤ n) (hn : n ≤ 1000) (hx : xs.length = n) (hy : ys.length = n) :
    Calls Try.prog 50 #[sa, sb] w fun e w' => e = .returned (.bool (decide (xs = ys))) ∧ Below w.heap.size w w' := by
  rcases ha.shape with ⟨_, rfl⟩ | ⟨g, cap, rfl, hg1, hg2, hg3⟩
  · simp at hx; omega
  rcases hb.shape with ⟨_, rfl⟩ | ⟨g', cap', rfl, hg1', hg2', hg3'⟩
  · simp at hy; omega
  have HA := Lib.hid ha
  have HB := Lib.hid hb
  have HX := Lib.hid hx
  have HY := Lib.hid hy
  rw [hx] at HA ⊢
  rw [hy] at HB ⊢
  clear ha hb hg3 hg3' hx hy
  go_enter Try.func50, Try.ntmps50
  go_wp2
  go_loopw [13] (fun u wr => ∃ i : Nat, i ≤ n ∧ u = .int .i64 (i : Int) ∧ Hid (∀ j, j < i → xs.getD j 0 = ys.getD j 0) ∧ Below w.heap.size w wr) (fun u _ => n - (intOf u).toNat)
  case atStart => exact ⟨0, Nat.zero_le _, rfl, Lib.hid (fun j hj => absurd hj (by omega)), Below.refl _ _⟩
  case round =>
    obtain ⟨i, hi, rfl, HE, hB⟩ := hrel
    by_cases hlt : i < n
    · have c1 := (hB.cell (p := ⟨g, i, none⟩) hg2).trans (HA.out.cell (by rw [HX.out]; exact hlt))
      have c2 := (hB.cell (p := ⟨g', i, none⟩) hg2').trans (HB.out.cell (by rw [HY.out]; exact hlt))
      have i1 : (0 : Int) ≤ (i : Int) := by omega
      have i2 : (i : Int) < (n : Int) := by omega
      have HS : Hid (xs.getD i 0 = ys.getD i 0 → ∀ j, j < i + 1 → xs.getD j 0 = ys.getD j 0) := Lib.hid (fun h j hj => by
        by_cases e : j = i
        · subst e; exact h
        · exact HE.out j (by omega))
      have HNe : Hid (xs.getD i 0 ≠ ys.getD i 0 → decide (xs = ys) = false) := Lib.hid (fun h => decide_eq_false fun e => h (by rw [e]))
      generalize xs.getD i 0 = u at *
      generalize ys.getD i 0 = v at *
      by_cases huv : u = v
      · have HS2 := Lib.hid (HS.out huv)
        have e1 : (u != v) = false := by simp [huv]
        have e2 : (u == v) = true := by simp [huv]
        clear HS HNe huv
        go_wp2
        go_quiet (fail)
        go_wp2
        go_roundw
        case rel => exact ⟨i + 1, by omega, by go_num, HS2.out, below_drewN hB _⟩
        case measure => simp [intOf]; omega
      · have HF := Lib.hid (HNe.out huv)
        have e1 : (u != v) = true := by simp [huv]
        have e2 : (u == v) = false := by simp [huv]
        clear HS HNe huv
        go_wp2
        go_quiet (fail)
        go_wp2
        go_ret
        exact ⟨ret_bool HF.out.symm, below_drewN hB _⟩
    · obtain rfl : i = n := by omega
      have HF : Hid (decide (xs = ys) = true) := Lib.hid (decide_eq_true (ext_getD HX.out HY.out HE.out))
      go_wp2
      go_ret
      exact ⟨ret_bool HF.out.symm, hB⟩
end Go.Proofs.Ytfgolkbafnfblaa
