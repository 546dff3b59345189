/- Rounds, the program's side: whether a list is a round. -/
import Derived.Test.YtfgolkbafnfblaaRoC
namespace Go.Proofs.Ytfgolkbafnfblaa
open Go.RowKit Go.Shelf
set_option linter.unusedVariables false
set_option maxHeartbeats 1000000 in
theorem isRound_any (n s : Nat) (sv : Value) (xs : List Int) (b : Nat) (w : World) (h1 : 1 ≤ n) (h2 : n ≤ 12) (hs : s < 2 ^ n) (h0 : s.testBit 0 = false) (hI : IsInts w b sv xs) :
    Calls Try.prog 34 #[.agg #[.int .i64 (n:Int), .int .i64 (s:Int)], sv] w fun e w' => e = .returned (.bool (isRndB n s xs)) ∧ Below w.heap.size w w' := by
  have hpw := pow_le n h2
  have HO := Lib.hid (fun W (h : IsInts W b sv xs) => allInOrder_any n sv xs b W h1 h2 h)
  have HI := Lib.hid hI
  have bx0 := Duo.new w 52 (.int .i64 (n:Int)) (.int .i64 (s:Int))
  have B0 : Below w.heap.size w (w.alloc (.cells #[.int .i64 (n:Int), .int .i64 (s:Int)] 52)) := (Below.refl _ _).alloc (Nat.le_refl _) _
  cases hq : inOrdB n xs
  · rw [hq] at HO
    have HF := Lib.hid (isRnd_no (n := n) (s := s) (xs := xs) (fun h => by rw [inOrd_yes (inOrd_of_rnd h)] at hq; cases hq))
    have HI1 := Lib.hid (hI.belowAll B0)
    clear hI hq
    go_enter Try.func34, Try.ntmps34
    go_wp2_with fail
    refine (HO.out _ HI1.out).mono ?_
    rintro e w1 ⟨rfl, hb1⟩
    have B1 := B0.trans (hb1.mono B0.size)
    go_wp2
    go_ret
    exact ⟨ret_bool HF.out.symm, B1⟩
  · rw [hq] at HO
    have hord := inOrd_iff.1 hq
    have hlen := hord.len
    have HOrd := Lib.hid hord
    have HS := Lib.hid (fun W (h : IsInts W b sv xs) => stepsAlong_any n sv xs b W h1 h2 hlen hord.inn h)
    have HI1 := Lib.hid (hI.belowAll B0)
    clear hI hq hord
    go_enter Try.func34, Try.ntmps34
    go_wp2_with fail
    refine (HO.out _ HI1.out).mono ?_
    rintro e w1 ⟨rfl, hb1⟩
    have B1 := B0.trans (hb1.mono B0.size)
    have bx1 := duo_below bx0 bx0.lt hb1
    have HI2 := Lib.hid (HI1.out.belowAll hb1)
    have c0 := bx1.cell0
    clear hb1 bx0 B0 HI1
    go_wp2_with fail
    refine (HS.out _ HI2.out).mono ?_
    rintro e w2 ⟨yv, rfl, hb2, hI3⟩
    have B2 := B1.trans (hb2.mono B1.size)
    have bx2 := duo_below bx1 bx1.lt hb2
    have HY := Lib.hid hI3
    have hyl := rword_len n xs n
    have HYg := Lib.hid (fun i (hi : i < n) => tabI_get n (fun i => ((rest n (xs.getD ((i + 1) % n) 0 - xs.getD i 0) : Nat) : Int)) i hi)
    rcases hI3.shape with ⟨_, e9⟩ | ⟨y, ycap, rfl, hy1, hy2, hy3⟩
    · rw [e9] at hyl; simp at hyl; omega
    rw [hyl] at HY ⊢
    clear hI3 hb2 bx1 B1 c0
    have HB2 := Lib.hid B2
    clear B2
    have HHas := Lib.hid (fun v W (hv : v < 40) => has_any s v W (by omega) hv)
    have HYes := Lib.hid (fun ha => isRnd_yes (rnd_of_ord (n := n) (s := s) (xs := xs) h1 h0 HOrd.out ha))
    have c1 := bx2.cell1
    clear bx2 hy3
    go_wp2
    go_loop [17] (fun u => ∃ i : Nat, i ≤ n ∧ u = .int .i64 (i : Int) ∧ Hid (∀ j, j < i → s.testBit (rest n (xs.getD ((j + 1) % n) 0 - xs.getD j 0)) = true)) (fun u => n - (intOf u).toNat)
    case atStart => exact ⟨0, Nat.zero_le _, rfl, Lib.hid (fun j hj => absurd hj (by omega))⟩
    case round =>
      obtain ⟨i, hi, rfl, HA⟩ := hrel
      by_cases hlt : i < n
      · have ci := HY.out.cell (i := i) (by rw [hyl]; exact hlt)
        have e1 : (rwordN n xs n).getD i 0 = ((rest n (xs.getD ((i + 1) % n) 0 - xs.getD i 0) : Nat) : Int) := HYg.out i hlt
        rw [e1] at ci
        have HAs : Hid (s.testBit (rest n (xs.getD ((i + 1) % n) 0 - xs.getD i 0)) = true → ∀ j, j < i + 1 → s.testBit (rest n (xs.getD ((j + 1) % n) 0 - xs.getD j 0)) = true) := Lib.hid (fun h j hj => by
          by_cases e : j = i
          · subst e; exact h
          · exact HA.out j (by omega))
        have HNo : Hid (s.testBit (rest n (xs.getD ((i + 1) % n) 0 - xs.getD i 0)) = false → isRndB n s xs = false) := Lib.hid (fun h => isRnd_no fun hr => by
          have := hr.arc i hlt
          rw [h] at this
          cases this)
        have hrl := rest_lt n (xs.getD ((i + 1) % n) 0 - xs.getD i 0) h1
        clear e1
        generalize rest n (xs.getD ((i + 1) % n) 0 - xs.getD i 0) = r at *
        have HHr := Lib.hid (fun W => HHas.out r W (by omega))
        have i1 : (0 : Int) ≤ (i : Int) := by omega
        have i2 : (i : Int) < (n : Int) := by omega
        cases hb : s.testBit r
        · rw [hb] at HHr
          have HF := Lib.hid (HNo.out hb)
          clear HNo HAs hb
          go_wp2_with (go_at_call 53; refine (HHr.out _).mono ?_; rintro e w3 ⟨rfl, rfl⟩)
          go_ret
          exact ⟨ret_bool HF.out.symm, HB2.out⟩
        · rw [hb] at HHr
          have HA2 := Lib.hid (HAs.out hb)
          clear HNo HAs hb
          go_wp2_with (go_at_call 53; refine (HHr.out _).mono ?_; rintro e w3 ⟨rfl, rfl⟩)
          go_round
          case rel => exact ⟨i + 1, by omega, by go_num, HA2.out⟩
          case measure => simp [intOf]; omega
      · obtain rfl : i = n := by omega
        have HF := Lib.hid (HYes.out HA.out)
        go_wp2
        go_ret
        exact ⟨ret_bool HF.out.symm, HB2.out⟩
theorem implRoundIs_no (n s : Int) (sv : Value) (w : World) (h : NoStep n s) :
    Calls Try.prog 9 #[.int .i64 n, .int .i64 s, sv] w fun e w' => e = .returned (.bool false) ∧ Below w.heap.size w w' := by
  have HO := Lib.hid (fun W => stepsOf_no n s W h)
  clear h
  go_enter Try.func9, Try.ntmps9
  go_wp2_with fail
  refine (HO.out _).mono ?_
  rintro e w1 ⟨rfl, hb1⟩
  go_wp2
  go_ret
  exact ⟨rfl, hb1.alloc hb1.size _⟩
theorem implRoundIs_yes (n s : Nat) (sv : Value) (xs : List Int) (b : Nat) (w : World) (h1 : 1 ≤ n) (h2 : n ≤ 12) (hs : s < 2 ^ n) (h0 : s.testBit 0 = false) (hI : IsInts w b sv xs) :
    Calls Try.prog 9 #[.int .i64 (n:Int), .int .i64 (s:Int), sv] w fun e w' => e = .returned (.bool (isRndB n s xs)) ∧ Below w.heap.size w w' := by
  have HO := Lib.hid (fun W => stepsOf_yes n s W h1 h2 hs h0)
  have HI := Lib.hid hI
  have HR := Lib.hid (fun W (h : IsInts W b sv xs) => isRound_any n s sv xs b W h1 h2 hs h0 h)
  clear hI
  go_enter Try.func9, Try.ntmps9
  go_wp2_with fail
  refine (HO.out _).mono ?_
  rintro e w1 ⟨rfl, hb1⟩
  have bx1 := Duo.new w1 52 (.int .i64 (n:Int)) (.int .i64 (s:Int))
  have B1 := hb1.alloc hb1.size (.cells #[.int .i64 (n:Int), .int .i64 (s:Int)] 52)
  have HI1 := Lib.hid (HI.out.belowAll B1)
  go_wp2_with fail
  refine (HR.out _ HI1.out).mono ?_
  rintro e w2 ⟨rfl, hb2⟩
  go_wp2
  go_ret
  exact ⟨rfl, B1.trans (hb2.mono B1.size)⟩
end Go.Proofs.Ytfgolkbafnfblaa
