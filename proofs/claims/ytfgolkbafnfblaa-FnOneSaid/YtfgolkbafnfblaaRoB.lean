/- Rounds of two steps and of one, the program's side. -/
import Derived.Test.YtfgolkbafnfblaaRoA
import Derived.Test.YtfgolkbafnfblaaRndD
import Derived.Test.YtfgolkbafnfblaaRndE
namespace Go.Proofs.Ytfgolkbafnfblaa
open Go.RowKit
set_option linter.unusedVariables false
theorem gcd_mod_right (n x : Nat) : Nat.gcd n (x % n) = Nat.gcd n x := by
  rw [Nat.gcd_comm n (x % n), ← Nat.gcd_rec, Nat.gcd_comm n x, Nat.gcd_comm x n]
set_option maxHeartbeats 1000000 in
theorem hasTwo_any (n a b : Nat) (w : World) (h2 : 2 ≤ n) (h12 : n ≤ 12) (ha1 : 1 ≤ a) (ha : a < n) (hb1 : 1 ≤ b) (hb : b < n) (hab : a ≠ b) :
    Calls Try.prog 42 #[.agg #[.int .i64 (n:Int)], .int .i64 (a:Int), .int .i64 (b:Int)] w fun e w' => e = .returned (.bool (twoN n a b)) ∧ Below w.heap.size w w' := by
  have HG1 := Lib.hid (fun W => gcd_any n a W (by omega) (by omega))
  have hg1 : Nat.gcd n a ≤ n := Nat.gcd_le_left a (by omega)
  have HG2 := Lib.hid (fun W => gcd_any (Nat.gcd n a) b W (by omega) (by omega))
  have hba1 : IntKind.i64.wrap ((b : Int) - (a : Int)) = (b : Int) - (a : Int) := IntWalk.i64_in _ ⟨by omega, by omega⟩
  have hba2 : wrap64 ((b : Int) - (a : Int)) = (b : Int) - (a : Int) := IntWalk.wrap64_in _ ⟨by omega, by omega⟩
  have HR1 := Lib.hid (fun W => rest_any n ((b : Int) - (a : Int)) W (by omega) h12 ⟨by omega, by omega⟩)
  have hrl := rest_lt n ((b : Int) - (a : Int)) (by omega)
  have HG3 := Lib.hid (fun W => gcd_any n (rest n ((b : Int) - (a : Int))) W (by omega) (by omega))
  have HTw : Hid (twoN n a b = (Nat.beq (Nat.gcd (Nat.gcd n a) b) 1 && anyN (twoF n a b (twoD n a b)) (twoD n a b + 1))) := Lib.hid rfl
  have hdl : twoD n a b ≤ n := Nat.gcd_le_left _ (by omega)
  have hgd : Nat.gcd n (rest n ((b : Int) - (a : Int))) = twoD n a b := rfl
  rw [hgd] at HG3
  have hgp : 1 ≤ Nat.gcd (Nat.gcd n a) b := Nat.gcd_pos_of_pos_right _ (by omega)
  have hg9 : Nat.gcd (Nat.gcd n a) b ≤ b := Nat.gcd_le_right _ (by omega)
  generalize rest n ((b : Int) - (a : Int)) = r at *
  have HGs := Lib.hid (fun (x : Nat) W (hx : x ≤ 1000) => gcd_any n x W (by omega) (by omega))
  have HFd : Hid (∀ i, twoF n a b (twoD n a b) i = Nat.beq (Nat.gcd n (i * a + (twoD n a b - i) * b)) (twoD n a b)) := Lib.hid (fun i => by
    show Nat.beq (Nat.gcd n ((i * a + (twoD n a b - i) * b) % n)) (twoD n a b) = _
    rw [gcd_mod_right])
  clear hgd hab
  generalize twoD n a b = d at *
  generalize Nat.gcd (Nat.gcd n a) b = g2 at *
  generalize Nat.gcd n a = g1 at *
  by_cases hc : g2 = 1
  · subst hc
    have HT2 : Hid (twoN n a b = anyN (twoF n a b d) (d + 1)) := Lib.hid (by rw [HTw.out]; rfl)
    clear HTw
    obtain ⟨D, hD⟩ : ∃ D, d + 1 = D := ⟨_, rfl⟩
    have hDI : (d : Int) + 1 = (D : Int) := by omega
    have hDw : wrap64 ((d : Int) + 1) = (D : Int) := by rw [hDI]; exact IntWalk.wrap64_in _ (by omega)
    have hDw2 : IntKind.i64.wrap ((d : Int) + 1) = (D : Int) := by rw [hDI]; exact IntWalk.i64_in _ (by omega)
    have HD := Lib.hid hD
    have hDl : D ≤ 13 := by omega
    clear hD hDI
    have hmx : Try.prog.follows .mixedOrders = true := by kernel_rfl
    have bx0 := Boxed.new w 49 (.int .i64 (n:Int))
    have B0 : Below w.heap.size w (w.alloc (.cells #[.int .i64 (n:Int)] 49)) := (Below.refl _ _).alloc (Nat.le_refl _) _
    go_enter Try.func42, Try.ntmps42
    go_wp2_with fail
    obtain ⟨W0, hW0⟩ : ∃ W0, w.alloc (.cells #[.int .i64 (n:Int)] 49) = W0 := ⟨_, rfl⟩
    rw [hW0] at bx0 B0 ⊢
    clear hW0
    have c0 := bx0.cell
    go_wp2_with fail
    refine (HG1.out _).mono ?_
    rintro e w1 ⟨rfl, hb1⟩
    have bx1 := boxed_below bx0 bx0.lt hb1
    have B1 := B0.trans (hb1.mono B0.size)
    clear c0 hb1 bx0 B0
    go_wp2_with fail
    refine (HG2.out _).mono ?_
    rintro e w2 ⟨rfl, hb2⟩
    have bx2 := boxed_below bx1 bx1.lt hb2
    have B2 := B1.trans (hb2.mono B1.size)
    clear hb2 bx1 B1
    go_wp2_with fail
    have hA0 : Boxed w2.drew w.heap.size 49 (.int .i64 (n:Int)) := bx2
    have B3 : Below w.heap.size w w2.drew := B2.drew
    refine wp_region_held_drew (S := fun W => Boxed W w.heap.size 49 (.int .i64 (n:Int))) hmx hA0 (fun _ => ?_)
    generalize w2.drew = W4 at *
    clear bx2 B2
    refine take1 0 (v := ?_) rfl (by kernel_rfl) (by kernel_rfl) (by kernel_rfl) (fun _ _ _ h => h) (by rfl) ?_ hA0 ?_
    rotate_left
    · intro W9 hA
      have c0 := hA.cell
      clear hA
      go_simp
      try with_reducible rfl
    try simp only [Act.put, List.setIfInBounds_toArray, List.set_cons_zero, List.set_cons_succ]
    refine take1 1 (v := ?_) rfl (by kernel_rfl) (by kernel_rfl) (by kernel_rfl) (fun _ _ _ h => h) (by rfl) ?_ hA0 ?_
    rotate_left
    · intro W9 hA
      have c0 := hA.cell
      clear hA
      go_simp
      try with_reducible rfl
    try simp only [Act.put, List.setIfInBounds_toArray, List.set_cons_zero, List.set_cons_succ]
    refine take1 2 (v := ?_) rfl (by kernel_rfl) (by kernel_rfl) (by kernel_rfl) (fun _ _ _ h => h) (by rfl) ?_ hA0 ?_
    rotate_left
    · intro W9 hA
      have c0 := hA.cell
      clear hA
      go_simp
      try with_reducible rfl
    try simp only [Act.put, List.setIfInBounds_toArray, List.set_cons_zero, List.set_cons_succ]
    refine take1 3 (v := ?_) rfl (by kernel_rfl) (by kernel_rfl) (by kernel_rfl) (fun _ _ _ h => h) (by rfl) ?_ hA0 ?_
    rotate_left
    · intro W9 hA
      have c0 := hA.cell
      clear hA
      go_simp
      try with_reducible rfl
    try simp only [Act.put, List.setIfInBounds_toArray, List.set_cons_zero, List.set_cons_succ]
    refine take1 4 (v := ?_) rfl (by kernel_rfl) (by kernel_rfl) (by kernel_rfl) (fun _ _ _ h => h) (by rfl) ?_ hA0 ?_
    rotate_left
    · intro W9 hA
      have c0 := hA.cell
      clear hA
      go_simp
      try with_reducible rfl
    try simp only [Act.put, List.setIfInBounds_toArray, List.set_cons_zero, List.set_cons_succ]
    refine take1 5 (v := ?_) rfl (by kernel_rfl) (by kernel_rfl) (by kernel_rfl) (fun _ _ _ h => h) (by rfl) ?_ hA0 ?_
    rotate_left
    · intro W9 hA
      have c0 := hA.cell
      clear hA
      go_simp
      try with_reducible rfl
    try simp only [Act.put, List.setIfInBounds_toArray, List.set_cons_zero, List.set_cons_succ]
    refine step1 6 (by kernel_rfl) rfl (fun K hK => ?_)
    go_simp
    refine (HR1.out _).mono ?_
    rintro e W5 ⟨rfl, hb5⟩
    go_wp2_with fail
    have hA1 := boxed_below hA0 hA0.lt hb5
    have B5 := B3.trans (hb5.mono B3.size)
    refine hK.out _ _ hA1 ?_
    clear hK K hb5 hA0 B3
    try simp only [Act.put, List.setIfInBounds_toArray, List.set_cons_zero, List.set_cons_succ]
    refine step1 7 (by kernel_rfl) rfl (fun K hK => ?_)
    go_simp
    refine (HG3.out _).mono ?_
    rintro e W6 ⟨rfl, hb6⟩
    go_wp2_with fail
    have hA2 := boxed_below hA1 hA1.lt hb6
    have B6 := B5.trans (hb6.mono B5.size)
    refine hK.out _ _ hA2 ?_
    clear hK K hb6 hA1 B5
    try simp only [Act.put, List.setIfInBounds_toArray, List.set_cons_zero, List.set_cons_succ]
    refine take1 8 (v := ?_) rfl (by kernel_rfl) (by kernel_rfl) (by kernel_rfl) (fun _ _ _ h => h) (by rfl) ?_ hA2 ?_
    rotate_left
    · intro W9 hA
      have c0 := hA.cell
      clear hA
      go_simp
      try with_reducible rfl
    try simp only [Act.put, List.setIfInBounds_toArray, List.set_cons_zero, List.set_cons_succ]
    refine stop1 (by kernel_rfl) ?_
    have HB6 := Lib.hid B6
    clear B6
    go_wp2
    clear hba1 hba2 HR1 HG1 HG2 HG3 hrl hg1
    go_loopw [26] (fun u wr => ∃ i : Nat, i ≤ D ∧ Hid (∀ j, j < i → twoF n a b d j = false) ∧ u = .int .i64 (i : Int) ∧ Boxed wr w.heap.size 49 (.int .i64 (n:Int)) ∧ Below w.heap.size w wr) (fun u _ => D - (intOf u).toNat)
    case atStart => exact ⟨0, Nat.zero_le _, Lib.hid (fun j hj => absurd hj (by omega)), rfl, hA2, HB6.out⟩
    case round =>
      obtain ⟨i, hi, HNo, rfl, hX, hB⟩ := hrel
      have HB := Lib.hid hB
      have cX := hX.cell
      clear hB
      by_cases hlt : i < D
      · have hF := HFd.out i
        have hle : i ≤ d := by have := HD.out; omega
        obtain ⟨Q, P1, P2, X, hXx, hX1, w1, w2, w3, w4, w5, w6, w7, w8⟩ := two_arith a b d i (by omega) (by omega) (by omega) hle
        rw [hXx] at hF
        have HGx := Lib.hid (fun W => HGs.out X W hX1)
        generalize Nat.gcd n X = z at *
        have i1 : (i : Int) < (D : Int) := by omega
        clear hXx hle
        by_cases hz : z = d
        · have HF2 : Hid (twoF n a b d i = true) := Lib.hid (by rw [hF, hz]; exact Nat.beq_refl d)
          have e1 : ((z : Int) == (d : Int)) = true := by simp [hz]
          clear hF hz
          go_wp2_with fail
          refine (HGx.out _).mono ?_
          rintro e w9 ⟨rfl, hb9⟩
          go_wp2
          go_ret
          exact ⟨ret_bool (by rw [HT2.out, anyN_true _ _ i (by have := HD.out; omega) HF2.out]), HB.out.trans (hb9.mono HB.out.size)⟩
        · have hz2 : Nat.beq z d = false := by
            cases hb : Nat.beq z d
            · rfl
            · exact absurd (Nat.eq_of_beq_eq_true hb) hz
          have HF2 : Hid (∀ j, j < i + 1 → twoF n a b d j = false) := Lib.hid (fun j hj => by
            by_cases e : j = i
            · subst e; rw [hF]; exact hz2
            · exact HNo.out j (by omega))
          have e1 : ((z : Int) == (d : Int)) = false := by simp; omega
          clear hF hz hz2
          go_wp2_with fail
          refine (HGx.out _).mono ?_
          rintro e w9 ⟨rfl, hb9⟩
          go_wp2
          go_roundw
          case rel => exact ⟨i + 1, by omega, HF2.out, by go_num, boxed_below hX hX.lt hb9, HB.out.trans (hb9.mono HB.out.size)⟩
          case measure => simp [intOf]; omega
      · obtain rfl : i = D := by omega
        go_wp2
        go_ret
        exact ⟨ret_bool (by rw [HT2.out, HD.out, anyN_false _ _ HNo.out]), HB.out⟩
  · have HT2 : Hid (twoN n a b = false) := Lib.hid (by
      rw [HTw.out]
      cases hb : Nat.beq g2 1
      · rfl
      · exact absurd (Nat.eq_of_beq_eq_true hb) hc)
    have e1 : ((g2 : Int) == 1) = false := by simp; omega
    have e2 : ((g2 : Int) != 1) = true := by simp; omega
    clear HTw hc
    have bx0 := Boxed.new w 49 (.int .i64 (n:Int))
    have B0 : Below w.heap.size w (w.alloc (.cells #[.int .i64 (n:Int)] 49)) := (Below.refl _ _).alloc (Nat.le_refl _) _
    go_enter Try.func42, Try.ntmps42
    go_wp2_with fail
    refine (HG1.out _).mono ?_
    rintro e w1 ⟨rfl, hb1⟩
    have B1 := B0.trans (hb1.mono B0.size)
    go_wp2_with fail
    refine (HG2.out _).mono ?_
    rintro e w2 ⟨rfl, hb2⟩
    have B2 := B1.trans (hb2.mono B1.size)
    go_wp2
    go_ret
    exact ⟨ret_bool HT2.out.symm, B2⟩
theorem implRoundTwo_no (n a b : Int) (w : World) (h : NoTwo n a b) :
    Calls Try.prog 14 #[.int .i64 n, .int .i64 a, .int .i64 b] w fun e w' => e = .returned (.bool false) ∧ Below w.heap.size w w' := by
  by_cases hn : 1 ≤ n ∧ n ≤ 12
  · obtain ⟨m, rfl⟩ : ∃ m : Nat, n = (m : Int) := ⟨n.toNat, by omega⟩
    have HO := Lib.hid (fun W => ringOf_nil m W (by omega) (by omega))
    have HSa := Lib.hid (fun W => isStep_any m a W)
    have HSb := Lib.hid (fun W => isStep_any m b W)
    by_cases ha : 1 ≤ a ∧ a < (m : Int)
    · rw [decide_eq_true ha] at HSa
      by_cases hb : 1 ≤ b ∧ b < (m : Int)
      · rw [decide_eq_true hb] at HSb
        have hab : a = b := Decidable.byContradiction fun hne => h ⟨by omega, hn.2, ha.1, by omega, hb.1, by omega, hne⟩
        subst hab
        clear ha hb hn h
        go_enter Try.func14, Try.ntmps14
        go_wp2_with fail
        refine (HO.out _).mono ?_
        rintro e w1 ⟨rfl, hb1⟩
        have bx1 := Boxed.new w1 49 (.int .i64 (m:Int))
        have B1 := hb1.alloc hb1.size (.cells #[.int .i64 (m:Int)] 49)
        have z1 : (w1.alloc (.cells #[.int .i64 (m:Int)] 49)).heap.size = w1.heap.size + 1 := by simp
        clear hb1
        go_wp2_with fail
        refine (HSa.out _).mono ?_
        rintro e w2 ⟨rfl, hb2⟩
        have bx2 := boxed_below bx1 bx1.lt hb2
        have B2 := B1.trans (hb2.mono B1.size)
        clear hb2 bx1 B1
        have cx := bx2.cell
        go_wp2_with fail
        refine (HSb.out _).mono ?_
        rintro e w3 ⟨rfl, hb3⟩
        have bx3 := boxed_below bx2 bx2.lt hb3
        have B3 := B2.trans (hb3.mono B2.size)
        clear hb3 bx2 B2
        have cx := bx3.cell
        go_wp2
        go_ret
        exact ⟨rfl, B3⟩
      · rw [decide_eq_false hb] at HSb
        clear ha hb hn h
        go_enter Try.func14, Try.ntmps14
        go_wp2_with fail
        refine (HO.out _).mono ?_
        rintro e w1 ⟨rfl, hb1⟩
        have bx1 := Boxed.new w1 49 (.int .i64 (m:Int))
        have B1 := hb1.alloc hb1.size (.cells #[.int .i64 (m:Int)] 49)
        have z1 : (w1.alloc (.cells #[.int .i64 (m:Int)] 49)).heap.size = w1.heap.size + 1 := by simp
        clear hb1
        go_wp2_with fail
        refine (HSa.out _).mono ?_
        rintro e w2 ⟨rfl, hb2⟩
        have bx2 := boxed_below bx1 bx1.lt hb2
        have B2 := B1.trans (hb2.mono B1.size)
        clear hb2 bx1 B1
        have cx := bx2.cell
        go_wp2_with fail
        refine (HSb.out _).mono ?_
        rintro e w3 ⟨rfl, hb3⟩
        have bx3 := boxed_below bx2 bx2.lt hb3
        have B3 := B2.trans (hb3.mono B2.size)
        clear hb3 bx2 B2
        have cx := bx3.cell
        go_wp2
        go_ret
        exact ⟨rfl, B3⟩
    · rw [decide_eq_false ha] at HSa
      clear ha hn h
      go_enter Try.func14, Try.ntmps14
      go_wp2_with fail
      refine (HO.out _).mono ?_
      rintro e w1 ⟨rfl, hb1⟩
      have bx1 := Boxed.new w1 49 (.int .i64 (m:Int))
      have B1 := hb1.alloc hb1.size (.cells #[.int .i64 (m:Int)] 49)
      have z1 : (w1.alloc (.cells #[.int .i64 (m:Int)] 49)).heap.size = w1.heap.size + 1 := by simp
      clear hb1
      go_wp2_with fail
      refine (HSa.out _).mono ?_
      rintro e w2 ⟨rfl, hb2⟩
      have bx2 := boxed_below bx1 bx1.lt hb2
      have B2 := B1.trans (hb2.mono B1.size)
      clear hb2 bx1 B1
      have cx := bx2.cell
      go_wp2
      go_ret
      exact ⟨rfl, B2⟩
  · have HO := Lib.hid (fun W => ringOf_out n (.slice none 0 0) W hn)
    clear h hn
    go_enter Try.func14, Try.ntmps14
    go_wp2_with fail
    refine (HO.out _).mono ?_
    rintro e w1 ⟨rfl, hb1⟩
    go_wp2
    go_ret
    exact ⟨rfl, hb1.alloc hb1.size _⟩
theorem implRoundTwo_yes (n a b : Nat) (w : World) (h2 : 2 ≤ n) (h12 : n ≤ 12) (ha1 : 1 ≤ a) (ha : a < n) (hb1 : 1 ≤ b) (hb : b < n) (hab : a ≠ b) :
    Calls Try.prog 14 #[.int .i64 (n:Int), .int .i64 (a:Int), .int .i64 (b:Int)] w fun e w' => e = .returned (.bool (twoN n a b)) ∧ Below w.heap.size w w' := by
  have HO := Lib.hid (fun W => ringOf_nil n W (by omega) (by omega))
  have hsa := fun W => isStep_any n (a : Int) W
  have hsb := fun W => isStep_any n (b : Int) W
  rw [show decide (1 ≤ (a:Int) ∧ (a:Int) < (n:Int)) = true from decide_eq_true (by omega)] at hsa
  rw [show decide (1 ≤ (b:Int) ∧ (b:Int) < (n:Int)) = true from decide_eq_true (by omega)] at hsb
  have HSa := Lib.hid hsa
  have HSb := Lib.hid hsb
  have HT := Lib.hid (fun W => hasTwo_any n a b W h2 h12 ha1 ha hb1 hb hab)
  have e1 : ((a : Int) == (b : Int)) = false := by simp; omega
  have e2 : ((a : Int) != (b : Int)) = true := by simp; omega
  clear hsa hsb hab ha1 ha hb1 hb
  go_enter Try.func14, Try.ntmps14
  go_wp2_with fail
  refine (HO.out _).mono ?_
  rintro e w1 ⟨rfl, hb1⟩
  have bx1 := Boxed.new w1 49 (.int .i64 (n:Int))
  have B1 := hb1.alloc hb1.size (.cells #[.int .i64 (n:Int)] 49)
  have z1 : (w1.alloc (.cells #[.int .i64 (n:Int)] 49)).heap.size = w1.heap.size + 1 := by simp
  clear hb1
  go_wp2_with fail
  refine (HSa.out _).mono ?_
  rintro e w2 ⟨rfl, hb2⟩
  have bx2 := boxed_below bx1 bx1.lt hb2
  have B2 := B1.trans (hb2.mono B1.size)
  clear hb2 bx1 B1
  have cx := bx2.cell
  go_wp2_with fail
  refine (HSb.out _).mono ?_
  rintro e w3 ⟨rfl, hb3⟩
  have bx3 := boxed_below bx2 bx2.lt hb3
  have B3 := B2.trans (hb3.mono B2.size)
  clear hb3 bx2 B2
  have cx := bx3.cell
  go_wp2_with fail
  refine (HT.out _).mono ?_
  rintro e w4 ⟨rfl, hb4⟩
  have bx4 := boxed_below bx3 bx3.lt hb4
  have B4 := B3.trans (hb4.mono B3.size)
  clear hb4 bx3 B3
  have cx := bx4.cell
  go_wp2
  go_ret
  exact ⟨rfl, B4⟩
theorem implRoundOne_no (n k : Int) (w : World) (h : NoOne n k) :
    Calls Try.prog 17 #[.int .i64 n, .int .i64 k] w fun e w' => e = .returned (.tuple #[.int .i64 0, .bool false]) ∧ Below w.heap.size w w' := by
  by_cases hn : 1 ≤ n ∧ n ≤ 12
  · obtain ⟨m, rfl⟩ : ∃ m : Nat, n = (m : Int) := ⟨n.toNat, by omega⟩
    have HO := Lib.hid (fun W => ringOf_nil m W (by omega) (by omega))
    have hs := fun W => isStep_any m k W
    rw [show decide (1 ≤ k ∧ k < (m:Int)) = false from decide_eq_false (fun hh => h ⟨hn.1, hn.2, hh.1, by omega⟩)] at hs
    have HS := Lib.hid hs
    clear hs h hn
    go_enter Try.func17, Try.ntmps17
    go_wp2_with fail
    refine (HO.out _).mono ?_
    rintro e w1 ⟨rfl, hb1⟩
    have bx1 := Boxed.new w1 49 (.int .i64 (m:Int))
    have B1 := hb1.alloc hb1.size (.cells #[.int .i64 (m:Int)] 49)
    have z1 : (w1.alloc (.cells #[.int .i64 (m:Int)] 49)).heap.size = w1.heap.size + 1 := by simp
    clear hb1
    go_wp2_with fail
    refine (HS.out _).mono ?_
    rintro e w2 ⟨rfl, hb2⟩
    have bx2 := boxed_below bx1 bx1.lt hb2
    have B2 := B1.trans (hb2.mono B1.size)
    clear hb2 bx1 B1
    have cx := bx2.cell
    go_wp2
    go_ret2
    exact ⟨rfl, B2⟩
  · have HO := Lib.hid (fun W => ringOf_out n (.slice none 0 0) W hn)
    clear h hn
    go_enter Try.func17, Try.ntmps17
    go_wp2_with fail
    refine (HO.out _).mono ?_
    rintro e w1 ⟨rfl, hb1⟩
    go_wp2
    go_ret2
    exact ⟨rfl, hb1.alloc hb1.size _⟩
theorem implRoundOne_yes (n k : Nat) (w : World) (h1 : 1 ≤ n) (h2 : n ≤ 12) (hk1 : 1 ≤ k) (hk : k < n) :
    Calls Try.prog 17 #[.int .i64 (n:Int), .int .i64 (k:Int)] w fun e w' => e = .returned (.tuple #[.int .i64 ((n / Nat.gcd n k : Nat) : Int), .bool true]) ∧ Below w.heap.size w w' := by
  have HO := Lib.hid (fun W => ringOf_nil n W h1 h2)
  have hs := fun W => isStep_any n (k : Int) W
  rw [show decide (1 ≤ (k:Int) ∧ (k:Int) < (n:Int)) = true from decide_eq_true (by omega)] at hs
  have HS := Lib.hid hs
  have HG := Lib.hid (fun W => gcd_any n k W (by omega) (by omega))
  have hgp : 1 ≤ Nat.gcd n k := Nat.gcd_pos_of_pos_right _ (by omega)
  have hdl : n / Nat.gcd n k ≤ n := Nat.div_le_self _ _
  have hd1 : Int.tdiv (n : Int) ((Nat.gcd n k : Nat) : Int) = ((n / Nat.gcd n k : Nat) : Int) := rfl
  generalize n / Nat.gcd n k = q at *
  generalize Nat.gcd n k = g at *
  have g1 : ((g : Int) = 0) = False := by simp; omega
  have g2 : ((g : Int) == 0) = false := by simp; omega
  obtain ⟨w1, w2⟩ := wraps_at' _ q hd1 (by omega)
  clear hs
  go_enter Try.func17, Try.ntmps17
  go_wp2_with fail
  refine (HO.out _).mono ?_
  rintro e w1 ⟨rfl, hb1⟩
  have bx1 := Boxed.new w1 49 (.int .i64 (n:Int))
  have B1 := hb1.alloc hb1.size (.cells #[.int .i64 (n:Int)] 49)
  have z1 : (w1.alloc (.cells #[.int .i64 (n:Int)] 49)).heap.size = w1.heap.size + 1 := by simp
  clear hb1
  go_wp2_with fail
  refine (HS.out _).mono ?_
  rintro e w2 ⟨rfl, hb2⟩
  have bx2 := boxed_below bx1 bx1.lt hb2
  have B2 := B1.trans (hb2.mono B1.size)
  clear hb2 bx1 B1
  have cx := bx2.cell
  go_wp2_with fail
  refine (HG.out _).mono ?_
  rintro e w3 ⟨rfl, hb3⟩
  have bx3 := boxed_below bx2 bx2.lt hb3
  have B3 := B2.trans (hb3.mono B2.size)
  clear hb3 bx2 B2
  have cx := bx3.cell
  go_wp2
  go_ret2
  exact ⟨rfl, B3⟩
end Go.Proofs.Ytfgolkbafnfblaa
