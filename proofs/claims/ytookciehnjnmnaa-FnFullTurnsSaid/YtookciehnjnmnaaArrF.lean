/- Full sets and lengths of rounds: the program. -/
import Derived.Test.YtookciehnjnmnaaArrE
namespace Go.Proofs.Ytookciehnjnmnaa
open Go.RowKit Go.Shelf
set_option linter.unusedVariables false
attribute [local go_sem] Oper.semAt_some
theorem mset_all (n s k : Nat) (h1 : 1 ≤ n) (h2 : n ≤ 12) : (∀ x, x < 12 → msetN n s k x = allP n x) ↔ wsetN n s k = 2 ^ n - 1 := by
  constructor
  · intro h
    refine Nat.eq_of_testBit_eq fun x => ?_
    rw [Nat.testBit_two_pow_sub_one]
    by_cases c : x < n
    · have a := h x (by omega)
      unfold msetN allP at a
      rw [if_pos c] at a
      cases hb : (wsetN n s k).testBit x
      · rw [hb] at a; cases a
      · simp [c]
    · rw [Nat.testBit_lt_two_pow (Nat.lt_of_lt_of_le (wset_lt n s k h1) (Nat.pow_le_pow_right (by omega) (by omega)))]
      simp [c]
  · intro h x hx
    unfold msetN allP
    rw [h, Nat.testBit_two_pow_sub_one]
    by_cases c : x < n <;> simp [c, b2n]
theorem turn_lt (n s k : Nat) (h2 : n ≤ 12) (hk : k ≤ n) : wturnN n s k < 2 ^ 40 := by
  have := wturn_le n s k
  omega
set_option maxHeartbeats 1000000 in
theorem turns_any (n s : Nat) (w : World) (h1 : 1 ≤ n) (h2 : n ≤ 12) (hs : s < 2 ^ n) (h0 : s.testBit 0 = false) :
    Calls Try.prog 33 #[.agg #[.int .i64 (n:Int), .int .i64 (s:Int)]] w fun e w' => e = .returned (.int .i64 ((wturnN n s n : Nat) : Int)) ∧ Below w.heap.size w w' := by
  have HD := Lib.hid (Duo.new w 41 (.int .i64 (n:Int)) (.int .i64 (s:Int)))
  have HB := Lib.hid ((Below.refl w.heap.size w).alloc (Nat.le_refl _) (.cells #[.int .i64 (n:Int), .int .i64 (s:Int)] 41))
  have HM := Lib.hid (fun k hk W => smarks_any n s k W h1 h2 hs h0 hk)
  have HI := Lib.hid (fun k W => run_idxArr (msetN n s k) 0 (by omega) W)
  have HT : Hid (∀ j, wturnN n s (j + 1) = if (wsetN n s (j + 1)).testBit 0 then Nat.gcd (wturnN n s j) (j + 1) else wturnN n s j) := Lib.hid (fun j => rfl)
  have HLe := Lib.hid (fun k hk => turn_lt n s k h2 hk)
  have HE : Hid (∀ k, msetN n s k 0 = b2n ((wsetN n s k).testBit 0)) := Lib.hid (fun k => rfl)
  go_enter Try.func33, Try.ntmps33
  go_wp2
  obtain ⟨W0, hW0⟩ : ∃ W0, w.alloc (.cells #[.int .i64 (n:Int), .int .i64 (s:Int)] 41) = W0 := ⟨_, rfl⟩
  rw [hW0] at HD HB ⊢
  clear hW0
  go_loopw [3, 4] (fun a u wr => ∃ j J : Nat, J = j + 1 ∧ j ≤ n ∧ a = .int .i64 ((wturnN n s j : Nat) : Int) ∧ u = .int .i64 (J : Int) ∧ Duo wr w.heap.size 41 (.int .i64 (n:Int)) (.int .i64 (s:Int)) ∧ Below w.heap.size w wr) (fun _ u _ => n + 1 - (intOf u).toNat)
  case atStart => exact ⟨0, 1, rfl, Nat.zero_le _, rfl, rfl, HD.out, HB.out⟩
  case round =>
    obtain ⟨j, J, hJ, hj, rfl, rfl, hD, hB⟩ := hrel
    clear HD HB
    have HD := Lib.hid hD
    have HB := Lib.hid hB
    clear hD hB
    have d0 := HD.out.cell0
    have d1 := HD.out.cell1
    have hT := HT.out j
    have HLj := Lib.hid (HLe.out j hj)
    rw [← hJ] at hT
    by_cases hlt : j < n
    · have hle : (J : Int) ≤ (n : Int) := by omega
      have HMk := Lib.hid (fun W => HM.out J (by omega) W)
      have hidx := HI.out J
      rw [HE.out] at hidx
      have HG := Lib.hid (fun W => gcd_any (wturnN n s j) J W HLj.out (by omega))
      have hJ1 : J ≤ 12 := by omega
      have HJ := Lib.hid hJ
      have zB := HB.out.size
      clear hJ
      cases hb : (wsetN n s J).testBit 0
      · rw [hb] at hT hidx
        have HTt : Hid (wturnN n s J = wturnN n s j) := Lib.hid (by simpa using hT)
        clear hT hb
        have hidx' : ∀ W, (Instr.index 58 (.agg (arrC (msetN n s J))) (.int .i64 0)).run Try.prog W = .ok (.int .i64 0) W := hidx
        clear hidx
        generalize wturnN n s j = t at *
        go_wp2_with fail
        refine (HMk.out _).mono ?_
        rintro e w2 ⟨rfl, hb2⟩
        have HD2 := Lib.hid (duo_below HD.out HD.out.lt hb2)
        have HB2 := Lib.hid (HB.out.trans (hb2.mono zB))
        clear hb2
        go_wp2
        go_roundw
        case rel => exact ⟨J, J + 1, rfl, by omega, by rw [HTt.out], by go_num, HD2.out, HB2.out⟩
        case measure => simp [intOf]; omega
      · rw [hb] at hT hidx
        have HTt : Hid (wturnN n s J = Nat.gcd (wturnN n s j) J) := Lib.hid (by simpa using hT)
        clear hT hb
        have hidx' : ∀ W, (Instr.index 58 (.agg (arrC (msetN n s J))) (.int .i64 0)).run Try.prog W = .ok (.int .i64 1) W := hidx
        clear hidx
        generalize wturnN n s j = t at *
        generalize Nat.gcd t J = g at *
        go_wp2_with fail
        refine (HMk.out _).mono ?_
        rintro e w2 ⟨rfl, hb2⟩
        have HD2 := Lib.hid (duo_below HD.out HD.out.lt hb2)
        have HB2 := Lib.hid (HB.out.trans (hb2.mono zB))
        clear hb2
        go_wp2_with fail
        refine (HG.out _).mono ?_
        rintro e w3 ⟨rfl, hb3⟩
        have HD3 := Lib.hid (duo_below HD2.out HD2.out.lt hb3)
        have HB3 := Lib.hid (HB2.out.trans (hb3.mono HB2.out.size))
        clear hb3
        go_wp2
        go_roundw
        case rel => exact ⟨J, J + 1, rfl, by omega, by rw [HTt.out], by go_num, HD3.out, HB3.out⟩
        case measure => simp [intOf]; omega
    · obtain rfl : j = n := by omega
      have hle : ¬ (J : Int) ≤ (j : Int) := by omega
      clear hT
      go_wp2
      go_ret
      exact ⟨rfl, HB.out⟩
/-- What the program answers of full sets. -/
def FullPost (n s : Nat) (e : Ending) : Prop :=
  (∃ k : Nat, k < n ∧ wsetN n s k = 2 ^ n - 1 ∧ (∀ j, j < k → wsetN n s j ≠ 2 ^ n - 1) ∧ e = .returned (.tuple #[.int .i64 (k : Int), .bool true])) ∨
  ((∀ j, j < n → wsetN n s j ≠ 2 ^ n - 1) ∧ e = .returned (.tuple #[.int .i64 0, .bool false]))
set_option maxHeartbeats 1000000 in
theorem full_any (n s : Nat) (w : World) (h1 : 1 ≤ n) (h2 : n ≤ 12) (hs : s < 2 ^ n) (h0 : s.testBit 0 = false) :
    Calls Try.prog 37 #[.agg #[.int .i64 (n:Int), .int .i64 (s:Int)]] w fun e w' => FullPost n s e ∧ Below w.heap.size w w' := by
  have hmx : Try.prog.follows .mixedOrders = true := by kernel_rfl
  have HD := Lib.hid (Duo.new w 41 (.int .i64 (n:Int)) (.int .i64 (s:Int)))
  have HB := Lib.hid ((Below.refl w.heap.size w).alloc (Nat.le_refl _) (.cells #[.int .i64 (n:Int), .int .i64 (s:Int)] 41))
  have HM := Lib.hid (fun k hk W => smarks_any n s k W h1 h2 hs h0 hk)
  have HA := Lib.hid (fun W => allMarked_any n W h1 h2)
  have HS := Lib.hid (fun k => mset_all n s k h1 h2)
  have HEq := Lib.hid (fun k b hb W => run_eqArr (msetN n s k) (allP n) W b hb)
  go_enter Try.func37, Try.ntmps37
  go_wp2_with fail
  refine (HA.out _).mono ?_
  rintro e w1 ⟨rfl, hb1⟩
  have hD1 := (duo_below HD.out HD.out.lt hb1).alloc (.cells (arrC fun _ => 0) 58)
  have hT1 := Arr.new w1 58 (fun _ => 0)
  have hB1 := (HB.out.trans (hb1.mono HB.out.size)).alloc (by have := HB.out.size; have := hb1.size; omega) (.cells (arrC fun _ => 0) 58)
  have z1 : w.heap.size < w1.heap.size := Nat.lt_of_lt_of_le HD.out.lt hb1.size
  rw [← zero_arr] at hD1 hT1 hB1
  have HT1 := Lib.hid hT1
  have HD2 := Lib.hid (hD1.same (setRow_other _ w1.heap.size (w.heap.size) (arrC (allP n)) (by omega)))
  have HT2 := Lib.hid (hT1.row (allP n))
  have HB2 := Lib.hid (row_below hB1 (show w.heap.size ≤ w1.heap.size by omega) (allP n))
  have d0 := HD2.out.cell0
  have d1 := HD2.out.cell1
  clear hD1 hT1 hB1 hb1 HD HB HA
  go_wp2_with (first
    | (refine wpList_storeArr _ rfl _ _ rfl w1.heap.size 58 (fun _ => 0) (allP n) rfl rfl HT1.out ?_)
    | go_in)
  obtain ⟨T, hT⟩ : ∃ T, w1.heap.size = T := ⟨_, rfl⟩
  rw [hT] at z1 HT1 HD2 HT2 HB2 ⊢
  obtain ⟨W0, hW0⟩ : ∃ W0, ((w1.alloc (.cells #[.int .i64 0, .int .i64 0, .int .i64 0, .int .i64 0, .int .i64 0, .int .i64 0, .int .i64 0, .int .i64 0, .int .i64 0, .int .i64 0, .int .i64 0, .int .i64 0] 58)).setRow T (arrC (allP n))) = W0 := ⟨_, rfl⟩
  rw [hW0] at HD2 HT2 HB2 ⊢
  clear hW0 HT1 d0 d1 hT
  go_loopw [12] (fun u wr => ∃ k : Nat, k ≤ n ∧ (∀ j, j < k → wsetN n s j ≠ 2 ^ n - 1) ∧ u = .int .i64 (k : Int) ∧ Duo wr w.heap.size 41 (.int .i64 (n:Int)) (.int .i64 (s:Int)) ∧ Arr wr T 58 (allP n) ∧ Below w.heap.size w wr) (fun u _ => n - (intOf u).toNat)
  case atStart => exact ⟨0, Nat.zero_le _, fun j hj => by omega, rfl, HD2.out, HT2.out, HB2.out⟩
  case round =>
    obtain ⟨k, hk, hno, rfl, hD, hT, hB⟩ := hrel
    clear HD2 HT2 HB2
    have HNo := Lib.hid hno
    have HD := Lib.hid hD
    have HT := Lib.hid hT
    have HB := Lib.hid hB
    clear hno hD hT hB
    by_cases hlt : k < n
    · have HMk := Lib.hid (fun W => HM.out k (by omega) W)
      have zB := HB.out.size
      go_wp2
      have hA0 : Duo wr.drew w.heap.size 41 (.int .i64 (n:Int)) (.int .i64 (s:Int)) ∧ Arr wr.drew T 58 (allP n) ∧ Below w.heap.size w wr.drew := ⟨HD.out, HT.out, HB.out.drew⟩
      refine wp_region_held_drew (S := fun W => Duo W w.heap.size 41 (.int .i64 (n:Int)) (.int .i64 (s:Int)) ∧ Arr W T 58 (allP n) ∧ Below w.heap.size w W) hmx hA0 (fun _ => ?_)
      generalize wr.drew = W1 at *
      refine take1 0 (v := ?_) rfl (by kernel_rfl) (by kernel_rfl) (by kernel_rfl) (fun _ _ _ h => h) (by rfl) ?_ hA0 ?_
      rotate_left
      · intro W9 hA
        have c0 := hA.1.cell0
        have c1 := hA.1.cell1
        clear hA
        go_simp
        try with_reducible rfl
      try simp only [Act.put, List.setIfInBounds_toArray, List.set_cons_zero, List.set_cons_succ]
      refine take1 1 (v := ?_) rfl (by kernel_rfl) (by kernel_rfl) (by kernel_rfl) (fun _ _ _ h => h) (by rfl) ?_ hA0 ?_
      rotate_left
      · intro W9 hA
        have c0 := hA.1.cell0
        have c1 := hA.1.cell1
        clear hA
        go_simp
        try with_reducible rfl
      try simp only [Act.put, List.setIfInBounds_toArray, List.set_cons_zero, List.set_cons_succ]
      refine take1 3 (v := .agg (arrC (allP n))) rfl (by kernel_rfl) (by kernel_rfl) (by kernel_rfl) (fun _ _ _ h => h) (by rfl) ?_ hA0 ?_
      · intro W9 hA
        have hl := run_loadArr hA.2.1
        show (execOp _ _).run _ _ = _
        simp only [execOp, Sem.run_bind]
        change ((Instr.loadAt 58 (.pointer (some ⟨T, 0, none⟩))).run Try.prog W9).andThen _ = _
        rw [hl]
        rfl
      try simp only [Act.put, List.setIfInBounds_toArray, List.set_cons_zero, List.set_cons_succ]
      refine step1 2 (by kernel_rfl) rfl (fun K hK => ?_)
      go_simp
      refine (HMk.out _).mono ?_
      rintro e W2 ⟨rfl, hb2⟩
      go_wp2_with fail
      have hA1 : Duo W2 w.heap.size 41 (.int .i64 (n:Int)) (.int .i64 (s:Int)) ∧ Arr W2 T 58 (allP n) ∧ Below w.heap.size w W2 := ⟨duo_below hA0.1 hA0.1.lt hb2, hA0.2.1.below hA0.2.1.lt hb2, hA0.2.2.trans (hb2.mono hA0.2.2.size)⟩
      refine hK.out _ _ hA1 ?_
      clear hK K
      try simp only [Act.put, List.setIfInBounds_toArray, List.set_cons_zero, List.set_cons_succ]
      by_cases hfull : wsetN n s k = 2 ^ n - 1
      · have heq := HEq.out k true ⟨fun _ => (HS.out k).2 hfull, fun _ => rfl⟩
        refine take1 4 (v := .bool true) rfl (by kernel_rfl) (by kernel_rfl) (by kernel_rfl) (fun _ _ _ h => h) (by rfl) ?_ hA1 ?_
        · intro W9 hA
          have hl := heq W9
          have hg := run_eqGuard_agg (P := Try.prog) W9 .eql 58 (Operand.tmp 17) (Operand.tmp 18) (arrC (msetN n s k)) (arrC (allP n)) (by kernel_rfl)
          show (execOp _ _).run _ _ = _
          simp only [execOp, Sem.run_bind]
          change ((((eqGuard .eql 58 (Operand.tmp 17) (Operand.tmp 18) (.agg (arrC (msetN n s k))) (.agg (arrC (allP n)))).run Try.prog W9).andThen fun _ w' => (binOp .eql 58 (.agg (arrC (msetN n s k))) (.agg (arrC (allP n)))).run Try.prog w').andThen _) = _
          rw [hg]
          simp only [Result.andThen_ok]
          rw [hl]
          rfl
        try simp only [Act.put, List.setIfInBounds_toArray, List.set_cons_zero, List.set_cons_succ]
        refine stop1 (by kernel_rfl) ?_
        go_wp2
        go_ret2
        exact ⟨.inl ⟨k, hlt, hfull, HNo.out, rfl⟩, hA1.2.2⟩
      · have heq := HEq.out k false ⟨fun h => (by cases h), fun h => absurd ((HS.out k).1 h) hfull⟩
        have HN2 : Hid (∀ j, j < k + 1 → wsetN n s j ≠ 2 ^ n - 1) := Lib.hid (fun j hj => by
          by_cases e : j = k
          · rw [e]; exact hfull
          · exact HNo.out j (by omega))
        refine take1 4 (v := .bool false) rfl (by kernel_rfl) (by kernel_rfl) (by kernel_rfl) (fun _ _ _ h => h) (by rfl) ?_ hA1 ?_
        · intro W9 hA
          have hl := heq W9
          have hg := run_eqGuard_agg (P := Try.prog) W9 .eql 58 (Operand.tmp 17) (Operand.tmp 18) (arrC (msetN n s k)) (arrC (allP n)) (by kernel_rfl)
          show (execOp _ _).run _ _ = _
          simp only [execOp, Sem.run_bind]
          change ((((eqGuard .eql 58 (Operand.tmp 17) (Operand.tmp 18) (.agg (arrC (msetN n s k))) (.agg (arrC (allP n)))).run Try.prog W9).andThen fun _ w' => (binOp .eql 58 (.agg (arrC (msetN n s k))) (.agg (arrC (allP n)))).run Try.prog w').andThen _) = _
          rw [hg]
          simp only [Result.andThen_ok]
          rw [hl]
          rfl
        try simp only [Act.put, List.setIfInBounds_toArray, List.set_cons_zero, List.set_cons_succ]
        refine stop1 (by kernel_rfl) ?_
        clear heq hfull
        go_wp2
        go_roundw
        case rel => exact ⟨k + 1, by omega, HN2.out, by go_num, hA1.1, hA1.2.1, hA1.2.2⟩
        case measure => simp [intOf]; omega
    · obtain rfl : k = n := by omega
      go_wp2
      go_ret2
      exact ⟨.inr ⟨HNo.out, rfl⟩, HB.out⟩
end Go.Proofs.Ytookciehnjnmnaa
