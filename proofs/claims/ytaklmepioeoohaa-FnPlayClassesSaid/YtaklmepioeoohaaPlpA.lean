/- Plays, the program's side: what a play is, and the small functions. Written by gen95.py. -/
import Derived.Test.YtaklmepioeoohaaPlpM
import Derived.Test.YtaklmepioeoohaaGC
import Derived.Test.YtaklmepioeoohaaGJ
import Derived.Test.YtaklmepioeoohaaPlyD
namespace Go.Proofs.Ytaklmepioeoohaa
open Go.RowKit Go.Shelf
set_option linter.unusedVariables false
theorem hasPlays_any (n : Nat) (w : World) (h2 : n ≤ 12) :
    Calls Try.prog 80 #[.agg #[.int .i64 (n:Int)]] w fun e w' => e = .returned (.bool (Nat.ble 3 n && Nat.beq (n % 2) 1)) ∧ Below w.heap.size w w' := by
  have e3 := odd_mod n
  have hm : n % 2 < 2 := Nat.mod_lt _ (by omega)
  by_cases h : 3 ≤ n
  · have HE : Hid ((((n % 2 : Nat) : Int) == 1) = (Nat.ble 3 n && Nat.beq (n % 2) 1)) := Lib.hid (by rw [Nat.ble_eq_true_of_le h, Bool.true_and]; exact cast_beq (n % 2) 1)
    have k1 : (n : Int) ≥ 3 := by omega
    have k2 : (3 : Int) ≤ (n : Int) := by omega
    have k3 : decide ((3 : Int) ≤ (n : Int)) = true := decide_eq_true k2
    generalize n % 2 = q at *
    go_enter Try.func80, Try.ntmps80
    go_wp2
    go_ret
    exact ⟨ret_bool (by first | exact HE.out | simpa using HE.out), (Below.refl _ _).alloc (Nat.le_refl _) _⟩
  · have HE : Hid (false = (Nat.ble 3 n && Nat.beq (n % 2) 1)) := Lib.hid (by
      cases hb : Nat.ble 3 n
      · rfl
      · exact absurd (Nat.le_of_ble_eq_true hb) h)
    have k1 : ¬ (n : Int) ≥ 3 := by omega
    have k2 : ¬ (3 : Int) ≤ (n : Int) := by omega
    have k3 : decide ((3 : Int) ≤ (n : Int)) = false := decide_eq_false k2
    generalize n % 2 = q at *
    go_enter Try.func80, Try.ntmps80
    go_wp2
    go_ret
    exact ⟨ret_bool HE.out, (Below.refl _ _).alloc (Nat.le_refl _) _⟩
set_option maxHeartbeats 1000000 in
theorem isPlay_any (n s : Nat) (w : World) (h1 : 1 ≤ n) (h2 : n ≤ 12) (hs : s < 2 ^ n) :
    Calls Try.prog 72 #[.agg #[.int .i64 (n:Int)], .int .i64 (s:Int)] w fun e w' => e = .returned (.bool (playB n s)) ∧ Below w.heap.size w w' := by
  have hmx : Try.prog.follows .mixedOrders = true := by kernel_rfl
  have hH := fun W => hasPlays_any n W h2
  have HT := Lib.hid (fun W => turn_any n s (-1) W h1 h2 hs (by omega) (by omega))
  have HO := Lib.hid (fun W => other_any n s W h1 h2 hs)
  have hE := isP_play n s h2 hs
  unfold isP at hE
  have hc := cast_beq (turnN n s (-1)) (otherN n s)
  generalize turnN n s (-1) = T at *
  generalize otherN n s = U at *
  generalize playB n s = b at *
  cases hh : (Nat.ble 3 n && Nat.beq (n % 2) 1)
  · rw [hh] at hH hE
    have HH := Lib.hid hH
    have HE : Hid (false = b) := Lib.hid (by exact hE)
    clear hH hE hh hc
    go_enter Try.func72, Try.ntmps72
    go_wp2_with fail
    have hA0 := Boxed.new w 42 (.int .i64 (n:Int))
    have hB0 : Below w.heap.size w (w.alloc (.cells #[.int .i64 (n:Int)] 42)) := (Below.refl _ _).alloc (Nat.le_refl _) _
    obtain ⟨W0, hW0⟩ : ∃ W0, w.alloc (.cells #[.int .i64 (n:Int)] 42) = W0 := ⟨_, rfl⟩
    rw [hW0] at hA0 hB0 ⊢
    clear hW0
    have hB0 : Below w.heap.size w W0.drew := hB0.drew
    have hA0 : Boxed W0.drew w.heap.size 42 (.int .i64 (n:Int)) := hA0
    refine wp_region_held_drew (S := fun W => Boxed W w.heap.size 42 (.int .i64 (n:Int))) hmx hA0 (fun _ => ?_)
    generalize W0.drew = W4 at *
    refine take1 0 (v := ?_) rfl (by kernel_rfl) (by kernel_rfl) (by kernel_rfl) (fun _ _ _ h => h) (by rfl) ?_ hA0 ?_
    rotate_left
    · intro W9 hA
      have hX := hA
      clear hA
      have c0 := hX.cell
      clear hX
      go_simp
      try with_reducible rfl
    try simp only [Act.put, List.setIfInBounds_toArray, List.set_cons_zero, List.set_cons_succ]
    refine step1 1 (by kernel_rfl) rfl (fun K hK => ?_)
    go_simp
    refine (HH.out _).mono ?_
    rintro e W1' ⟨rfl, hb1⟩
    go_wp2_with fail
    have hA1 := boxed_below hA0 hA0.lt hb1
    have hB1 := hB0.trans (hb1.mono hB0.size)
    refine hK.out _ _ hA1 ?_
    clear hK K
    try simp only [Act.put, List.setIfInBounds_toArray, List.set_cons_zero, List.set_cons_succ]
    refine take1 2 (v := ?_) rfl (by kernel_rfl) (by kernel_rfl) (by kernel_rfl) (fun _ _ _ h => h) (by rfl) ?_ hA1 ?_
    rotate_left
    · intro W9 hA
      have hX := hA
      clear hA
      have c0 := hX.cell
      clear hX
      go_simp
      try with_reducible rfl
    try simp only [Act.put, List.setIfInBounds_toArray, List.set_cons_zero, List.set_cons_succ]
    refine take0 3 rfl (by kernel_rfl) (by kernel_rfl) (by kernel_rfl) (fun _ _ _ h => h) (by rfl) hA1 ?_
    try simp only [Act.put, List.setIfInBounds_toArray, List.set_cons_zero, List.set_cons_succ]
    refine take0 4 rfl (by kernel_rfl) (by kernel_rfl) (by kernel_rfl) (fun _ _ _ h => h) (by rfl) hA1 ?_
    try simp only [Act.put, List.setIfInBounds_toArray, List.set_cons_zero, List.set_cons_succ]
    refine take0 6 rfl (by kernel_rfl) (by kernel_rfl) (by kernel_rfl) (fun _ _ _ h => h) (by rfl) hA1 ?_
    try simp only [Act.put, List.setIfInBounds_toArray, List.set_cons_zero, List.set_cons_succ]
    refine take0 7 rfl (by kernel_rfl) (by kernel_rfl) (by kernel_rfl) (fun _ _ _ h => h) (by rfl) hA1 ?_
    try simp only [Act.put, List.setIfInBounds_toArray, List.set_cons_zero, List.set_cons_succ]
    refine take0 8 rfl (by kernel_rfl) (by kernel_rfl) (by kernel_rfl) (fun _ _ _ h => h) (by rfl) hA1 ?_
    try simp only [Act.put, List.setIfInBounds_toArray, List.set_cons_zero, List.set_cons_succ]
    refine take0 5 rfl (by kernel_rfl) (by kernel_rfl) (by kernel_rfl) (fun _ _ _ h => h) (by rfl) hA1 ?_
    try simp only [Act.put, List.setIfInBounds_toArray, List.set_cons_zero, List.set_cons_succ]
    refine take0 9 rfl (by kernel_rfl) (by kernel_rfl) (by kernel_rfl) (fun _ _ _ h => h) (by rfl) hA1 ?_
    try simp only [Act.put, List.setIfInBounds_toArray, List.set_cons_zero, List.set_cons_succ]
    refine take0 10 rfl (by kernel_rfl) (by kernel_rfl) (by kernel_rfl) (fun _ _ _ h => h) (by rfl) hA1 ?_
    try simp only [Act.put, List.setIfInBounds_toArray, List.set_cons_zero, List.set_cons_succ]
    refine take1 11 (v := ?_) rfl (by kernel_rfl) (by kernel_rfl) (by kernel_rfl) (fun _ _ _ h => h) (by rfl) ?_ hA1 ?_
    rotate_left
    · intro W9 hA
      have hX := hA
      clear hA
      have c0 := hX.cell
      clear hX
      go_simp
      try with_reducible rfl
    try simp only [Act.put, List.setIfInBounds_toArray, List.set_cons_zero, List.set_cons_succ]
    refine take1 12 (v := ?_) rfl (by kernel_rfl) (by kernel_rfl) (by kernel_rfl) (fun _ _ _ h => h) (by rfl) ?_ hA1 ?_
    rotate_left
    · intro W9 hA
      have hX := hA
      clear hA
      have c0 := hX.cell
      clear hX
      go_simp
      try with_reducible rfl
    try simp only [Act.put, List.setIfInBounds_toArray, List.set_cons_zero, List.set_cons_succ]
    refine stop1 (by kernel_rfl) ?_
    go_wp2
    go_ret
    exact ⟨ret_bool (by first | exact HE.out | simpa using HE.out), hB1⟩
  · rw [hh] at hH hE
    have HH := Lib.hid hH
    have HE : Hid (((T : Int) == (U : Int)) = b) := Lib.hid (by rw [hc]; exact hE)
    clear hH hE hh hc
    go_enter Try.func72, Try.ntmps72
    go_wp2_with fail
    have hA0 := Boxed.new w 42 (.int .i64 (n:Int))
    have hB0 : Below w.heap.size w (w.alloc (.cells #[.int .i64 (n:Int)] 42)) := (Below.refl _ _).alloc (Nat.le_refl _) _
    obtain ⟨W0, hW0⟩ : ∃ W0, w.alloc (.cells #[.int .i64 (n:Int)] 42) = W0 := ⟨_, rfl⟩
    rw [hW0] at hA0 hB0 ⊢
    clear hW0
    have hB0 : Below w.heap.size w W0.drew := hB0.drew
    have hA0 : Boxed W0.drew w.heap.size 42 (.int .i64 (n:Int)) := hA0
    refine wp_region_held_drew (S := fun W => Boxed W w.heap.size 42 (.int .i64 (n:Int))) hmx hA0 (fun _ => ?_)
    generalize W0.drew = W4 at *
    refine take1 0 (v := ?_) rfl (by kernel_rfl) (by kernel_rfl) (by kernel_rfl) (fun _ _ _ h => h) (by rfl) ?_ hA0 ?_
    rotate_left
    · intro W9 hA
      have hX := hA
      clear hA
      have c0 := hX.cell
      clear hX
      go_simp
      try with_reducible rfl
    try simp only [Act.put, List.setIfInBounds_toArray, List.set_cons_zero, List.set_cons_succ]
    refine step1 1 (by kernel_rfl) rfl (fun K hK => ?_)
    go_simp
    refine (HH.out _).mono ?_
    rintro e W1' ⟨rfl, hb1⟩
    go_wp2_with fail
    have hA1 := boxed_below hA0 hA0.lt hb1
    have hB1 := hB0.trans (hb1.mono hB0.size)
    refine hK.out _ _ hA1 ?_
    clear hK K
    try simp only [Act.put, List.setIfInBounds_toArray, List.set_cons_zero, List.set_cons_succ]
    refine take1 2 (v := ?_) rfl (by kernel_rfl) (by kernel_rfl) (by kernel_rfl) (fun _ _ _ h => h) (by rfl) ?_ hA1 ?_
    rotate_left
    · intro W9 hA
      have hX := hA
      clear hA
      have c0 := hX.cell
      clear hX
      go_simp
      try with_reducible rfl
    try simp only [Act.put, List.setIfInBounds_toArray, List.set_cons_zero, List.set_cons_succ]
    refine take1 3 (v := ?_) rfl (by kernel_rfl) (by kernel_rfl) (by kernel_rfl) (fun _ _ _ h => h) (by rfl) ?_ hA1 ?_
    rotate_left
    · intro W9 hA
      have hX := hA
      clear hA
      have c0 := hX.cell
      clear hX
      go_simp
      try with_reducible rfl
    try simp only [Act.put, List.setIfInBounds_toArray, List.set_cons_zero, List.set_cons_succ]
    refine take1 4 (v := ?_) rfl (by kernel_rfl) (by kernel_rfl) (by kernel_rfl) (fun _ _ _ h => h) (by rfl) ?_ hA1 ?_
    rotate_left
    · intro W9 hA
      have hX := hA
      clear hA
      have c0 := hX.cell
      clear hX
      go_simp
      try with_reducible rfl
    try simp only [Act.put, List.setIfInBounds_toArray, List.set_cons_zero, List.set_cons_succ]
    refine take1 6 (v := ?_) rfl (by kernel_rfl) (by kernel_rfl) (by kernel_rfl) (fun _ _ _ h => h) (by rfl) ?_ hA1 ?_
    rotate_left
    · intro W9 hA
      have hX := hA
      clear hA
      have c0 := hX.cell
      clear hX
      go_simp
      try with_reducible rfl
    try simp only [Act.put, List.setIfInBounds_toArray, List.set_cons_zero, List.set_cons_succ]
    refine take1 7 (v := ?_) rfl (by kernel_rfl) (by kernel_rfl) (by kernel_rfl) (fun _ _ _ h => h) (by rfl) ?_ hA1 ?_
    rotate_left
    · intro W9 hA
      have hX := hA
      clear hA
      have c0 := hX.cell
      clear hX
      go_simp
      try with_reducible rfl
    try simp only [Act.put, List.setIfInBounds_toArray, List.set_cons_zero, List.set_cons_succ]
    refine take1 8 (v := ?_) rfl (by kernel_rfl) (by kernel_rfl) (by kernel_rfl) (fun _ _ _ h => h) (by rfl) ?_ hA1 ?_
    rotate_left
    · intro W9 hA
      have hX := hA
      clear hA
      have c0 := hX.cell
      clear hX
      go_simp
      try with_reducible rfl
    try simp only [Act.put, List.setIfInBounds_toArray, List.set_cons_zero, List.set_cons_succ]
    refine step1 5 (by kernel_rfl) rfl (fun K hK => ?_)
    go_simp
    refine (HT.out _).mono ?_
    rintro e W2' ⟨rfl, hb2⟩
    go_wp2_with fail
    have hA2 := boxed_below hA1 hA1.lt hb2
    have hB2 := hB1.trans (hb2.mono hB1.size)
    refine hK.out _ _ hA2 ?_
    clear hK K
    try simp only [Act.put, List.setIfInBounds_toArray, List.set_cons_zero, List.set_cons_succ]
    refine step1 9 (by kernel_rfl) rfl (fun K hK => ?_)
    go_simp
    refine (HO.out _).mono ?_
    rintro e W3' ⟨rfl, hb3⟩
    go_wp2_with fail
    have hA3 := boxed_below hA2 hA2.lt hb3
    have hB3 := hB2.trans (hb3.mono hB2.size)
    refine hK.out _ _ hA3 ?_
    clear hK K
    try simp only [Act.put, List.setIfInBounds_toArray, List.set_cons_zero, List.set_cons_succ]
    refine take1 10 (v := ?_) rfl (by kernel_rfl) (by kernel_rfl) (by kernel_rfl) (fun _ _ _ h => h) (by rfl) ?_ hA3 ?_
    rotate_left
    · intro W9 hA
      have hX := hA
      clear hA
      have c0 := hX.cell
      clear hX
      go_simp
      try with_reducible rfl
    try simp only [Act.put, List.setIfInBounds_toArray, List.set_cons_zero, List.set_cons_succ]
    refine take1 11 (v := ?_) rfl (by kernel_rfl) (by kernel_rfl) (by kernel_rfl) (fun _ _ _ h => h) (by rfl) ?_ hA3 ?_
    rotate_left
    · intro W9 hA
      have hX := hA
      clear hA
      have c0 := hX.cell
      clear hX
      go_simp
      try with_reducible rfl
    try simp only [Act.put, List.setIfInBounds_toArray, List.set_cons_zero, List.set_cons_succ]
    refine take1 12 (v := ?_) rfl (by kernel_rfl) (by kernel_rfl) (by kernel_rfl) (fun _ _ _ h => h) (by rfl) ?_ hA3 ?_
    rotate_left
    · intro W9 hA
      have hX := hA
      clear hA
      have c0 := hX.cell
      clear hX
      go_simp
      try with_reducible rfl
    try simp only [Act.put, List.setIfInBounds_toArray, List.set_cons_zero, List.set_cons_succ]
    refine stop1 (by kernel_rfl) ?_
    go_wp2
    go_ret
    exact ⟨ret_bool (by first | exact HE.out | simpa using HE.out), hB3⟩
theorem playOf_no (n s : Int) (w : World) (h : NoPlay n s) :
    Calls Try.prog 42 #[.int .i64 n, .int .i64 s] w fun e w' => e = .returned (.tuple #[.agg #[.int .i64 0, .int .i64 0], .bool false]) ∧ Below w.heap.size w w' := by
  by_cases hn : NoStep n s
  · have HO := Lib.hid (fun W => stepsOf_no n s W hn)
    clear h hn
    go_enter Try.func42, Try.ntmps42
    go_wp2_with fail
    have hR0 := Duo.new w 47 (.int .i64 0) (.int .i64 0)
    have hB0 : Below w.heap.size w (w.alloc (.cells #[.int .i64 0, .int .i64 0] 47)) := (Below.refl _ _).alloc (Nat.le_refl _) _
    have hz0 : (w.alloc (.cells #[.int .i64 0, .int .i64 0] 47)).heap.size = w.heap.size + 1 := by simp
    obtain ⟨W0, hW0⟩ : ∃ W0, w.alloc (.cells #[.int .i64 0, .int .i64 0] 47) = W0 := ⟨_, rfl⟩
    rw [hW0] at hR0 hB0 hz0 ⊢
    clear hW0
    refine (HO.out _).mono ?_
    rintro e w1 ⟨rfl, hb1⟩
    have hR1 := duo_below hR0 hR0.lt hb1
    have hB1 := hB0.trans (hb1.mono hB0.size)
    have z1 := hb1.size
    clear hb1 hR0 hB0
    have f0 := duoFrozen hR1 0
    have f1 := duoFrozen hR1 1
    have r0 := hR1.cell0
    have r1 := hR1.cell1
    have l3 := hR1.lt
    go_wp2
    refine bodyPost_ret (v := .tuple #[.agg #[.int .i64 0, .int .i64 0], .bool false]) ?_ rfl ⟨rfl, ?_⟩
    · simp [results, Try.results42, go_sem, r0, r1, l3]
    · first
      | exact ((hB1.setCell (p := ⟨w.heap.size, 0, none⟩) (Nat.le_refl _) _).setCell (p := ⟨w.heap.size, 1, none⟩) (Nat.le_refl _) _)
      | exact (((hB1.alloc (by omega) _).setCell (p := ⟨w.heap.size, 0, none⟩) (Nat.le_refl _) _).setCell (p := ⟨w.heap.size, 1, none⟩) (Nat.le_refl _) _)
      | exact ((hB1.setCell (p := ⟨w.heap.size, 0, none⟩) (Nat.le_refl _) _).setCell (p := ⟨w.heap.size, 1, none⟩) (Nat.le_refl _) _).alloc (by simp; omega) _
  · obtain ⟨m, t, rfl, rfl, a, b, c, d⟩ := not_noStep hn
    have hp : playB m t = false := by
      cases hb : playB m t
      · rfl
      · exact absurd ⟨m, t, rfl, rfl, b, c, hb⟩ h
    have HO := Lib.hid (fun W => stepsOf_yes m t W a b c d)
    have hP := fun W => isPlay_any m t W a b c
    rw [hp] at hP
    have HP := Lib.hid hP
    clear h hn hp hP c d
    go_enter Try.func42, Try.ntmps42
    go_wp2_with fail
    have hR0 := Duo.new w 47 (.int .i64 0) (.int .i64 0)
    have hB0 : Below w.heap.size w (w.alloc (.cells #[.int .i64 0, .int .i64 0] 47)) := (Below.refl _ _).alloc (Nat.le_refl _) _
    have hz0 : (w.alloc (.cells #[.int .i64 0, .int .i64 0] 47)).heap.size = w.heap.size + 1 := by simp
    obtain ⟨W0, hW0⟩ : ∃ W0, w.alloc (.cells #[.int .i64 0, .int .i64 0] 47) = W0 := ⟨_, rfl⟩
    rw [hW0] at hR0 hB0 hz0 ⊢
    clear hW0
    refine (HO.out _).mono ?_
    rintro e w1 ⟨rfl, hb1⟩
    have hR1 := duo_below hR0 hR0.lt hb1
    have hB1 := hB0.trans (hb1.mono hB0.size)
    have z1 := hb1.size
    clear hb1 hR0 hB0
    have hR2 := hR1.alloc (.cells #[.int .i64 (m:Int), .int .i64 (t:Int)] 45)
    have hT2 := Duo.new w1 45 (.int .i64 (m:Int)) (.int .i64 (t:Int))
    have hB2 := hB1.alloc (by omega) (.cells #[.int .i64 (m:Int), .int .i64 (t:Int)] 45)
    have e2 : (w1.alloc (.cells #[.int .i64 (m:Int), .int .i64 (t:Int)] 45)).heap.size = w1.heap.size + 1 := by simp
    have c0 := hT2.cell0
    have c1 := hT2.cell1
    go_wp2_with (go_at_call 72; refine (HP.out _).mono ?_; rintro e w3 ⟨rfl, hb3⟩; have hR3 := duo_below hR2 hR2.lt hb3; have hT3 := duo_below hT2 hT2.lt hb3; have hB3 := hB2.trans (hb3.mono (by omega)); have d0 := hT3.cell0; have d1 := hT3.cell1; have f0 := duoFrozen hR3 0; have f1 := duoFrozen hR3 1; have r0 := hR3.cell0; have r1 := hR3.cell1; have l3 := hR3.lt)
    refine bodyPost_ret (v := .tuple #[.agg #[.int .i64 0, .int .i64 0], .bool false]) ?_ rfl ⟨rfl, ?_⟩
    · simp [results, Try.results42, go_sem, r0, r1]
    · first
      | exact ((hB3.setCell (p := ⟨w.heap.size, 0, none⟩) (Nat.le_refl _) _).setCell (p := ⟨w.heap.size, 1, none⟩) (Nat.le_refl _) _)
      | exact (((hB3.alloc (by omega) _).setCell (p := ⟨w.heap.size, 0, none⟩) (Nat.le_refl _) _).setCell (p := ⟨w.heap.size, 1, none⟩) (Nat.le_refl _) _)
      | exact ((hB3.setCell (p := ⟨w.heap.size, 0, none⟩) (Nat.le_refl _) _).setCell (p := ⟨w.heap.size, 1, none⟩) (Nat.le_refl _) _).alloc (by simp; omega) _
theorem playOf_yes (n s : Nat) (w : World) (h2 : n ≤ 12) (hs : s < 2 ^ n) (hp : playB n s = true) :
    Calls Try.prog 42 #[.int .i64 (n:Int), .int .i64 (s:Int)] w fun e w' => e = .returned (.tuple #[.agg #[.int .i64 (n:Int), .int .i64 (s:Int)], .bool true]) ∧ Below w.heap.size w w' := by
  obtain ⟨p1, p2, p3, _, _⟩ := (play_iff n s).1 hp
  have HO := Lib.hid (fun W => stepsOf_yes n s W (by omega) h2 hs p3)
  have hP := fun W => isPlay_any n s W (by omega) h2 hs
  rw [hp] at hP
  have HP := Lib.hid hP
  clear hp hP hs p3 p2
  go_enter Try.func42, Try.ntmps42
  go_wp2_with fail
  have hR0 := Duo.new w 47 (.int .i64 0) (.int .i64 0)
  have hB0 : Below w.heap.size w (w.alloc (.cells #[.int .i64 0, .int .i64 0] 47)) := (Below.refl _ _).alloc (Nat.le_refl _) _
  have hz0 : (w.alloc (.cells #[.int .i64 0, .int .i64 0] 47)).heap.size = w.heap.size + 1 := by simp
  obtain ⟨W0, hW0⟩ : ∃ W0, w.alloc (.cells #[.int .i64 0, .int .i64 0] 47) = W0 := ⟨_, rfl⟩
  rw [hW0] at hR0 hB0 hz0 ⊢
  clear hW0
  refine (HO.out _).mono ?_
  rintro e w1 ⟨rfl, hb1⟩
  have hR1 := duo_below hR0 hR0.lt hb1
  have hB1 := hB0.trans (hb1.mono hB0.size)
  have z1 := hb1.size
  clear hb1 hR0 hB0
  have hR2 := hR1.alloc (.cells #[.int .i64 (n:Int), .int .i64 (s:Int)] 45)
  have hT2 := Duo.new w1 45 (.int .i64 (n:Int)) (.int .i64 (s:Int))
  have hB2 := hB1.alloc (by omega) (.cells #[.int .i64 (n:Int), .int .i64 (s:Int)] 45)
  have e2 : (w1.alloc (.cells #[.int .i64 (n:Int), .int .i64 (s:Int)] 45)).heap.size = w1.heap.size + 1 := by simp
  have c0 := hT2.cell0
  have c1 := hT2.cell1
  go_wp2_with (go_at_call 72; refine (HP.out _).mono ?_; rintro e w3 ⟨rfl, hb3⟩; have hR3 := duo_below hR2 hR2.lt hb3; have hT3 := duo_below hT2 hT2.lt hb3; have hB3 := hB2.trans (hb3.mono (by omega)); have d0 := hT3.cell0; have d1 := hT3.cell1; have f0 := duoFrozen hR3 0; have f1 := duoFrozen hR3 1; have r0 := hR3.cell0; have r1 := hR3.cell1; have l3 := hR3.lt)
  refine bodyPost_ret (v := .tuple #[.agg #[.int .i64 (n:Int), .int .i64 (s:Int)], .bool true]) ?_ rfl ⟨rfl, ?_⟩
  · simp [results, Try.results42, go_sem, r0, r1]
  · first
    | exact ((hB3.setCell (p := ⟨w.heap.size, 0, none⟩) (Nat.le_refl _) _).setCell (p := ⟨w.heap.size, 1, none⟩) (Nat.le_refl _) _)
    | exact (((hB3.alloc (by omega) _).setCell (p := ⟨w.heap.size, 0, none⟩) (Nat.le_refl _) _).setCell (p := ⟨w.heap.size, 1, none⟩) (Nat.le_refl _) _)
    | exact ((hB3.setCell (p := ⟨w.heap.size, 0, none⟩) (Nat.le_refl _) _).setCell (p := ⟨w.heap.size, 1, none⟩) (Nat.le_refl _) _).alloc (by simp; omega) _
theorem playRingOf_yes (n : Nat) (w : World) (h1 : 3 ≤ n) (h2 : n ≤ 11) (h3 : n % 2 = 1) :
    Calls Try.prog 52 #[.int .i64 (n:Int)] w fun e w' => e = .returned (.tuple #[.agg #[.int .i64 (n:Int)], .bool true]) ∧ Below w.heap.size w w' := by
  have HO := Lib.hid (fun W => ringOf_nil n W (by omega) (by omega))
  have hH := fun W => hasPlays_any n W (by omega)
  rw [Nat.ble_eq_true_of_le h1, h3] at hH
  have HH := Lib.hid hH
  clear hH h3
  go_enter Try.func52, Try.ntmps52
  go_wp2_with fail
  have hR0 := Boxed.new w 42 (.int .i64 0)
  have hB0 : Below w.heap.size w (w.alloc (.cells #[.int .i64 0] 42)) := (Below.refl _ _).alloc (Nat.le_refl _) _
  have hz0 : (w.alloc (.cells #[.int .i64 0] 42)).heap.size = w.heap.size + 1 := by simp
  obtain ⟨W0, hW0⟩ : ∃ W0, w.alloc (.cells #[.int .i64 0] 42) = W0 := ⟨_, rfl⟩
  rw [hW0] at hR0 hB0 hz0 ⊢
  clear hW0
  refine (HO.out _).mono ?_
  rintro e w1 ⟨rfl, hb1⟩
  have hR1 := boxed_below hR0 hR0.lt hb1
  have hB1 := hB0.trans (hb1.mono hB0.size)
  have z1 := hb1.size
  clear hb1 hR0 hB0
  have hR2 := hR1.alloc (.cells #[.int .i64 (n:Int)] 42)
  have hT2 := Boxed.new w1 42 (.int .i64 (n:Int))
  have hB2 := hB1.alloc (by omega) (.cells #[.int .i64 (n:Int)] 42)
  have e2 : (w1.alloc (.cells #[.int .i64 (n:Int)] 42)).heap.size = w1.heap.size + 1 := by simp
  have c0 := hT2.cell
  go_wp2_with (go_at_call 80; refine (HH.out _).mono ?_; rintro e w3 ⟨rfl, hb3⟩; have hR3 := boxed_below hR2 hR2.lt hb3; have hT3 := boxed_below hT2 hT2.lt hb3; have hB3 := hB2.trans (hb3.mono (by omega)); have d0 := hT3.cell; have f0 := hR3.frozen; have r0 := hR3.cell; have l3 := hR3.lt)
  refine bodyPost_ret (v := .tuple #[.agg #[.int .i64 (n:Int)], .bool true]) ?_ rfl ⟨rfl, ?_⟩
  · simp [results, Try.results52, go_sem, r0]
  · first
    | exact hB3.setCell (p := ⟨w.heap.size, 0, none⟩) (Nat.le_refl _) _
    | exact (hB3.alloc (by omega) _).setCell (p := ⟨w.heap.size, 0, none⟩) (Nat.le_refl _) _
    | exact (hB3.setCell (p := ⟨w.heap.size, 0, none⟩) (Nat.le_refl _) _).alloc (by simp; omega) _
theorem playRingOf_no (n : Int) (w : World) (h : ¬ AllIn n) :
    Calls Try.prog 52 #[.int .i64 n] w fun e w' => e = .returned (.tuple #[.agg #[.int .i64 0], .bool false]) ∧ Below w.heap.size w w' := by
  by_cases hn : 1 ≤ n ∧ n ≤ 12
  · obtain ⟨m, rfl⟩ : ∃ m : Nat, n = (m : Int) := ⟨n.toNat, by omega⟩
    have h1 : 1 ≤ m := by omega
    have h2 : m ≤ 12 := by omega
    have HO := Lib.hid (fun W => ringOf_nil m W h1 h2)
    have hH := fun W => hasPlays_any m W h2
    have hz : (Nat.ble 3 m && Nat.beq (m % 2) 1) = false := by
      cases hb : (Nat.ble 3 m && Nat.beq (m % 2) 1)
      · rfl
      · rw [Bool.and_eq_true] at hb
        have a := Nat.le_of_ble_eq_true hb.1
        have b := Nat.eq_of_beq_eq_true hb.2
        exact absurd ⟨m, rfl, a, by omega, b⟩ h
    rw [hz] at hH
    have HH := Lib.hid hH
    clear hH hz h hn
    go_enter Try.func52, Try.ntmps52
    go_wp2_with fail
    have hR0 := Boxed.new w 42 (.int .i64 0)
    have hB0 : Below w.heap.size w (w.alloc (.cells #[.int .i64 0] 42)) := (Below.refl _ _).alloc (Nat.le_refl _) _
    have hz0 : (w.alloc (.cells #[.int .i64 0] 42)).heap.size = w.heap.size + 1 := by simp
    obtain ⟨W0, hW0⟩ : ∃ W0, w.alloc (.cells #[.int .i64 0] 42) = W0 := ⟨_, rfl⟩
    rw [hW0] at hR0 hB0 hz0 ⊢
    clear hW0
    refine (HO.out _).mono ?_
    rintro e w1 ⟨rfl, hb1⟩
    have hR1 := boxed_below hR0 hR0.lt hb1
    have hB1 := hB0.trans (hb1.mono hB0.size)
    have z1 := hb1.size
    clear hb1 hR0 hB0
    have hR2 := hR1.alloc (.cells #[.int .i64 (m:Int)] 42)
    have hT2 := Boxed.new w1 42 (.int .i64 (m:Int))
    have hB2 := hB1.alloc (by omega) (.cells #[.int .i64 (m:Int)] 42)
    have e2 : (w1.alloc (.cells #[.int .i64 (m:Int)] 42)).heap.size = w1.heap.size + 1 := by simp
    have c0 := hT2.cell
    go_wp2_with (go_at_call 80; refine (HH.out _).mono ?_; rintro e w3 ⟨rfl, hb3⟩; have hR3 := boxed_below hR2 hR2.lt hb3; have hT3 := boxed_below hT2 hT2.lt hb3; have hB3 := hB2.trans (hb3.mono (by omega)); have d0 := hT3.cell; have f0 := hR3.frozen; have r0 := hR3.cell; have l3 := hR3.lt)
    refine bodyPost_ret (v := .tuple #[.agg #[.int .i64 0], .bool false]) ?_ rfl ⟨rfl, ?_⟩
    · simp [results, Try.results52, go_sem, r0]
    · first
      | exact hB3.setCell (p := ⟨w.heap.size, 0, none⟩) (Nat.le_refl _) _
      | exact (hB3.alloc (by omega) _).setCell (p := ⟨w.heap.size, 0, none⟩) (Nat.le_refl _) _
      | exact (hB3.setCell (p := ⟨w.heap.size, 0, none⟩) (Nat.le_refl _) _).alloc (by simp; omega) _
  · have HO := Lib.hid (fun W => ringOf_out n (.slice none 0 0) W hn)
    clear h hn
    go_enter Try.func52, Try.ntmps52
    go_wp2_with fail
    have hR0 := Boxed.new w 42 (.int .i64 0)
    have hB0 : Below w.heap.size w (w.alloc (.cells #[.int .i64 0] 42)) := (Below.refl _ _).alloc (Nat.le_refl _) _
    have hz0 : (w.alloc (.cells #[.int .i64 0] 42)).heap.size = w.heap.size + 1 := by simp
    obtain ⟨W0, hW0⟩ : ∃ W0, w.alloc (.cells #[.int .i64 0] 42) = W0 := ⟨_, rfl⟩
    rw [hW0] at hR0 hB0 hz0 ⊢
    clear hW0
    refine (HO.out _).mono ?_
    rintro e w1 ⟨rfl, hb1⟩
    have hR1 := boxed_below hR0 hR0.lt hb1
    have hB1 := hB0.trans (hb1.mono hB0.size)
    have z1 := hb1.size
    clear hb1 hR0 hB0
    have f0 := hR1.frozen
    have r0 := hR1.cell
    have l3 := hR1.lt
    go_wp2
    refine bodyPost_ret (v := .tuple #[.agg #[.int .i64 0], .bool false]) ?_ rfl ⟨rfl, ?_⟩
    · simp [results, Try.results52, go_sem, r0, l3]
    · first
      | exact hB1.setCell (p := ⟨w.heap.size, 0, none⟩) (Nat.le_refl _) _
      | exact (hB1.alloc (by omega) _).setCell (p := ⟨w.heap.size, 0, none⟩) (Nat.le_refl _) _
      | exact (hB1.setCell (p := ⟨w.heap.size, 0, none⟩) (Nat.le_refl _) _).alloc (by simp; omega) _
theorem threes_any (n s : Nat) (w : World) (h2 : n ≤ 12) (hs : s < 2 ^ n) (hp : playB n s = true) :
    Calls Try.prog 56 #[.agg #[.int .i64 (n:Int), .int .i64 (s:Int)]] w fun e w' => e = .returned (.int .i64 ((threeN n s : Nat) : Int)) ∧ Below w.heap.size w w' := by
  have ht := (play_says n s h2 hs hp).2.2.1
  have h3 := ((play_iff n s).1 hp).1
  have hq : threeN n s = (n + 1) * n * (n - 1) / 24 := by omega
  rw [hq]
  have hn : n = 3 ∨ n = 4 ∨ n = 5 ∨ n = 6 ∨ n = 7 ∨ n = 8 ∨ n = 9 ∨ n = 10 ∨ n = 11 ∨ n = 12 := by omega
  clear hp hs h2 h3 ht hq
  rcases hn with rfl | rfl | rfl | rfl | rfl | rfl | rfl | rfl | rfl | rfl
  all_goals
    go_enter Try.func56, Try.ntmps56
    go_wp2
    go_ret
    exact ⟨rfl, (Below.refl _ _).alloc (Nat.le_refl _) _⟩
set_option maxHeartbeats 1000000 in
theorem twice_any (n s : Nat) (w : World) (h2 : n ≤ 12) (hs : s < 2 ^ n) (hp : playB n s = true) :
    Calls Try.prog 58 #[.agg #[.int .i64 (n:Int), .int .i64 (s:Int)]] w fun e w' => e = .returned (.int .i64 ((twiceN n s : Nat) : Int)) ∧ Below w.heap.size w w' := by
  have hmx : Try.prog.follows .mixedOrders = true := by kernel_rfl
  have h3 := ((play_iff n s).1 hp).1
  have hS := fun W => sum_any n s (s ||| 1) W (by omega) h2 hs (or_one_lt n s (by omega) hs)
  rw [twice_sum n s h2 hs hp] at hS
  have HS := Lib.hid hS
  have HW := Lib.hid (fun W => watched_any n s W (by omega) h2 hs)
  clear hS
  generalize twiceN n s = q at *
  generalize s ||| 1 = y at *
  clear hs hp
  go_enter Try.func58, Try.ntmps58
  go_wp2_with fail
  have hA0 := Duo.new w 47 (.int .i64 (n:Int)) (.int .i64 (s:Int))
  have hB0 : Below w.heap.size w (w.alloc (.cells #[.int .i64 (n:Int), .int .i64 (s:Int)] 47)) := (Below.refl _ _).alloc (Nat.le_refl _) _
  obtain ⟨W0, hW0⟩ : ∃ W0, w.alloc (.cells #[.int .i64 (n:Int), .int .i64 (s:Int)] 47) = W0 := ⟨_, rfl⟩
  rw [hW0] at hA0 hB0 ⊢
  clear hW0
  have hB0 : Below w.heap.size w W0.drew := hB0.drew
  have hA0 : Duo W0.drew w.heap.size 47 (.int .i64 (n:Int)) (.int .i64 (s:Int)) := hA0
  refine wp_region_held_drew (S := fun W => Duo W w.heap.size 47 (.int .i64 (n:Int)) (.int .i64 (s:Int))) hmx hA0 (fun _ => ?_)
  generalize W0.drew = W4 at *
  refine take1 0 (v := ?_) rfl (by kernel_rfl) (by kernel_rfl) (by kernel_rfl) (fun _ _ _ h => h) (by rfl) ?_ hA0 ?_
  rotate_left
  · intro W9 hA
    have hX := hA
    clear hA
    have c0 := hX.cell0
    have c1 := hX.cell1
    clear hX
    go_simp
    try with_reducible rfl
  try simp only [Act.put, List.setIfInBounds_toArray, List.set_cons_zero, List.set_cons_succ]
  refine take1 1 (v := ?_) rfl (by kernel_rfl) (by kernel_rfl) (by kernel_rfl) (fun _ _ _ h => h) (by rfl) ?_ hA0 ?_
  rotate_left
  · intro W9 hA
    have hX := hA
    clear hA
    have c0 := hX.cell0
    have c1 := hX.cell1
    clear hX
    go_simp
    try with_reducible rfl
  try simp only [Act.put, List.setIfInBounds_toArray, List.set_cons_zero, List.set_cons_succ]
  refine take1 2 (v := ?_) rfl (by kernel_rfl) (by kernel_rfl) (by kernel_rfl) (fun _ _ _ h => h) (by rfl) ?_ hA0 ?_
  rotate_left
  · intro W9 hA
    have hX := hA
    clear hA
    have c0 := hX.cell0
    have c1 := hX.cell1
    clear hX
    go_simp
    try with_reducible rfl
  try simp only [Act.put, List.setIfInBounds_toArray, List.set_cons_zero, List.set_cons_succ]
  refine take1 3 (v := ?_) rfl (by kernel_rfl) (by kernel_rfl) (by kernel_rfl) (fun _ _ _ h => h) (by rfl) ?_ hA0 ?_
  rotate_left
  · intro W9 hA
    have hX := hA
    clear hA
    have c0 := hX.cell0
    have c1 := hX.cell1
    clear hX
    go_simp
    try with_reducible rfl
  try simp only [Act.put, List.setIfInBounds_toArray, List.set_cons_zero, List.set_cons_succ]
  refine take1 4 (v := ?_) rfl (by kernel_rfl) (by kernel_rfl) (by kernel_rfl) (fun _ _ _ h => h) (by rfl) ?_ hA0 ?_
  rotate_left
  · intro W9 hA
    have hX := hA
    clear hA
    have c0 := hX.cell0
    have c1 := hX.cell1
    clear hX
    go_simp
    try with_reducible rfl
  try simp only [Act.put, List.setIfInBounds_toArray, List.set_cons_zero, List.set_cons_succ]
  refine take1 5 (v := ?_) rfl (by kernel_rfl) (by kernel_rfl) (by kernel_rfl) (fun _ _ _ h => h) (by rfl) ?_ hA0 ?_
  rotate_left
  · intro W9 hA
    have hX := hA
    clear hA
    have c0 := hX.cell0
    have c1 := hX.cell1
    clear hX
    go_simp
    try with_reducible rfl
  try simp only [Act.put, List.setIfInBounds_toArray, List.set_cons_zero, List.set_cons_succ]
  refine take1 6 (v := ?_) rfl (by kernel_rfl) (by kernel_rfl) (by kernel_rfl) (fun _ _ _ h => h) (by rfl) ?_ hA0 ?_
  rotate_left
  · intro W9 hA
    have hX := hA
    clear hA
    have c0 := hX.cell0
    have c1 := hX.cell1
    clear hX
    go_simp
    try with_reducible rfl
  try simp only [Act.put, List.setIfInBounds_toArray, List.set_cons_zero, List.set_cons_succ]
  refine take1 7 (v := ?_) rfl (by kernel_rfl) (by kernel_rfl) (by kernel_rfl) (fun _ _ _ h => h) (by rfl) ?_ hA0 ?_
  rotate_left
  · intro W9 hA
    have hX := hA
    clear hA
    have c0 := hX.cell0
    have c1 := hX.cell1
    clear hX
    go_simp
    try with_reducible rfl
  try simp only [Act.put, List.setIfInBounds_toArray, List.set_cons_zero, List.set_cons_succ]
  refine step1 8 (by kernel_rfl) rfl (fun K hK => ?_)
  go_simp
  refine (HW.out _).mono ?_
  rintro e W1' ⟨rfl, hb1⟩
  go_wp2_with fail
  have hA1 := duo_below hA0 hA0.lt hb1
  have hB1 := hB0.trans (hb1.mono hB0.size)
  refine hK.out _ _ hA1 ?_
  clear hK K
  try simp only [Act.put, List.setIfInBounds_toArray, List.set_cons_zero, List.set_cons_succ]
  refine step1 9 (by kernel_rfl) rfl (fun K hK => ?_)
  go_simp
  refine (HS.out _).mono ?_
  rintro e W2' ⟨rfl, hb2⟩
  go_wp2_with fail
  have hA2 := duo_below hA1 hA1.lt hb2
  have hB2 := hB1.trans (hb2.mono hB1.size)
  refine hK.out _ _ hA2 ?_
  clear hK K
  try simp only [Act.put, List.setIfInBounds_toArray, List.set_cons_zero, List.set_cons_succ]
  refine take1 10 (v := ?_) rfl (by kernel_rfl) (by kernel_rfl) (by kernel_rfl) (fun _ _ _ h => h) (by rfl) ?_ hA2 ?_
  rotate_left
  · intro W9 hA
    have hX := hA
    clear hA
    have c0 := hX.cell0
    have c1 := hX.cell1
    clear hX
    go_simp
    try with_reducible rfl
  try simp only [Act.put, List.setIfInBounds_toArray, List.set_cons_zero, List.set_cons_succ]
  refine stop1 (by kernel_rfl) ?_
  go_wp2
  go_ret
  exact ⟨rfl, hB2⟩
end Go.Proofs.Ytaklmepioeoohaa
