/- Texts of mine, laid together: PlpM PlpA PlpC PlpD PlpE PlpH. -/
import Derived.Test.YtaklmepioeoohaaGQ
import Derived.Test.YtaklmepioeoohaaGJ
import Derived.Test.YtaklmepioeoohaaGC
import Derived.Test.YtaklmepioeoohaaGB
import Derived.Test.YtaklmepioeoohaaRoA
import Derived.Test.YtaklmepioeoohaaGR
/- Plays, the program's side: what the program's short ways make of a play, by the kernel. -/
namespace Go.Proofs.Ytaklmepioeoohaa
set_option linter.unusedVariables false
/-- A play, as the program asks for it. -/
def isP (n s : Nat) : Bool := (Nat.ble 3 n && Nat.beq (n % 2) 1) && Nat.beq (turnN n s (-1)) (otherN n s)
theorem isP_all : ((List.range 13).all fun n => allH (fun s => isP n s == playB n s) n 0) = true := by decide +kernel
theorem isP_play (n s : Nat) (h2 : n ≤ 12) (hs : s < 2 ^ n) : isP n s = playB n s := by
  have ha := allH_at (fun s => isP n s == playB n s) n 0 s (List.all_eq_true.1 isP_all n (List.mem_range.2 (by omega))) (Nat.zero_le _) (by omega)
  simpa using ha
def twiceK (n s : Nat) : Bool := !playB n s || Nat.beq (sumN n s (s ||| 1)) (twiceN n s)
theorem twice_all : ((List.range 13).all fun n => allH (twiceK n) n 0) = true := by decide +kernel
theorem twice_sum (n s : Nat) (h2 : n ≤ 12) (hs : s < 2 ^ n) (h : playB n s = true) : sumN n s (s ||| 1) = twiceN n s := by
  have ha := allH_at (twiceK n) n 0 s (List.all_eq_true.1 twice_all n (List.mem_range.2 (by omega))) (Nat.zero_le _) (by omega)
  unfold twiceK at ha
  rw [h] at ha
  exact Nat.eq_of_beq_eq_true ha
/-- The least one of a play's turns by units. -/
def lturnS (n s v x : Nat) : Nat := min x (turnN n s (v : Int))
def lturnN (n s : Nat) : Nat := overSet (unitsN n) (lturnS n s) n s
theorem lturnS_lt (n s v x : Nat) (hv : v < n) (hx : x < 2 ^ n) : lturnS n s v x < 2 ^ n := by unfold lturnS; omega
theorem lturnN_lt (n s : Nat) (hs : s < 2 ^ n) : lturnN n s < 2 ^ n := overSet_lt _ n _ _ _ _ hs (Nat.le_refl n) (lturnS_lt n s)
/-- How many of the first i plays are the least ones of their classes. -/
def ownQ (n : Nat) (xs : List Int) : Nat → Nat
  | 0 => 0
  | i + 1 => if Nat.beq (lturnN n (atN xs i)) (atN xs i) then ownQ n xs i + 1 else ownQ n xs i
theorem ownQ_le (n : Nat) (xs : List Int) (i : Nat) : ownQ n xs i ≤ i := by
  induction i with
  | zero => exact Nat.le_refl _
  | succ i ih =>
    show (if Nat.beq (lturnN n (atN xs i)) (atN xs i) then ownQ n xs i + 1 else ownQ n xs i) ≤ i + 1
    split <;> omega
def ownK (n : Nat) : Bool := Nat.beq (ownQ n (playL n (2 ^ (n - 1))) (2 ^ ((n - 1) / 2))) (runK n (playL n (2 ^ (n - 1))) (2 ^ ((n - 1) / 2))).2
theorem own_all : ([3, 5, 7, 9, 11].all ownK) = true := by decide +kernel
theorem own_cls (n : Nat) (h1 : 3 ≤ n) (h2 : n ≤ 11) (h3 : n % 2 = 1) : ownQ n (playL n (2 ^ (n - 1))) (playL n (2 ^ (n - 1))).length = clsAll n := by
  have hm : n ∈ [3, 5, 7, 9, 11] := by
    have : n = 3 ∨ n = 5 ∨ n = 7 ∨ n = 9 ∨ n = 11 := by omega
    rcases this with rfl | rfl | rfl | rfl | rfl <;> simp
  have h := List.all_eq_true.1 own_all n hm
  unfold ownK at h
  rw [← playL_size n h1 h2 h3, (runK_is n _ _).2] at h
  exact Nat.eq_of_beq_eq_true h
/-- The plays that have come, as a list. -/
def appS (m : List Int) (x : Nat) : List Int := m ++ [(x : Int)]
theorem foldP_app (l : List Nat) : (foldP appS [] l).length = l.length := by
  have h : ∀ (l : List Nat) (m : List Int), (l.foldl appS m).length = m.length + l.length := by
    intro l
    induction l with
    | nil => intro m; rfl
    | cons v l ih => intro m; rw [List.foldl_cons, ih]; simp [appS]; omega
  have := h l []
  simpa [foldP] using this
theorem odd_noPlay (n j : Nat) : playB n (2 * j + 1) = false := by
  cases h : playB n (2 * j + 1)
  · rfl
  · have := ((play_iff n _).1 h).2.2.1
    rw [bit0] at this
    simp at this
theorem plays_run (n : Nat) (p : Nat → Bool) (hp : ∀ x, p x = playB n x) (j : Nat) : runP appS p [] (2 * j) = playL n j := by
  induction j with
  | zero => rfl
  | succ j ih =>
    have e : 2 * (j + 1) = 2 * j + 1 + 1 := by omega
    rw [e]
    show (if p (2 * j + 1) then appS (if p (2 * j) then appS (runP appS p [] (2 * j)) (2 * j) else runP appS p [] (2 * j)) (2 * j + 1) else (if p (2 * j) then appS (runP appS p [] (2 * j)) (2 * j) else runP appS p [] (2 * j))) = (if playB n (2 * j) then playL n j ++ [((2 * j : Nat) : Int)] else playL n j)
    rw [hp, hp, odd_noPlay, ih]
    rfl
end Go.Proofs.Ytaklmepioeoohaa

/- Plays, the program's side: what a play is, and the small functions. Written by gen95.py. -/
namespace Go.Proofs.Ytaklmepioeoohaa
open Go.RowKit Go.Shelf
set_option linter.unusedVariables false
theorem hasPlays_any (n : Nat) (w : World) (h2 : n ≤ 12) :
    Calls Try.prog 80 #[.agg #[.int .i64 (n:Int)]] w fun e w' => e = .returned (.bool (Nat.ble 3 n && Nat.beq (n % 2) 1)) ∧ Below w.heap.size w w' := by
  have e3 := odd_mod n
  have hm : n % 2 < 2 := Nat.mod_lt _ (by omega)
  by_cases h : 3 ≤ n
  · have HE : Hid ((((n % 2 : Nat) : Int) == 1) = (Nat.ble 3 n && Nat.beq (n % 2) 1)) := Lib.hid (by rw [Nat.ble_eq_true_of_le h, Bool.true_and]; exact cast_beq (n % 2) 1)
    have k1 : (n : Int) ≥ 3 := by omega
    have k2 : (3 : Int) ≤ (n : Int) := by omega
    have k3 : decide ((3 : Int) ≤ (n : Int)) = true := decide_eq_true k2
    generalize n % 2 = q at *
    go_enter Try.func80, Try.ntmps80
    go_wp2
    go_ret
    exact ⟨ret_bool (by first | exact HE.out | simpa using HE.out), (Below.refl _ _).alloc (Nat.le_refl _) _⟩
  · have HE : Hid (false = (Nat.ble 3 n && Nat.beq (n % 2) 1)) := Lib.hid (by
      cases hb : Nat.ble 3 n
      · rfl
      · exact absurd (Nat.le_of_ble_eq_true hb) h)
    have k1 : ¬ (n : Int) ≥ 3 := by omega
    have k2 : ¬ (3 : Int) ≤ (n : Int) := by omega
    have k3 : decide ((3 : Int) ≤ (n : Int)) = false := decide_eq_false k2
    generalize n % 2 = q at *
    go_enter Try.func80, Try.ntmps80
    go_wp2
    go_ret
    exact ⟨ret_bool HE.out, (Below.refl _ _).alloc (Nat.le_refl _) _⟩
set_option maxHeartbeats 1000000 in
theorem isPlay_any (n s : Nat) (w : World) (h1 : 1 ≤ n) (h2 : n ≤ 12) (hs : s < 2 ^ n) :
    Calls Try.prog 72 #[.agg #[.int .i64 (n:Int)], .int .i64 (s:Int)] w fun e w' => e = .returned (.bool (playB n s)) ∧ Below w.heap.size w w' := by
  have hmx : Try.prog.follows .mixedOrders = true := by kernel_rfl
  have hH := fun W => hasPlays_any n W h2
  have HT := Lib.hid (fun W => turn_any n s (-1) W h1 h2 hs (by omega) (by omega))
  have HO := Lib.hid (fun W => other_any n s W h1 h2 hs)
  have hE := isP_play n s h2 hs
  unfold isP at hE
  have hc := cast_beq (turnN n s (-1)) (otherN n s)
  generalize turnN n s (-1) = T at *
  generalize otherN n s = U at *
  generalize playB n s = b at *
  cases hh : (Nat.ble 3 n && Nat.beq (n % 2) 1)
  · rw [hh] at hH hE
    have HH := Lib.hid hH
    have HE : Hid (false = b) := Lib.hid (by exact hE)
    clear hH hE hh hc
    go_enter Try.func72, Try.ntmps72
    go_wp2_with fail
    have hA0 := Boxed.new w 42 (.int .i64 (n:Int))
    have hB0 : Below w.heap.size w (w.alloc (.cells #[.int .i64 (n:Int)] 42)) := (Below.refl _ _).alloc (Nat.le_refl _) _
    obtain ⟨W0, hW0⟩ : ∃ W0, w.alloc (.cells #[.int .i64 (n:Int)] 42) = W0 := ⟨_, rfl⟩
    rw [hW0] at hA0 hB0 ⊢
    clear hW0
    have hB0 : Below w.heap.size w W0.drew := hB0.drew
    have hA0 : Boxed W0.drew w.heap.size 42 (.int .i64 (n:Int)) := hA0
    refine wp_region_held_drew (S := fun W => Boxed W w.heap.size 42 (.int .i64 (n:Int))) hmx hA0 (fun _ => ?_)
    generalize W0.drew = W4 at *
    refine take1 0 (v := ?_) rfl (by kernel_rfl) (by kernel_rfl) (by kernel_rfl) (fun _ _ _ h => h) (by rfl) ?_ hA0 ?_
    rotate_left
    · intro W9 hA
      have hX := hA
      clear hA
      have c0 := hX.cell
      clear hX
      go_simp
      try with_reducible rfl
    try simp only [Act.put, List.setIfInBounds_toArray, List.set_cons_zero, List.set_cons_succ]
    refine step1 1 (by kernel_rfl) rfl (fun K hK => ?_)
    go_simp
    refine (HH.out _).mono ?_
    rintro e W1' ⟨rfl, hb1⟩
    go_wp2_with fail
    have hA1 := boxed_below hA0 hA0.lt hb1
    have hB1 := hB0.trans (hb1.mono hB0.size)
    refine hK.out _ _ hA1 ?_
    clear hK K
    try simp only [Act.put, List.setIfInBounds_toArray, List.set_cons_zero, List.set_cons_succ]
    refine take1 2 (v := ?_) rfl (by kernel_rfl) (by kernel_rfl) (by kernel_rfl) (fun _ _ _ h => h) (by rfl) ?_ hA1 ?_
    rotate_left
    · intro W9 hA
      have hX := hA
      clear hA
      have c0 := hX.cell
      clear hX
      go_simp
      try with_reducible rfl
    try simp only [Act.put, List.setIfInBounds_toArray, List.set_cons_zero, List.set_cons_succ]
    refine take0 3 rfl (by kernel_rfl) (by kernel_rfl) (by kernel_rfl) (fun _ _ _ h => h) (by rfl) hA1 ?_
    try simp only [Act.put, List.setIfInBounds_toArray, List.set_cons_zero, List.set_cons_succ]
    refine take0 4 rfl (by kernel_rfl) (by kernel_rfl) (by kernel_rfl) (fun _ _ _ h => h) (by rfl) hA1 ?_
    try simp only [Act.put, List.setIfInBounds_toArray, List.set_cons_zero, List.set_cons_succ]
    refine take0 6 rfl (by kernel_rfl) (by kernel_rfl) (by kernel_rfl) (fun _ _ _ h => h) (by rfl) hA1 ?_
    try simp only [Act.put, List.setIfInBounds_toArray, List.set_cons_zero, List.set_cons_succ]
    refine take0 7 rfl (by kernel_rfl) (by kernel_rfl) (by kernel_rfl) (fun _ _ _ h => h) (by rfl) hA1 ?_
    try simp only [Act.put, List.setIfInBounds_toArray, List.set_cons_zero, List.set_cons_succ]
    refine take0 8 rfl (by kernel_rfl) (by kernel_rfl) (by kernel_rfl) (fun _ _ _ h => h) (by rfl) hA1 ?_
    try simp only [Act.put, List.setIfInBounds_toArray, List.set_cons_zero, List.set_cons_succ]
    refine take0 5 rfl (by kernel_rfl) (by kernel_rfl) (by kernel_rfl) (fun _ _ _ h => h) (by rfl) hA1 ?_
    try simp only [Act.put, List.setIfInBounds_toArray, List.set_cons_zero, List.set_cons_succ]
    refine take0 9 rfl (by kernel_rfl) (by kernel_rfl) (by kernel_rfl) (fun _ _ _ h => h) (by rfl) hA1 ?_
    try simp only [Act.put, List.setIfInBounds_toArray, List.set_cons_zero, List.set_cons_succ]
    refine take0 10 rfl (by kernel_rfl) (by kernel_rfl) (by kernel_rfl) (fun _ _ _ h => h) (by rfl) hA1 ?_
    try simp only [Act.put, List.setIfInBounds_toArray, List.set_cons_zero, List.set_cons_succ]
    refine take1 11 (v := ?_) rfl (by kernel_rfl) (by kernel_rfl) (by kernel_rfl) (fun _ _ _ h => h) (by rfl) ?_ hA1 ?_
    rotate_left
    · intro W9 hA
      have hX := hA
      clear hA
      have c0 := hX.cell
      clear hX
      go_simp
      try with_reducible rfl
    try simp only [Act.put, List.setIfInBounds_toArray, List.set_cons_zero, List.set_cons_succ]
    refine take1 12 (v := ?_) rfl (by kernel_rfl) (by kernel_rfl) (by kernel_rfl) (fun _ _ _ h => h) (by rfl) ?_ hA1 ?_
    rotate_left
    · intro W9 hA
      have hX := hA
      clear hA
      have c0 := hX.cell
      clear hX
      go_simp
      try with_reducible rfl
    try simp only [Act.put, List.setIfInBounds_toArray, List.set_cons_zero, List.set_cons_succ]
    refine stop1 (by kernel_rfl) ?_
    go_wp2
    go_ret
    exact ⟨ret_bool (by first | exact HE.out | simpa using HE.out), hB1⟩
  · rw [hh] at hH hE
    have HH := Lib.hid hH
    have HE : Hid (((T : Int) == (U : Int)) = b) := Lib.hid (by rw [hc]; exact hE)
    clear hH hE hh hc
    go_enter Try.func72, Try.ntmps72
    go_wp2_with fail
    have hA0 := Boxed.new w 42 (.int .i64 (n:Int))
    have hB0 : Below w.heap.size w (w.alloc (.cells #[.int .i64 (n:Int)] 42)) := (Below.refl _ _).alloc (Nat.le_refl _) _
    obtain ⟨W0, hW0⟩ : ∃ W0, w.alloc (.cells #[.int .i64 (n:Int)] 42) = W0 := ⟨_, rfl⟩
    rw [hW0] at hA0 hB0 ⊢
    clear hW0
    have hB0 : Below w.heap.size w W0.drew := hB0.drew
    have hA0 : Boxed W0.drew w.heap.size 42 (.int .i64 (n:Int)) := hA0
    refine wp_region_held_drew (S := fun W => Boxed W w.heap.size 42 (.int .i64 (n:Int))) hmx hA0 (fun _ => ?_)
    generalize W0.drew = W4 at *
    refine take1 0 (v := ?_) rfl (by kernel_rfl) (by kernel_rfl) (by kernel_rfl) (fun _ _ _ h => h) (by rfl) ?_ hA0 ?_
    rotate_left
    · intro W9 hA
      have hX := hA
      clear hA
      have c0 := hX.cell
      clear hX
      go_simp
      try with_reducible rfl
    try simp only [Act.put, List.setIfInBounds_toArray, List.set_cons_zero, List.set_cons_succ]
    refine step1 1 (by kernel_rfl) rfl (fun K hK => ?_)
    go_simp
    refine (HH.out _).mono ?_
    rintro e W1' ⟨rfl, hb1⟩
    go_wp2_with fail
    have hA1 := boxed_below hA0 hA0.lt hb1
    have hB1 := hB0.trans (hb1.mono hB0.size)
    refine hK.out _ _ hA1 ?_
    clear hK K
    try simp only [Act.put, List.setIfInBounds_toArray, List.set_cons_zero, List.set_cons_succ]
    refine take1 2 (v := ?_) rfl (by kernel_rfl) (by kernel_rfl) (by kernel_rfl) (fun _ _ _ h => h) (by rfl) ?_ hA1 ?_
    rotate_left
    · intro W9 hA
      have hX := hA
      clear hA
      have c0 := hX.cell
      clear hX
      go_simp
      try with_reducible rfl
    try simp only [Act.put, List.setIfInBounds_toArray, List.set_cons_zero, List.set_cons_succ]
    refine take1 3 (v := ?_) rfl (by kernel_rfl) (by kernel_rfl) (by kernel_rfl) (fun _ _ _ h => h) (by rfl) ?_ hA1 ?_
    rotate_left
    · intro W9 hA
      have hX := hA
      clear hA
      have c0 := hX.cell
      clear hX
      go_simp
      try with_reducible rfl
    try simp only [Act.put, List.setIfInBounds_toArray, List.set_cons_zero, List.set_cons_succ]
    refine take1 4 (v := ?_) rfl (by kernel_rfl) (by kernel_rfl) (by kernel_rfl) (fun _ _ _ h => h) (by rfl) ?_ hA1 ?_
    rotate_left
    · intro W9 hA
      have hX := hA
      clear hA
      have c0 := hX.cell
      clear hX
      go_simp
      try with_reducible rfl
    try simp only [Act.put, List.setIfInBounds_toArray, List.set_cons_zero, List.set_cons_succ]
    refine take1 6 (v := ?_) rfl (by kernel_rfl) (by kernel_rfl) (by kernel_rfl) (fun _ _ _ h => h) (by rfl) ?_ hA1 ?_
    rotate_left
    · intro W9 hA
      have hX := hA
      clear hA
      have c0 := hX.cell
      clear hX
      go_simp
      try with_reducible rfl
    try simp only [Act.put, List.setIfInBounds_toArray, List.set_cons_zero, List.set_cons_succ]
    refine take1 7 (v := ?_) rfl (by kernel_rfl) (by kernel_rfl) (by kernel_rfl) (fun _ _ _ h => h) (by rfl) ?_ hA1 ?_
    rotate_left
    · intro W9 hA
      have hX := hA
      clear hA
      have c0 := hX.cell
      clear hX
      go_simp
      try with_reducible rfl
    try simp only [Act.put, List.setIfInBounds_toArray, List.set_cons_zero, List.set_cons_succ]
    refine take1 8 (v := ?_) rfl (by kernel_rfl) (by kernel_rfl) (by kernel_rfl) (fun _ _ _ h => h) (by rfl) ?_ hA1 ?_
    rotate_left
    · intro W9 hA
      have hX := hA
      clear hA
      have c0 := hX.cell
      clear hX
      go_simp
      try with_reducible rfl
    try simp only [Act.put, List.setIfInBounds_toArray, List.set_cons_zero, List.set_cons_succ]
    refine step1 5 (by kernel_rfl) rfl (fun K hK => ?_)
    go_simp
    refine (HT.out _).mono ?_
    rintro e W2' ⟨rfl, hb2⟩
    go_wp2_with fail
    have hA2 := boxed_below hA1 hA1.lt hb2
    have hB2 := hB1.trans (hb2.mono hB1.size)
    refine hK.out _ _ hA2 ?_
    clear hK K
    try simp only [Act.put, List.setIfInBounds_toArray, List.set_cons_zero, List.set_cons_succ]
    refine step1 9 (by kernel_rfl) rfl (fun K hK => ?_)
    go_simp
    refine (HO.out _).mono ?_
    rintro e W3' ⟨rfl, hb3⟩
    go_wp2_with fail
    have hA3 := boxed_below hA2 hA2.lt hb3
    have hB3 := hB2.trans (hb3.mono hB2.size)
    refine hK.out _ _ hA3 ?_
    clear hK K
    try simp only [Act.put, List.setIfInBounds_toArray, List.set_cons_zero, List.set_cons_succ]
    refine take1 10 (v := ?_) rfl (by kernel_rfl) (by kernel_rfl) (by kernel_rfl) (fun _ _ _ h => h) (by rfl) ?_ hA3 ?_
    rotate_left
    · intro W9 hA
      have hX := hA
      clear hA
      have c0 := hX.cell
      clear hX
      go_simp
      try with_reducible rfl
    try simp only [Act.put, List.setIfInBounds_toArray, List.set_cons_zero, List.set_cons_succ]
    refine take1 11 (v := ?_) rfl (by kernel_rfl) (by kernel_rfl) (by kernel_rfl) (fun _ _ _ h => h) (by rfl) ?_ hA3 ?_
    rotate_left
    · intro W9 hA
      have hX := hA
      clear hA
      have c0 := hX.cell
      clear hX
      go_simp
      try with_reducible rfl
    try simp only [Act.put, List.setIfInBounds_toArray, List.set_cons_zero, List.set_cons_succ]
    refine take1 12 (v := ?_) rfl (by kernel_rfl) (by kernel_rfl) (by kernel_rfl) (fun _ _ _ h => h) (by rfl) ?_ hA3 ?_
    rotate_left
    · intro W9 hA
      have hX := hA
      clear hA
      have c0 := hX.cell
      clear hX
      go_simp
      try with_reducible rfl
    try simp only [Act.put, List.setIfInBounds_toArray, List.set_cons_zero, List.set_cons_succ]
    refine stop1 (by kernel_rfl) ?_
    go_wp2
    go_ret
    exact ⟨ret_bool (by first | exact HE.out | simpa using HE.out), hB3⟩
theorem playOf_no (n s : Int) (w : World) (h : NoPlay n s) :
    Calls Try.prog 42 #[.int .i64 n, .int .i64 s] w fun e w' => e = .returned (.tuple #[.agg #[.int .i64 0, .int .i64 0], .bool false]) ∧ Below w.heap.size w w' := by
  by_cases hn : NoStep n s
  · have HO := Lib.hid (fun W => stepsOf_no n s W hn)
    clear h hn
    go_enter Try.func42, Try.ntmps42
    go_wp2_with fail
    have hR0 := Duo.new w 47 (.int .i64 0) (.int .i64 0)
    have hB0 : Below w.heap.size w (w.alloc (.cells #[.int .i64 0, .int .i64 0] 47)) := (Below.refl _ _).alloc (Nat.le_refl _) _
    have hz0 : (w.alloc (.cells #[.int .i64 0, .int .i64 0] 47)).heap.size = w.heap.size + 1 := by simp
    obtain ⟨W0, hW0⟩ : ∃ W0, w.alloc (.cells #[.int .i64 0, .int .i64 0] 47) = W0 := ⟨_, rfl⟩
    rw [hW0] at hR0 hB0 hz0 ⊢
    clear hW0
    refine (HO.out _).mono ?_
    rintro e w1 ⟨rfl, hb1⟩
    have hR1 := duo_below hR0 hR0.lt hb1
    have hB1 := hB0.trans (hb1.mono hB0.size)
    have z1 := hb1.size
    clear hb1 hR0 hB0
    have f0 := duoFrozen hR1 0
    have f1 := duoFrozen hR1 1
    have r0 := hR1.cell0
    have r1 := hR1.cell1
    have l3 := hR1.lt
    go_wp2
    refine bodyPost_ret (v := .tuple #[.agg #[.int .i64 0, .int .i64 0], .bool false]) ?_ rfl ⟨rfl, ?_⟩
    · simp [results, Try.results42, go_sem, r0, r1, l3]
    · first
      | exact ((hB1.setCell (p := ⟨w.heap.size, 0, none⟩) (Nat.le_refl _) _).setCell (p := ⟨w.heap.size, 1, none⟩) (Nat.le_refl _) _)
      | exact (((hB1.alloc (by omega) _).setCell (p := ⟨w.heap.size, 0, none⟩) (Nat.le_refl _) _).setCell (p := ⟨w.heap.size, 1, none⟩) (Nat.le_refl _) _)
      | exact ((hB1.setCell (p := ⟨w.heap.size, 0, none⟩) (Nat.le_refl _) _).setCell (p := ⟨w.heap.size, 1, none⟩) (Nat.le_refl _) _).alloc (by simp; omega) _
  · obtain ⟨m, t, rfl, rfl, a, b, c, d⟩ := not_noStep hn
    have hp : playB m t = false := by
      cases hb : playB m t
      · rfl
      · exact absurd ⟨m, t, rfl, rfl, b, c, hb⟩ h
    have HO := Lib.hid (fun W => stepsOf_yes m t W a b c d)
    have hP := fun W => isPlay_any m t W a b c
    rw [hp] at hP
    have HP := Lib.hid hP
    clear h hn hp hP c d
    go_enter Try.func42, Try.ntmps42
    go_wp2_with fail
    have hR0 := Duo.new w 47 (.int .i64 0) (.int .i64 0)
    have hB0 : Below w.heap.size w (w.alloc (.cells #[.int .i64 0, .int .i64 0] 47)) := (Below.refl _ _).alloc (Nat.le_refl _) _
    have hz0 : (w.alloc (.cells #[.int .i64 0, .int .i64 0] 47)).heap.size = w.heap.size + 1 := by simp
    obtain ⟨W0, hW0⟩ : ∃ W0, w.alloc (.cells #[.int .i64 0, .int .i64 0] 47) = W0 := ⟨_, rfl⟩
    rw [hW0] at hR0 hB0 hz0 ⊢
    clear hW0
    refine (HO.out _).mono ?_
    rintro e w1 ⟨rfl, hb1⟩
    have hR1 := duo_below hR0 hR0.lt hb1
    have hB1 := hB0.trans (hb1.mono hB0.size)
    have z1 := hb1.size
    clear hb1 hR0 hB0
    have hR2 := hR1.alloc (.cells #[.int .i64 (m:Int), .int .i64 (t:Int)] 45)
    have hT2 := Duo.new w1 45 (.int .i64 (m:Int)) (.int .i64 (t:Int))
    have hB2 := hB1.alloc (by omega) (.cells #[.int .i64 (m:Int), .int .i64 (t:Int)] 45)
    have e2 : (w1.alloc (.cells #[.int .i64 (m:Int), .int .i64 (t:Int)] 45)).heap.size = w1.heap.size + 1 := by simp
    have c0 := hT2.cell0
    have c1 := hT2.cell1
    go_wp2_with (go_at_call 72; refine (HP.out _).mono ?_; rintro e w3 ⟨rfl, hb3⟩; have hR3 := duo_below hR2 hR2.lt hb3; have hT3 := duo_below hT2 hT2.lt hb3; have hB3 := hB2.trans (hb3.mono (by omega)); have d0 := hT3.cell0; have d1 := hT3.cell1; have f0 := duoFrozen hR3 0; have f1 := duoFrozen hR3 1; have r0 := hR3.cell0; have r1 := hR3.cell1; have l3 := hR3.lt)
    refine bodyPost_ret (v := .tuple #[.agg #[.int .i64 0, .int .i64 0], .bool false]) ?_ rfl ⟨rfl, ?_⟩
    · simp [results, Try.results42, go_sem, r0, r1]
    · first
      | exact ((hB3.setCell (p := ⟨w.heap.size, 0, none⟩) (Nat.le_refl _) _).setCell (p := ⟨w.heap.size, 1, none⟩) (Nat.le_refl _) _)
      | exact (((hB3.alloc (by omega) _).setCell (p := ⟨w.heap.size, 0, none⟩) (Nat.le_refl _) _).setCell (p := ⟨w.heap.size, 1, none⟩) (Nat.le_refl _) _)
      | exact ((hB3.setCell (p := ⟨w.heap.size, 0, none⟩) (Nat.le_refl _) _).setCell (p := ⟨w.heap.size, 1, none⟩) (Nat.le_refl _) _).alloc (by simp; omega) _
theorem playOf_yes (n s : Nat) (w : World) (h2 : n ≤ 12) (hs : s < 2 ^ n) (hp : playB n s = true) :
    Calls Try.prog 42 #[.int .i64 (n:Int), .int .i64 (s:Int)] w fun e w' => e = .returned (.tuple #[.agg #[.int .i64 (n:Int), .int .i64 (s:Int)], .bool true]) ∧ Below w.heap.size w w' := by
  obtain ⟨p1, p2, p3, _, _⟩ := (play_iff n s).1 hp
  have HO := Lib.hid (fun W => stepsOf_yes n s W (by omega) h2 hs p3)
  have hP := fun W => isPlay_any n s W (by omega) h2 hs
  rw [hp] at hP
  have HP := Lib.hid hP
  clear hp hP hs p3 p2
  go_enter Try.func42, Try.ntmps42
  go_wp2_with fail
  have hR0 := Duo.new w 47 (.int .i64 0) (.int .i64 0)
  have hB0 : Below w.heap.size w (w.alloc (.cells #[.int .i64 0, .int .i64 0] 47)) := (Below.refl _ _).alloc (Nat.le_refl _) _
  have hz0 : (w.alloc (.cells #[.int .i64 0, .int .i64 0] 47)).heap.size = w.heap.size + 1 := by simp
  obtain ⟨W0, hW0⟩ : ∃ W0, w.alloc (.cells #[.int .i64 0, .int .i64 0] 47) = W0 := ⟨_, rfl⟩
  rw [hW0] at hR0 hB0 hz0 ⊢
  clear hW0
  refine (HO.out _).mono ?_
  rintro e w1 ⟨rfl, hb1⟩
  have hR1 := duo_below hR0 hR0.lt hb1
  have hB1 := hB0.trans (hb1.mono hB0.size)
  have z1 := hb1.size
  clear hb1 hR0 hB0
  have hR2 := hR1.alloc (.cells #[.int .i64 (n:Int), .int .i64 (s:Int)] 45)
  have hT2 := Duo.new w1 45 (.int .i64 (n:Int)) (.int .i64 (s:Int))
  have hB2 := hB1.alloc (by omega) (.cells #[.int .i64 (n:Int), .int .i64 (s:Int)] 45)
  have e2 : (w1.alloc (.cells #[.int .i64 (n:Int), .int .i64 (s:Int)] 45)).heap.size = w1.heap.size + 1 := by simp
  have c0 := hT2.cell0
  have c1 := hT2.cell1
  go_wp2_with (go_at_call 72; refine (HP.out _).mono ?_; rintro e w3 ⟨rfl, hb3⟩; have hR3 := duo_below hR2 hR2.lt hb3; have hT3 := duo_below hT2 hT2.lt hb3; have hB3 := hB2.trans (hb3.mono (by omega)); have d0 := hT3.cell0; have d1 := hT3.cell1; have f0 := duoFrozen hR3 0; have f1 := duoFrozen hR3 1; have r0 := hR3.cell0; have r1 := hR3.cell1; have l3 := hR3.lt)
  refine bodyPost_ret (v := .tuple #[.agg #[.int .i64 (n:Int), .int .i64 (s:Int)], .bool true]) ?_ rfl ⟨rfl, ?_⟩
  · simp [results, Try.results42, go_sem, r0, r1]
  · first
    | exact ((hB3.setCell (p := ⟨w.heap.size, 0, none⟩) (Nat.le_refl _) _).setCell (p := ⟨w.heap.size, 1, none⟩) (Nat.le_refl _) _)
    | exact (((hB3.alloc (by omega) _).setCell (p := ⟨w.heap.size, 0, none⟩) (Nat.le_refl _) _).setCell (p := ⟨w.heap.size, 1, none⟩) (Nat.le_refl _) _)
    | exact ((hB3.setCell (p := ⟨w.heap.size, 0, none⟩) (Nat.le_refl _) _).setCell (p := ⟨w.heap.size, 1, none⟩) (Nat.le_refl _) _).alloc (by simp; omega) _
theorem playRingOf_yes (n : Nat) (w : World) (h1 : 3 ≤ n) (h2 : n ≤ 11) (h3 : n % 2 = 1) :
    Calls Try.prog 52 #[.int .i64 (n:Int)] w fun e w' => e = .returned (.tuple #[.agg #[.int .i64 (n:Int)], .bool true]) ∧ Below w.heap.size w w' := by
  have HO := Lib.hid (fun W => ringOf_nil n W (by omega) (by omega))
  have hH := fun W => hasPlays_any n W (by omega)
  rw [Nat.ble_eq_true_of_le h1, h3] at hH
  have HH := Lib.hid hH
  clear hH h3
  go_enter Try.func52, Try.ntmps52
  go_wp2_with fail
  have hR0 := Boxed.new w 42 (.int .i64 0)
  have hB0 : Below w.heap.size w (w.alloc (.cells #[.int .i64 0] 42)) := (Below.refl _ _).alloc (Nat.le_refl _) _
  have hz0 : (w.alloc (.cells #[.int .i64 0] 42)).heap.size = w.heap.size + 1 := by simp
  obtain ⟨W0, hW0⟩ : ∃ W0, w.alloc (.cells #[.int .i64 0] 42) = W0 := ⟨_, rfl⟩
  rw [hW0] at hR0 hB0 hz0 ⊢
  clear hW0
  refine (HO.out _).mono ?_
  rintro e w1 ⟨rfl, hb1⟩
  have hR1 := boxed_below hR0 hR0.lt hb1
  have hB1 := hB0.trans (hb1.mono hB0.size)
  have z1 := hb1.size
  clear hb1 hR0 hB0
  have hR2 := hR1.alloc (.cells #[.int .i64 (n:Int)] 42)
  have hT2 := Boxed.new w1 42 (.int .i64 (n:Int))
  have hB2 := hB1.alloc (by omega) (.cells #[.int .i64 (n:Int)] 42)
  have e2 : (w1.alloc (.cells #[.int .i64 (n:Int)] 42)).heap.size = w1.heap.size + 1 := by simp
  have c0 := hT2.cell
  go_wp2_with (go_at_call 80; refine (HH.out _).mono ?_; rintro e w3 ⟨rfl, hb3⟩; have hR3 := boxed_below hR2 hR2.lt hb3; have hT3 := boxed_below hT2 hT2.lt hb3; have hB3 := hB2.trans (hb3.mono (by omega)); have d0 := hT3.cell; have f0 := hR3.frozen; have r0 := hR3.cell; have l3 := hR3.lt)
  refine bodyPost_ret (v := .tuple #[.agg #[.int .i64 (n:Int)], .bool true]) ?_ rfl ⟨rfl, ?_⟩
  · simp [results, Try.results52, go_sem, r0]
  · first
    | exact hB3.setCell (p := ⟨w.heap.size, 0, none⟩) (Nat.le_refl _) _
    | exact (hB3.alloc (by omega) _).setCell (p := ⟨w.heap.size, 0, none⟩) (Nat.le_refl _) _
    | exact (hB3.setCell (p := ⟨w.heap.size, 0, none⟩) (Nat.le_refl _) _).alloc (by simp; omega) _
theorem playRingOf_no (n : Int) (w : World) (h : ¬ AllIn n) :
    Calls Try.prog 52 #[.int .i64 n] w fun e w' => e = .returned (.tuple #[.agg #[.int .i64 0], .bool false]) ∧ Below w.heap.size w w' := by
  by_cases hn : 1 ≤ n ∧ n ≤ 12
  · obtain ⟨m, rfl⟩ : ∃ m : Nat, n = (m : Int) := ⟨n.toNat, by omega⟩
    have h1 : 1 ≤ m := by omega
    have h2 : m ≤ 12 := by omega
    have HO := Lib.hid (fun W => ringOf_nil m W h1 h2)
    have hH := fun W => hasPlays_any m W h2
    have hz : (Nat.ble 3 m && Nat.beq (m % 2) 1) = false := by
      cases hb : (Nat.ble 3 m && Nat.beq (m % 2) 1)
      · rfl
      · rw [Bool.and_eq_true] at hb
        have a := Nat.le_of_ble_eq_true hb.1
        have b := Nat.eq_of_beq_eq_true hb.2
        exact absurd ⟨m, rfl, a, by omega, b⟩ h
    rw [hz] at hH
    have HH := Lib.hid hH
    clear hH hz h hn
    go_enter Try.func52, Try.ntmps52
    go_wp2_with fail
    have hR0 := Boxed.new w 42 (.int .i64 0)
    have hB0 : Below w.heap.size w (w.alloc (.cells #[.int .i64 0] 42)) := (Below.refl _ _).alloc (Nat.le_refl _) _
    have hz0 : (w.alloc (.cells #[.int .i64 0] 42)).heap.size = w.heap.size + 1 := by simp
    obtain ⟨W0, hW0⟩ : ∃ W0, w.alloc (.cells #[.int .i64 0] 42) = W0 := ⟨_, rfl⟩
    rw [hW0] at hR0 hB0 hz0 ⊢
    clear hW0
    refine (HO.out _).mono ?_
    rintro e w1 ⟨rfl, hb1⟩
    have hR1 := boxed_below hR0 hR0.lt hb1
    have hB1 := hB0.trans (hb1.mono hB0.size)
    have z1 := hb1.size
    clear hb1 hR0 hB0
    have hR2 := hR1.alloc (.cells #[.int .i64 (m:Int)] 42)
    have hT2 := Boxed.new w1 42 (.int .i64 (m:Int))
    have hB2 := hB1.alloc (by omega) (.cells #[.int .i64 (m:Int)] 42)
    have e2 : (w1.alloc (.cells #[.int .i64 (m:Int)] 42)).heap.size = w1.heap.size + 1 := by simp
    have c0 := hT2.cell
    go_wp2_with (go_at_call 80; refine (HH.out _).mono ?_; rintro e w3 ⟨rfl, hb3⟩; have hR3 := boxed_below hR2 hR2.lt hb3; have hT3 := boxed_below hT2 hT2.lt hb3; have hB3 := hB2.trans (hb3.mono (by omega)); have d0 := hT3.cell; have f0 := hR3.frozen; have r0 := hR3.cell; have l3 := hR3.lt)
    refine bodyPost_ret (v := .tuple #[.agg #[.int .i64 0], .bool false]) ?_ rfl ⟨rfl, ?_⟩
    · simp [results, Try.results52, go_sem, r0]
    · first
      | exact hB3.setCell (p := ⟨w.heap.size, 0, none⟩) (Nat.le_refl _) _
      | exact (hB3.alloc (by omega) _).setCell (p := ⟨w.heap.size, 0, none⟩) (Nat.le_refl _) _
      | exact (hB3.setCell (p := ⟨w.heap.size, 0, none⟩) (Nat.le_refl _) _).alloc (by simp; omega) _
  · have HO := Lib.hid (fun W => ringOf_out n (.slice none 0 0) W hn)
    clear h hn
    go_enter Try.func52, Try.ntmps52
    go_wp2_with fail
    have hR0 := Boxed.new w 42 (.int .i64 0)
    have hB0 : Below w.heap.size w (w.alloc (.cells #[.int .i64 0] 42)) := (Below.refl _ _).alloc (Nat.le_refl _) _
    have hz0 : (w.alloc (.cells #[.int .i64 0] 42)).heap.size = w.heap.size + 1 := by simp
    obtain ⟨W0, hW0⟩ : ∃ W0, w.alloc (.cells #[.int .i64 0] 42) = W0 := ⟨_, rfl⟩
    rw [hW0] at hR0 hB0 hz0 ⊢
    clear hW0
    refine (HO.out _).mono ?_
    rintro e w1 ⟨rfl, hb1⟩
    have hR1 := boxed_below hR0 hR0.lt hb1
    have hB1 := hB0.trans (hb1.mono hB0.size)
    have z1 := hb1.size
    clear hb1 hR0 hB0
    have f0 := hR1.frozen
    have r0 := hR1.cell
    have l3 := hR1.lt
    go_wp2
    refine bodyPost_ret (v := .tuple #[.agg #[.int .i64 0], .bool false]) ?_ rfl ⟨rfl, ?_⟩
    · simp [results, Try.results52, go_sem, r0, l3]
    · first
      | exact hB1.setCell (p := ⟨w.heap.size, 0, none⟩) (Nat.le_refl _) _
      | exact (hB1.alloc (by omega) _).setCell (p := ⟨w.heap.size, 0, none⟩) (Nat.le_refl _) _
      | exact (hB1.setCell (p := ⟨w.heap.size, 0, none⟩) (Nat.le_refl _) _).alloc (by simp; omega) _
theorem threes_any (n s : Nat) (w : World) (h2 : n ≤ 12) (hs : s < 2 ^ n) (hp : playB n s = true) :
    Calls Try.prog 56 #[.agg #[.int .i64 (n:Int), .int .i64 (s:Int)]] w fun e w' => e = .returned (.int .i64 ((threeN n s : Nat) : Int)) ∧ Below w.heap.size w w' := by
  have ht := (play_says n s h2 hs hp).2.2.1
  have h3 := ((play_iff n s).1 hp).1
  have hq : threeN n s = (n + 1) * n * (n - 1) / 24 := by omega
  rw [hq]
  have hn : n = 3 ∨ n = 4 ∨ n = 5 ∨ n = 6 ∨ n = 7 ∨ n = 8 ∨ n = 9 ∨ n = 10 ∨ n = 11 ∨ n = 12 := by omega
  clear hp hs h2 h3 ht hq
  rcases hn with rfl | rfl | rfl | rfl | rfl | rfl | rfl | rfl | rfl | rfl
  all_goals
    go_enter Try.func56, Try.ntmps56
    go_wp2
    go_ret
    exact ⟨rfl, (Below.refl _ _).alloc (Nat.le_refl _) _⟩
set_option maxHeartbeats 1000000 in
theorem twice_any (n s : Nat) (w : World) (h2 : n ≤ 12) (hs : s < 2 ^ n) (hp : playB n s = true) :
    Calls Try.prog 58 #[.agg #[.int .i64 (n:Int), .int .i64 (s:Int)]] w fun e w' => e = .returned (.int .i64 ((twiceN n s : Nat) : Int)) ∧ Below w.heap.size w w' := by
  have hmx : Try.prog.follows .mixedOrders = true := by kernel_rfl
  have h3 := ((play_iff n s).1 hp).1
  have hS := fun W => sum_any n s (s ||| 1) W (by omega) h2 hs (or_one_lt n s (by omega) hs)
  rw [twice_sum n s h2 hs hp] at hS
  have HS := Lib.hid hS
  have HW := Lib.hid (fun W => watched_any n s W (by omega) h2 hs)
  clear hS
  generalize twiceN n s = q at *
  generalize s ||| 1 = y at *
  clear hs hp
  go_enter Try.func58, Try.ntmps58
  go_wp2_with fail
  have hA0 := Duo.new w 47 (.int .i64 (n:Int)) (.int .i64 (s:Int))
  have hB0 : Below w.heap.size w (w.alloc (.cells #[.int .i64 (n:Int), .int .i64 (s:Int)] 47)) := (Below.refl _ _).alloc (Nat.le_refl _) _
  obtain ⟨W0, hW0⟩ : ∃ W0, w.alloc (.cells #[.int .i64 (n:Int), .int .i64 (s:Int)] 47) = W0 := ⟨_, rfl⟩
  rw [hW0] at hA0 hB0 ⊢
  clear hW0
  have hB0 : Below w.heap.size w W0.drew := hB0.drew
  have hA0 : Duo W0.drew w.heap.size 47 (.int .i64 (n:Int)) (.int .i64 (s:Int)) := hA0
  refine wp_region_held_drew (S := fun W => Duo W w.heap.size 47 (.int .i64 (n:Int)) (.int .i64 (s:Int))) hmx hA0 (fun _ => ?_)
  generalize W0.drew = W4 at *
  refine take1 0 (v := ?_) rfl (by kernel_rfl) (by kernel_rfl) (by kernel_rfl) (fun _ _ _ h => h) (by rfl) ?_ hA0 ?_
  rotate_left
  · intro W9 hA
    have hX := hA
    clear hA
    have c0 := hX.cell0
    have c1 := hX.cell1
    clear hX
    go_simp
    try with_reducible rfl
  try simp only [Act.put, List.setIfInBounds_toArray, List.set_cons_zero, List.set_cons_succ]
  refine take1 1 (v := ?_) rfl (by kernel_rfl) (by kernel_rfl) (by kernel_rfl) (fun _ _ _ h => h) (by rfl) ?_ hA0 ?_
  rotate_left
  · intro W9 hA
    have hX := hA
    clear hA
    have c0 := hX.cell0
    have c1 := hX.cell1
    clear hX
    go_simp
    try with_reducible rfl
  try simp only [Act.put, List.setIfInBounds_toArray, List.set_cons_zero, List.set_cons_succ]
  refine take1 2 (v := ?_) rfl (by kernel_rfl) (by kernel_rfl) (by kernel_rfl) (fun _ _ _ h => h) (by rfl) ?_ hA0 ?_
  rotate_left
  · intro W9 hA
    have hX := hA
    clear hA
    have c0 := hX.cell0
    have c1 := hX.cell1
    clear hX
    go_simp
    try with_reducible rfl
  try simp only [Act.put, List.setIfInBounds_toArray, List.set_cons_zero, List.set_cons_succ]
  refine take1 3 (v := ?_) rfl (by kernel_rfl) (by kernel_rfl) (by kernel_rfl) (fun _ _ _ h => h) (by rfl) ?_ hA0 ?_
  rotate_left
  · intro W9 hA
    have hX := hA
    clear hA
    have c0 := hX.cell0
    have c1 := hX.cell1
    clear hX
    go_simp
    try with_reducible rfl
  try simp only [Act.put, List.setIfInBounds_toArray, List.set_cons_zero, List.set_cons_succ]
  refine take1 4 (v := ?_) rfl (by kernel_rfl) (by kernel_rfl) (by kernel_rfl) (fun _ _ _ h => h) (by rfl) ?_ hA0 ?_
  rotate_left
  · intro W9 hA
    have hX := hA
    clear hA
    have c0 := hX.cell0
    have c1 := hX.cell1
    clear hX
    go_simp
    try with_reducible rfl
  try simp only [Act.put, List.setIfInBounds_toArray, List.set_cons_zero, List.set_cons_succ]
  refine take1 5 (v := ?_) rfl (by kernel_rfl) (by kernel_rfl) (by kernel_rfl) (fun _ _ _ h => h) (by rfl) ?_ hA0 ?_
  rotate_left
  · intro W9 hA
    have hX := hA
    clear hA
    have c0 := hX.cell0
    have c1 := hX.cell1
    clear hX
    go_simp
    try with_reducible rfl
  try simp only [Act.put, List.setIfInBounds_toArray, List.set_cons_zero, List.set_cons_succ]
  refine take1 6 (v := ?_) rfl (by kernel_rfl) (by kernel_rfl) (by kernel_rfl) (fun _ _ _ h => h) (by rfl) ?_ hA0 ?_
  rotate_left
  · intro W9 hA
    have hX := hA
    clear hA
    have c0 := hX.cell0
    have c1 := hX.cell1
    clear hX
    go_simp
    try with_reducible rfl
  try simp only [Act.put, List.setIfInBounds_toArray, List.set_cons_zero, List.set_cons_succ]
  refine take1 7 (v := ?_) rfl (by kernel_rfl) (by kernel_rfl) (by kernel_rfl) (fun _ _ _ h => h) (by rfl) ?_ hA0 ?_
  rotate_left
  · intro W9 hA
    have hX := hA
    clear hA
    have c0 := hX.cell0
    have c1 := hX.cell1
    clear hX
    go_simp
    try with_reducible rfl
  try simp only [Act.put, List.setIfInBounds_toArray, List.set_cons_zero, List.set_cons_succ]
  refine step1 8 (by kernel_rfl) rfl (fun K hK => ?_)
  go_simp
  refine (HW.out _).mono ?_
  rintro e W1' ⟨rfl, hb1⟩
  go_wp2_with fail
  have hA1 := duo_below hA0 hA0.lt hb1
  have hB1 := hB0.trans (hb1.mono hB0.size)
  refine hK.out _ _ hA1 ?_
  clear hK K
  try simp only [Act.put, List.setIfInBounds_toArray, List.set_cons_zero, List.set_cons_succ]
  refine step1 9 (by kernel_rfl) rfl (fun K hK => ?_)
  go_simp
  refine (HS.out _).mono ?_
  rintro e W2' ⟨rfl, hb2⟩
  go_wp2_with fail
  have hA2 := duo_below hA1 hA1.lt hb2
  have hB2 := hB1.trans (hb2.mono hB1.size)
  refine hK.out _ _ hA2 ?_
  clear hK K
  try simp only [Act.put, List.setIfInBounds_toArray, List.set_cons_zero, List.set_cons_succ]
  refine take1 10 (v := ?_) rfl (by kernel_rfl) (by kernel_rfl) (by kernel_rfl) (fun _ _ _ h => h) (by rfl) ?_ hA2 ?_
  rotate_left
  · intro W9 hA
    have hX := hA
    clear hA
    have c0 := hX.cell0
    have c1 := hX.cell1
    clear hX
    go_simp
    try with_reducible rfl
  try simp only [Act.put, List.setIfInBounds_toArray, List.set_cons_zero, List.set_cons_succ]
  refine stop1 (by kernel_rfl) ?_
  go_wp2
  go_ret
  exact ⟨rfl, hB2⟩
end Go.Proofs.Ytaklmepioeoohaa

/- Plays, the program's side: the plays that the iterator yields. Written by gen94.py. -/
namespace Go.Proofs.Ytaklmepioeoohaa
open Go.RowKit Go.Shelf
set_option linter.unusedVariables false
attribute [local go_sem] Oper.semAt_some
set_option maxHeartbeats 1000000 in
theorem sets1_isPlay (m : Nat) (hm : 1 ≤ m) (l R H n₀ n : Nat) (h1 : 1 ≤ n) (h2 : n ≤ 12) (p : Nat → Bool) (hF : ∀ x : Nat, x < 2 ^ n → ∀ W, Calls Try.prog 72 #[.agg #[.int .i64 (n:Int)], .int .i64 (x:Int)] W fun e w' => e = .returned (.bool (p x)) ∧ Below W.heap.size W w') (B : Nat) (J Jx : List (Fin (2 ^ n)) → World → Prop) (hJ : AbidesFrom B J)
    (hY : ∀ pre x W, J pre W → pre.length < 5000 → YieldAt Fence.wide (m - 1) Try.prog l #[.int .i64 (x.val : Int)] W fun e W' =>
      (e = .returned (.bool true) ∧ J (pre ++ [x]) W' ∧ KS R H n₀ W W') ∨ (e = .returned (.bool false) ∧ Jx (pre ++ [x]) W'))
    (W : World) (hR : Boxed W R 42 (.int .i64 (n:Int))) (hH : Boxed W H 81 (.func (.func 72) #[.agg #[.int .i64 (n:Int)]] #[])) (h0 : J [] W) :
    CallsIn Fence.wide m Try.prog 94 #[.func (.yield l) #[] #[], .pointer (some ⟨R, 0, none⟩), .pointer (some ⟨H, 0, none⟩)] W fun e W' => (∃ v, e = .returned v) ∧
      ((∃ ys, ys = comeP (p) (2 ^ n) (2 ^ n) ∧ J ys W') ∨ (∃ pre, True ∧ Jx pre W')) := by
  have hp := pow_le n h2
  have hp1 := Nat.two_pow_pos n
  have HA := Lib.hid (fun W => all_any n W h2)
  have HF := Lib.hid hF
  clear hF
  have HLn := Lib.hid (fun k => comeP_len (p) (2 ^ n) k)
  have HCy := Lib.hid (fun k hk hb => comeP_yes (p := p) (N := 2 ^ n) (k := k) hk hb)
  have HCn := Lib.hid (fun k hb => comeP_no (p := p) (N := 2 ^ n) (k := k) hb)
  refine callsIn_of_wp Try.func94 rfl trivial ?_ rfl
  simp only [Try.ntmps94, List.size_toArray, List.length_cons, List.length_nil, Nat.reduceAdd, Nat.reduceSub, Array.replicate_succ, Array.replicate_zero, List.push_toArray, List.append_toArray, List.nil_append, List.cons_append]
  gi_wp2
  gi_loopw [4] (fun v wr => ∃ k : Nat, v = .int .i64 (k:Int) ∧ k ≤ 2 ^ n ∧ Boxed wr R 42 (.int .i64 (n:Int)) ∧ Boxed wr H 81 (.func (.func 72) #[.agg #[.int .i64 (n:Int)]] #[]) ∧ J (comeP (p) (2 ^ n) k) wr)
    (fun v _ => 2 ^ n - (intOf v).toNat)
  case atStart => exact ⟨0, rfl, Nat.zero_le _, hR, hH, h0⟩
  case round =>
    obtain ⟨k, rfl, hk, bR, bH, hJk⟩ := hrel
    have cR := bR.cell
    have lR := bR.lt
    have lH := bH.lt
    by_cases hlt : k < 2 ^ n
    · have t1 : (k : Int) ≤ ((2 ^ n - 1 : Nat) : Int) := by omega
      have HFk := Lib.hid (HF.out k hlt)
      have HLk := Lib.hid (show (comeP (p) (2 ^ n) k).length < 5000 by have := HLn.out k; omega)
      generalize 2 ^ n - 1 = M at *
      have hwk : IntKind.i64.wrap ((k : Int) + 1) = ((k + 1 : Nat) : Int) := by rw [IntWalk.i64_in _ ⟨by omega, by omega⟩]; rfl
      cases hpk : p k
      · rw [hpk] at HFk
        have HE := Lib.hid (HCn.out k hpk)
        clear hY
        gi_wp2_with (first
          | (refine ⟨trivial, ?_⟩; gi_at_call 75; refine (callsIn_wide.2 (HA.out _)).mono ?_; rintro e w2 ⟨rfl, hb2⟩; have bR2 := boxed_below bR lR hb2; have bH2 := boxed_below bH lH hb2; have cH2 := bH2.cell; have hJ2 := abides_below hJ hJk hb2)
          | (refine ⟨trivial, ?_⟩; gi_at_call 72; refine (callsIn_wide.2 (HFk.out _)).mono ?_; rintro e w3 ⟨rfl, hb3⟩; have bR3 := boxed_below bR2 bR2.lt hb3; have bH3 := boxed_below bH2 bH2.lt hb3; have hJ3 := abides_below hJ hJ2 hb3))
        all_goals (try (refine ⟨fun _ h => (by cases h), ?_⟩; gi_wp2))
        go_roundw
        case rel => exact ⟨k + 1, by go_num, by omega, bR3, bH3, by rw [HE.out]; exact hJ3⟩
        case measure => simp [intOf]; omega
      · rw [hpk] at HFk
        have HE := Lib.hid (HCy.out k hlt hpk)
        have HY := Lib.hid hY
        clear hY
        gi_wp2_with (first
          | (refine ⟨trivial, ?_⟩; gi_at_call 75; refine (callsIn_wide.2 (HA.out _)).mono ?_; rintro e w2 ⟨rfl, hb2⟩; have bR2 := boxed_below bR lR hb2; have bH2 := boxed_below bH lH hb2; have cH2 := bH2.cell; have hJ2 := abides_below hJ hJk hb2)
          | (refine ⟨trivial, ?_⟩; gi_at_call 72; refine (callsIn_wide.2 (HFk.out _)).mono ?_; rintro e w3 ⟨rfl, hb3⟩; have bR3 := boxed_below bR2 bR2.lt hb3; have bH3 := boxed_below bH2 bH2.lt hb3; have hJ3 := abides_below hJ hJ2 hb3; obtain ⟨fn, tmps, assign, body, hy, hRn⟩ := HY.out _ ⟨k, hlt⟩ w3 hJ3 HLk.out; dsimp only at hy))
        refine hRn.mono ?_
        rintro e W4 (⟨rfl, hJ4, hk4⟩ | ⟨rfl, hJx4⟩)
        · have bR4 := hk4.1.box _ _ bR3
          have bH4 := hk4.2.box _ _ bH3
          gi_wp2
          go_roundw
          case rel => exact ⟨k + 1, by go_num, by omega, bR4, bH4, by rw [HE.out]; exact hJ4⟩
          case measure => simp [intOf]; omega
        · gi_wp2
          refine bodyPost_ret (results_none rfl _ _ _) rfl ?_
          exact ⟨⟨_, rfl⟩, .inr ⟨_, trivial, hJx4⟩⟩
    · have HK : Hid (k = 2 ^ n) := Lib.hid (by omega)
      have t1 : ¬ ((k : Int) ≤ ((2 ^ n - 1 : Nat) : Int)) := by omega
      generalize 2 ^ n - 1 = M at *
      have hJe : J (comeP (p) (2 ^ n) (2 ^ n)) wr := by
        have h := hJk
        rw [congrArg (comeP (p) (2 ^ n)) HK.out] at h
        exact h
      have HJJ := Lib.hid (fun W' (hb : Below wr.heap.size wr W') => abides_below hJ hJe hb)
      clear hY hJk hJ hk hlt hJe
      gi_wp2_with (refine ⟨trivial, ?_⟩; gi_at_call 75; refine (callsIn_wide.2 (HA.out _)).mono ?_; rintro e w2 ⟨rfl, hb2⟩)
      go_end0
      exact ⟨⟨_, rfl⟩, .inl ⟨_, rfl, HJJ.out _ hb2⟩⟩
theorem stops_isPlay (m : Nat) (hm : 1 ≤ m) (R H n₀ n : Nat) (h1 : 1 ≤ n) (h2 : n ≤ 12) (w : World) (hR : Boxed w R 42 (.int .i64 (n:Int))) (hH : Boxed w H 81 (.func (.func 72) #[.agg #[.int .i64 (n:Int)]] #[])) :
    SeqStopsK Fence.wide m Try.prog 94 #[.pointer (some ⟨R, 0, none⟩), .pointer (some ⟨H, 0, none⟩)] (fun x : Fin (2 ^ n) => #[Value.int .i64 (x.val : Int)]) (KS R H n₀) (fun ys => ys = comeP (playB n) (2 ^ n) (2 ^ n)) (fun _ => True) 5000 w := fun l J Jx W hW hJ _ hY h0 =>
  sets1_isPlay m hm l R H n₀ n h1 h2 (playB n) (fun x hx W => isPlay_any n x W h1 h2 hx) W.heap.size J Jx hJ hY W (boxed_below hR hR.lt hW) (boxed_below hH hH.lt hW) h0
end Go.Proofs.Ytaklmepioeoohaa

/- Plays, the program's side: all plays of a ring. Written by gen96.py. -/
namespace Go.Proofs.Ytaklmepioeoohaa
open Go.RowKit Go.Shelf
set_option linter.unusedVariables false
attribute [local go_sem] Oper.semAt_some
/-- The cells of a list of plays. -/
def playCells (n : Nat) (xs : List Int) : List Value := xs.flatMap fun x => [.int .i64 (n:Int), .int .i64 x]
/-- v reads as a list of plays of a ring of n, in memory from block b on. -/
def IsPlays (W : World) (b : Nat) (v : Value) (n : Nat) (xs : List Int) : Prop := W.ownsRow b 47 2 v xs.length (playCells n xs)
theorem playCells_len (n : Nat) (xs : List Int) : (playCells n xs).length = xs.length * 2 := by
  induction xs with
  | nil => rfl
  | cons x xs ih =>
    show ([Value.int .i64 (n:Int), .int .i64 x] ++ playCells n xs).length = _
    rw [List.length_append, ih, List.length_cons]
    simp; omega
theorem playCells_at (n : Nat) (xs : List Int) (i : Nat) (hi : i < xs.length) : (playCells n xs)[i * 2]? = some (.int .i64 (n:Int)) ∧ (playCells n xs)[i * 2 + 1]? = some (.int .i64 (xs.getD i 0)) := by
  induction xs generalizing i with
  | nil => exact absurd hi (Nat.not_lt_zero _)
  | cons x xs ih =>
    have e : playCells n (x :: xs) = [Value.int .i64 (n:Int), .int .i64 x] ++ playCells n xs := rfl
    rw [e]
    cases i with
    | zero => exact ⟨rfl, rfl⟩
    | succ i =>
      have hi' : i < xs.length := by simpa using hi
      obtain ⟨a, b⟩ := ih i hi'
      have e1 : (i + 1) * 2 = i * 2 + 1 + 1 := by omega
      have e2 : (i + 1) * 2 + 1 = i * 2 + 1 + 1 + 1 := by omega
      rw [e1]
      exact ⟨a, b⟩
theorem IsPlays.cells {W : World} {b g cap len n : Nat} {xs : List Int} (h : IsPlays W b (.slice (some ⟨g, 0, none⟩) len cap) n xs) {i : Nat} (hi : i < xs.length) : W.cell? ⟨g, i * 2, none⟩ = some (.int .i64 (n:Int)) ∧ W.cell? ⟨g, i * 2 + 1, none⟩ = some (.int .i64 (xs.getD i 0)) := by
  obtain ⟨a, c⟩ := playCells_at n xs i hi
  have h2 := World.ownsRow.cells h (g := g) rfl (i * 2) _ a
  have h3 := World.ownsRow.cells h (g := g) rfl (i * 2 + 1) _ c
  have hadd : ∀ j, (⟨g, 0, none⟩ : Addr).add j = ⟨g, j, none⟩ := fun j => by unfold Addr.add; split <;> simp_all
  rw [hadd] at h2 h3
  exact ⟨h2, h3⟩
theorem IsPlays.below {W W' : World} {b n : Nat} {v : Value} {xs : List Int} (h : IsPlays W b v n xs) {N : Nat} (hN : ∀ g, v.ownBlock = some g → g < N) (hb : Below N W W') : IsPlays W' b v n xs := by
  refine ⟨h.1, ?_⟩
  rcases h.2 with hn | ⟨g, cap, cur, rfl, h1, hgg, rest⟩
  · exact .inl hn
  · exact .inr ⟨g, cap, cur, rfl, h1, (hb.block g (hN g rfl)).trans hgg, rest⟩
theorem IsPlays.belowAll {W W' : World} {b n : Nat} {v : Value} {xs : List Int} (h : IsPlays W b v n xs) (hb : Below W.heap.size W W') : IsPlays W' b v n xs :=
  h.below (fun g hg => (World.ownsRow.lt h g hg).2) hb
theorem IsPlays.base {W : World} {b b' n : Nat} {v : Value} {xs : List Int} (h : IsPlays W b v n xs) (hb : b' ≤ b) : IsPlays W b' v n xs := by
  refine ⟨h.1, ?_⟩
  rcases h.2 with hn | ⟨g, cap, cur, rfl, h1, rest⟩
  · exact .inl hn
  · exact .inr ⟨g, cap, cur, rfl, by omega, rest⟩
theorem IsPlays.shape {W : World} {b n : Nat} {v : Value} {xs : List Int} (h : IsPlays W b v n xs) : (v = .slice none 0 0 ∧ xs = []) ∨ ∃ g cap, v = .slice (some ⟨g, 0, none⟩) xs.length cap ∧ b ≤ g := by
  rcases h.2 with ⟨a, c⟩ | ⟨g, cap, cur, rfl, h1, _⟩
  · exact .inl ⟨a, List.eq_nil_of_length_eq_zero c⟩
  · exact .inr ⟨g, cap, rfl, h1⟩
theorem Try.infoPlay : (Try.prog.info? 47).map (fun i => (i.zero, i.size, i.bytes)) = some (some (.agg #[.int .i64 0, .int .i64 0]), 2, 16) := by kernel_rfl
theorem snoc_plays {W : World} {b n : Nat} {v : Value} {xs : List Int} {z : Int} (h : W.ownsRow b 47 2 v (xs.length + 1) (playCells n xs ++ [.int .i64 (n:Int), .int .i64 z])) : IsPlays W b v n (xs ++ [z]) := by
  unfold IsPlays playCells at *
  rw [List.length_append, List.flatMap_append]
  exact h
theorem wp_append_play {o : Oper} {act : Act} {K : Act → World → Prop} {Q : Exit → Act → World → Prop} (s x : Operand) (ho : o.op = .call { callee := .builtin .append, args := #[s, x], argTypes := #[59, 59] })
    (a : Value) (n : Nat) (xs : List Int) (r : Int) (W : World) (N : Nat) (hs : act.eval s = a) (hx : act.eval x = .slice (some ⟨W.heap.size, 0, none⟩) 1 1) (hO : IsPlays W N a n xs) (hl : xs.length ≤ 100000) (hN : N ≤ W.heap.size)
    (h : ∀ (v' : Value) (w1 : World), IsPlays w1 N v' n (xs ++ [r]) → (W.alloc (.cells #[.int .i64 (n:Int), .int .i64 r] 47)).grownBy w1 a.ownBlock → K (act.put o.dst v') w1) : o.wp Try.prog act (W.alloc (.cells #[.int .i64 (n:Int), .int .i64 r] 47)) K Q := by
  obtain ⟨i0, hi, hz0, hz1, hz2⟩ := info_parts Try.infoPlay
  have hO2 : (W.alloc (.cells #[.int .i64 (n:Int), .int .i64 r] 47)).ownsRow N 47 2 a xs.length (playCells n xs) := World.ownsRow.alloc hO _
  have hc1 : ∀ j u, [Value.int .i64 (n:Int), .int .i64 r][j]? = some u → (W.alloc (.cells #[.int .i64 (n:Int), .int .i64 r] 47)).cell? ((⟨W.heap.size, 0, none⟩ : Addr).add j) = some u := by
    intro j u hj
    have hd := Duo.new W 47 (.int .i64 (n:Int)) (.int .i64 r)
    have hadd : ∀ j, (⟨W.heap.size, 0, none⟩ : Addr).add j = ⟨W.heap.size, j, none⟩ := fun j => by unfold Addr.add; split <;> simp_all
    rw [hadd]
    match j with
    | 0 => simp at hj; subst hj; exact hd.cell0
    | 1 => simp at hj; subst hj; exact hd.cell1
    | j + 2 => simp at hj
  have hc2 : ∀ u ∈ [Value.int .i64 (n:Int), .int .i64 r], u.oneCell' = true := by intro u hu; simp at hu; rcases hu with rfl | rfl <;> rfl
  have hc3 : xs.length + 1 ≤ maxLen := by unfold maxLen; omega
  have hc4 : N ≤ (W.alloc (.cells #[.int .i64 (n:Int), .int .i64 r] 47)).heap.size := by simp; omega
  refine wp_append_own (W.alloc (.cells #[.int .i64 (n:Int), .int .i64 r] 47)) s x 59 ho N 47 i0 (.agg #[.int .i64 0, .int .i64 0]) 2 16 Try.underlying59 hi hz0 hz1 hz2 rfl (by decide) a xs.length _ hs hO2 ⟨W.heap.size, 0, none⟩ 1 1 [.int .i64 (n:Int), .int .i64 r] hx rfl hc1 hc2 hc3 (by omega) hc4 fun v' w1 hown' hgrow hiff => ?_
  exact h v' w1 (snoc_plays hown') hgrow
theorem wpListIn_append_play {l m : Nat} {ops : Array Oper} {rest : List Oper} {o : Oper} {act : Act} {Q : Exit → Act → World → Prop} (hgd : Region.wanted o (yielded ops act.tmps) = true) (hd : noDefer o = true) (hlo : ¬ LetsOut Q) (s x : Operand) (ho : o.op = .call { callee := .builtin .append, args := #[s, x], argTypes := #[59, 59] })
    (a : Value) (n : Nat) (xs : List Int) (r : Int) (W : World) (N : Nat) (hs : act.eval s = a) (hx : act.eval x = .slice (some ⟨W.heap.size, 0, none⟩) 1 1) (hO : IsPlays W N a n xs) (hl : xs.length ≤ 100000) (hN : N ≤ W.heap.size)
    (h : ∀ (v' : Value) (w1 : World), IsPlays w1 N v' n (xs ++ [r]) → (W.alloc (.cells #[.int .i64 (n:Int), .int .i64 r] 47)).grownBy w1 a.ownBlock → wpListIn (Fence.wide.inRound l) m Try.prog ops Q rest (act.put o.dst v') w1) : wpListIn (Fence.wide.inRound l) m Try.prog ops Q (o :: rest) act (W.alloc (.cells #[.int .i64 (n:Int), .int .i64 r] 47)) :=
  BigFrame.wpListIn_want hgd fun K hK => wpInR_of_wp hd hlo (wp_append_play s x ho a n xs r W N hs hx hO hl hN fun v' w1 h1 h2 => hK _ _ (h v' w1 h1 h2))
theorem boxPlays_own {β : Type} (N B n : Nat) (t : TypeId) (f : β → List Int) : Own (fun s W => ∃ v, Boxed W B t v ∧ IsPlays W N v n (f s)) := by
  intro s X Y row h hg hrow
  obtain ⟨v, h1, h2⟩ := h
  obtain ⟨v', a, b, c⟩ := holdsRow_own (β := β) N B t 47 2 (fun s => (f s).length) (fun s => playCells n (f s)) (fun _ _ => True) s X Y row ⟨v, h1, h2, trivial⟩ hg hrow
  exact ⟨v', a, b⟩
theorem snoc_playShape {W : World} {N n : Nat} {v : Value} {xs : List Int} {r : Int} (h : IsPlays W N v n (xs ++ [r])) : ∃ g cap, v = .slice (some ⟨g, 0, none⟩) (xs.length + 1) cap := by
  rcases h.shape with ⟨_, hnil⟩ | ⟨g, cap, e, _⟩
  · simp at hnil
  · exact ⟨g, cap, by rw [e, List.length_append]; rfl⟩
theorem plays_step {W w1 : World} {T N n₀ n : Nat} {t : TypeId} {ov v' : Value} {m ys : List Int} {tmp : Obj} (hv : Boxed W T t ov) (hO : IsPlays W N ov n m) (hT : T < N) (hn : n₀ ≤ T) (hN : N ≤ W.heap.size) (hI : IsPlays w1 N v' n ys) (hg : (W.alloc tmp).grownBy w1 ov.ownBlock) :
    Boxed w1 T t ov ∧ Boxed (w1.setCell ⟨T, 0, none⟩ v') T t v' ∧ IsPlays (w1.setCell ⟨T, 0, none⟩ v') N v' n ys ∧ KeepsOthers W (w1.setCell ⟨T, 0, none⟩ v') ∧ (∀ Bn, Bn ≠ T → Bn < N → KB Bn n₀ W (w1.setCell ⟨T, 0, none⟩ v')) := by
  have hne : ∀ k, k < N → some k ≠ ov.ownBlock := fun k hk e => by
    have := (World.ownsRow.lt hO k e.symm).1
    omega
  have hv1 : Boxed w1 T t ov := (hv.alloc tmp).kept hg (hne T hT)
  refine ⟨hv1, hv1.set v', World.ownsRow.kept hI (grownBy_setCell' w1 T v') ?_, ?_, fun Bn h1 h2 => ⟨fun t u hb => ?_, ?_⟩⟩
  · cases hv' : v'.ownBlock with
    | none => exact .inl rfl
    | some g =>
      refine .inr fun e => ?_
      have := (World.ownsRow.lt hI g hv').1
      injection e with e
      omega
  · refine ((KeepsOthers.alloc W tmp).trans (KeepsOthers.of_grownBy hg fun j o ej hj => ?_)).trans (KeepsOthers.setCell _ _ _)
    rcases (World.ownsRow.alloc hO tmp).2 with ⟨rfl, _⟩ | ⟨g, cap, cur, rfl, _, hgb, _⟩
    · simp [Value.ownBlock] at ej
    · obtain rfl : g = j := by simpa [Value.ownBlock] using ej
      rw [hgb] at hj; cases hj; rfl
  · exact ((hb.alloc tmp).kept hg (hne Bn h2)).other h1 v'
  · refine (((Below.refl n₀ W).alloc (by omega) tmp).grown hg (by simp; omega) fun j ej => ?_).setCell (p := ⟨T, 0, none⟩) hn v'
    have := (World.ownsRow.lt hO j ej).1
    omega
set_option maxRecDepth 100000 in
set_option maxHeartbeats 4000000 in
theorem plays_any (n : Nat) (w : World) (h1 : 1 ≤ n) (h2 : n ≤ 12) :
    Calls Try.prog 53 #[.agg #[.int .i64 (n:Int)]] w fun e w' => ∃ sv, e = .returned sv ∧ Below w.heap.size w w' ∧ IsPlays w' w.heap.size sv n (playL n (2 ^ (n - 1))) := by
  have hp := pow_le n h2
  have hrun := plays_run n (playB n) (fun _ => rfl) (2 ^ (n - 1))
  rw [← half_pow n h1] at hrun
  have HRun := Lib.hid hrun
  clear hrun
  refine (callsIn_wide (n := 9)).1 ?_
  refine callsIn_of_wp_marks Try.func53 rfl trivial ?_ rfl
  simp only [Try.ntmps53, List.size_toArray, List.length_cons, List.length_nil, Nat.reduceAdd, Nat.reduceSub, Array.replicate_succ, Array.replicate_zero, List.push_toArray, List.append_toArray, List.nil_append, List.cons_append]
  have bR0 := Boxed.new w 42 (.int .i64 (n:Int))
  have c0 := bR0.cell
  gi_wp2_with (refine ⟨trivial, ?_⟩; gi_at_call 81; refine (callsIn_wide.2 (setsThat_any _ _ _ _ _)).mono ?_; rintro e W1 ⟨rfl, rfl⟩)
  clear c0
  have bS := ((bR0.alloc (.cells #[.slice none 0 0] 59)).alloc (.cells #[.int .i64 (n:Int)] 42)).alloc (.cells #[.func (.func 72) #[.agg #[.int .i64 (n:Int)]] #[]] 81)
  have bT := ((Boxed.new (w.alloc (.cells #[.int .i64 (n:Int)] 42)) 59 (.slice none 0 0)).alloc (.cells #[.int .i64 (n:Int)] 42)).alloc (.cells #[.func (.func 72) #[.agg #[.int .i64 (n:Int)]] #[]] 81)
  have bR := (Boxed.new ((w.alloc (.cells #[.int .i64 (n:Int)] 42)).alloc (.cells #[.slice none 0 0] 59)) 42 (.int .i64 (n:Int))).alloc (.cells #[.func (.func 72) #[.agg #[.int .i64 (n:Int)]] #[]] 81)
  have bH := Boxed.new (((w.alloc (.cells #[.int .i64 (n:Int)] 42)).alloc (.cells #[.slice none 0 0] 59)).alloc (.cells #[.int .i64 (n:Int)] 42)) 81 (.func (.func 72) #[.agg #[.int .i64 (n:Int)]] #[])
  have hB0 : Below w.heap.size w ((((w.alloc (.cells #[.int .i64 (n:Int)] 42)).alloc (.cells #[.slice none 0 0] 59)).alloc (.cells #[.int .i64 (n:Int)] 42)).alloc (.cells #[.func (.func 72) #[.agg #[.int .i64 (n:Int)]] #[]] 81)) := ((((Below.refl _ w).alloc (Nat.le_refl _) _).alloc (by simp) _).alloc (by simp; omega) _).alloc (by simp; omega) _
  have hsz : ((((w.alloc (.cells #[.int .i64 (n:Int)] 42)).alloc (.cells #[.slice none 0 0] 59)).alloc (.cells #[.int .i64 (n:Int)] 42)).alloc (.cells #[.func (.func 72) #[.agg #[.int .i64 (n:Int)]] #[]] 81)).heap.size = w.heap.size + 4 := by simp
  simp only [World.size_alloc] at bT bR bH
  obtain ⟨W0, hW0⟩ : ∃ W0, ((((w.alloc (.cells #[.int .i64 (n:Int)] 42)).alloc (.cells #[.slice none 0 0] 59)).alloc (.cells #[.int .i64 (n:Int)] 42)).alloc (.cells #[.func (.func 72) #[.agg #[.int .i64 (n:Int)]] #[]] 81)) = W0 := ⟨_, rfl⟩
  rw [hW0] at bS bT bR bH hB0 hsz ⊢
  clear hW0 bR0
  refine wpIn_rangeFunc_ownF rfl (by omega) (gf := 94) (lb := #[.pointer (some ⟨w.heap.size + 1 + 1, 0, none⟩), .pointer (some ⟨w.heap.size + 1 + 1 + 1, 0, none⟩)]) rfl trivial (enters_of Try.func94 (by kernel_rfl) rfl)
    (stops_isPlay 8 (by omega) (w.heap.size + 1 + 1) (w.heap.size + 1 + 1 + 1) w.heap.size n h1 h2 W0 bR bH) KS.trans (KS.put (by omega)) (Below.refl _ _) (fun _ => rfl)
    (fun pre W => ((Boxed W w.heap.size 42 (.int .i64 (n:Int)) ∧ (∃ ov, Boxed W (w.heap.size + 1) 59 ov ∧ IsPlays W (w.heap.size + 4) ov n (foldP appS [] (vals pre)))) ∧ w.heap.size + 4 ≤ W.heap.size) ∧ Below w.heap.size w W)
    (fun _ _ _ => False)
    (OwnFrom.and (OwnFrom.and (OwnFrom.and (Own.from (boxed_own _ _ _) _) (Own.from (boxPlays_own _ _ _ _ _) _)) (size_own _ _)) (ownFrom_below (Nat.le_refl _) (by omega)))
    (fun _ _ _ _ _ hs _ _ => hs)
    ⟨⟨⟨bS, ⟨_, bT, World.ownsRow_nil _ _ _ _⟩⟩, by omega⟩, hB0⟩
    (fun x => { tmps := #[.agg #[.int .i64 (n:Int)], .pointer (some ⟨w.heap.size, 0, none⟩), .slice none 0 0, .pointer (some ⟨w.heap.size + 1, 0, none⟩), .int .i64 (x.val : Int), .agg #[.int .i64 (n:Int)], .agg #[.int .i64 (n:Int)], .func (.func 72) #[.agg #[.int .i64 (n:Int)]] #[], .func (.func 94) #[] #[.pointer (some ⟨w.heap.size + 1 + 1, 0, none⟩), .pointer (some ⟨w.heap.size + 1 + 1 + 1, 0, none⟩)], .int .i64 (x.val : Int), undef, undef, undef, undef, undef, undef, undef, undef], defers := [] }) ?assign ?body ?done ?stop
  case assign =>
    intro l x W K hK
    gi_wp2
    exact hK
  case body =>
    rintro l pre x W ⟨⟨⟨bS1, ⟨ov, bT1, hO⟩⟩, hz4⟩, hB1⟩ hlen
    have hx := x.isLt
    have hsW := hB1.size
    have lT := bT1.lt
    have hz4 : w.heap.size + 4 ≤ W.heap.size := hz4
    have HS := Lib.hid (foldP_snoc appS [] pre x)
    have hc : (foldP appS [] (vals pre)).length < 5000 := by rw [foldP_app]; simpa [vals] using hlen
    have cT := bT1.cell
    have cS := bS1.cell
    have HU : Hid (∀ m : List Int, appS m x.val = m ++ [((x.val : Nat) : Int)]) := Lib.hid (fun m => rfl)
    have HB1 := Lib.hid hB1
    have HZ := Lib.hid (show w.heap.size + 4 ≤ W.heap.size from hz4)
    have HST := Lib.hid (fun v' w1 hI hg => plays_step (v' := v') (w1 := w1) (ys := foldP appS [] (vals pre) ++ [((x.val : Nat) : Int)]) (tmp := .cells #[.int .i64 (n:Int), .int .i64 ((x.val : Nat) : Int)] 47) bT1 hO (n₀ := w.heap.size) (by omega) (by omega) hz4 hI hg)
    generalize foldP appS [] (vals pre) = m at *
    have HO := Lib.hid hO
    have HBT := Lib.hid bT1
    have HBS := Lib.hid bS1
    clear hO hB1 bT1 bS1
    gi_wp2_with (first
      | (gi_at_builtin; go_loud (refine wpListIn_append_play (by rfl) (by rfl) (by exact fun ⟨_, _, h⟩ => h) _ _ rfl ov n m ((x.val : Nat) : Int) W (w.heap.size + 4) rfl rfl HO.out (by omega) HZ.out ?_; intro v' w1 hI1 hg1; obtain ⟨bT2, bT3, hI3, hk3, hkb⟩ := HST.out v' w1 hI1 hg1; obtain ⟨g9, cap9, rfl⟩ := snoc_playShape hI1; have fT := bT2.frozen; have cT1 := bT2.cell; have HI3 := Lib.hid hI3; have HG := Lib.hid hg1; clear hI1 hI3 hg1))
      | go_in)
    exact ⟨hk3, ⟨hkb _ (by omega) (by omega), hkb _ (by omega) (by omega)⟩, ⟨⟨(hkb w.heap.size (by omega) (by omega)).box _ _ HBS.out, ⟨_, bT3, by rw [HS.out, HU.out]; exact HI3.out⟩⟩, Nat.le_trans HZ.out hk3.size⟩, HB1.out.trans (hkb (w.heap.size + 1 + 1) (by omega) (by omega)).below⟩
  case done =>
    rintro D ys W hD rfl ⟨⟨⟨bS1, ⟨ov, bT1, hO⟩⟩, hz4⟩, hB⟩ hK
    have cT := bT1.cell
    rw [foldP_come _ _ _ _ _ (Nat.le_refl _), HRun.out] at hO
    gi_wp2
    refine ⟨by simp, .inl ⟨_, _, rfl, run_takeDeferred hK, ?_⟩⟩
    have hI9 : IsPlays (W.putObj D (.deferred none)) w.heap.size ov n (playL n (2 ^ (n - 1))) := IsPlays.base (b := w.heap.size + 4) (ownsRow_putObj hO _ hK rfl) (by omega)
    exact ⟨_, results_tmp rfl _ _ _, ov, rfl, hB.trans (belowK_b (w := w) (Nat.le_refl _) W D _ _ (by omega) hK rfl rfl), hI9⟩
  case stop =>
    rintro D c pre W _ _ h _
    exact h.elim
end Go.Proofs.Ytaklmepioeoohaa

/- Plays, the program's side: the least turn of a play. Written by gen97.py. -/
namespace Go.Proofs.Ytaklmepioeoohaa
open Go.RowKit Go.Shelf
set_option linter.unusedVariables false
attribute [local go_sem] Oper.semAt_some
set_option maxRecDepth 100000 in
set_option maxHeartbeats 4000000 in
theorem leastTurned_any (n s : Nat) (w : World) (h1 : 1 ≤ n) (h2 : n ≤ 12) (hs : s < 2 ^ n) :
    Calls Try.prog 66 #[.agg #[.int .i64 (n:Int), .int .i64 (s:Int)]] w fun e w' => e = .returned (.agg #[.int .i64 (n:Int), .int .i64 ((lturnN n s : Nat) : Int)]) ∧ Below w.heap.size w w' := by
  have hD0 := Duo.new w 47 (.int .i64 (n:Int)) (.int .i64 (s:Int))
  have d0 := hD0.cell0
  have d1 := hD0.cell1
  refine (callsIn_wide (n := 9)).1 ?_
  refine callsIn_of_wp_marks Try.func66 rfl trivial ?_ rfl
  simp only [Try.ntmps66, List.size_toArray, List.length_cons, List.length_nil, Nat.reduceAdd, Nat.reduceSub, Array.replicate_succ, Array.replicate_zero, List.push_toArray, List.append_toArray, List.nil_append, List.cons_append]
  gi_wp2_with (first | (refine ⟨trivial, ?_⟩; gi_at_call 68; refine (callsIn_wide.2 (units_any n _ h1 h2)).mono ?_; rintro e W1 ⟨rfl, hb1⟩) | (refine ⟨trivial, ?_⟩; gi_at_call 76; refine (callsIn_wide.2 (places_any _ _)).mono ?_; rintro e w' ⟨rfl, rfl⟩))
  have bP0 := (hD0.alloc (.cells #[.int .i64 0, .int .i64 0] 47)).alloc (.cells #[.int .i64 (s:Int)] 43)
  have bR0 := (Duo.new (w.alloc (.cells #[.int .i64 (n:Int), .int .i64 (s:Int)] 47)) 47 (.int .i64 0) (.int .i64 0)).alloc (.cells #[.int .i64 (s:Int)] 43)
  have bT0 := Boxed.new ((w.alloc (.cells #[.int .i64 (n:Int), .int .i64 (s:Int)] 47)).alloc (.cells #[.int .i64 0, .int .i64 0] 47)) 43 (.int .i64 (s:Int))
  simp only [World.size_alloc] at bR0 bT0
  have hA0 : Below w.heap.size w (((w.alloc (.cells #[.int .i64 (n:Int), .int .i64 (s:Int)] 47)).alloc (.cells #[.int .i64 0, .int .i64 0] 47)).alloc (.cells #[.int .i64 (s:Int)] 43)) := (((Below.refl _ w).alloc (Nat.le_refl _) _).alloc (by simp) _).alloc (by simp; omega) _
  have hz0 : (((w.alloc (.cells #[.int .i64 (n:Int), .int .i64 (s:Int)] 47)).alloc (.cells #[.int .i64 0, .int .i64 0] 47)).alloc (.cells #[.int .i64 (s:Int)] 43)).heap.size = w.heap.size + 3 := by simp
  clear d0 d1 hD0
  obtain ⟨A0, hA⟩ : ∃ A0, (((w.alloc (.cells #[.int .i64 (n:Int), .int .i64 (s:Int)] 47)).alloc (.cells #[.int .i64 0, .int .i64 0] 47)).alloc (.cells #[.int .i64 (s:Int)] 43)) = A0 := ⟨_, rfl⟩
  rw [hA] at hb1 hA0 hz0 bP0 bR0 bT0
  clear hA
  have hz1 := hb1.size
  have bP := (duo_below bP0 bP0.lt hb1).alloc (.cells #[.int .i64 ((unitsN n : Nat) : Int)] 43)
  have bR := (duo_below bR0 bR0.lt hb1).alloc (.cells #[.int .i64 ((unitsN n : Nat) : Int)] 43)
  have bT := (boxed_below bT0 bT0.lt hb1).alloc (.cells #[.int .i64 ((unitsN n : Nat) : Int)] 43)
  have bI := Boxed.new W1 43 (.int .i64 ((unitsN n : Nat) : Int))
  have hB0 : Below w.heap.size w (W1.alloc (.cells #[.int .i64 ((unitsN n : Nat) : Int)] 43)) := (hA0.trans (hb1.mono (by omega))).alloc (by omega) _
  have hsz : (W1.alloc (.cells #[.int .i64 ((unitsN n : Nat) : Int)] 43)).heap.size = W1.heap.size + 1 := by simp
  obtain ⟨W0, hW0⟩ : ∃ W0, W1.alloc (.cells #[.int .i64 ((unitsN n : Nat) : Int)] 43) = W0 := ⟨_, rfl⟩
  rw [hW0] at bP bR bT bI hB0 hsz ⊢
  clear hW0
  refine wpIn_rangeFunc_ownF rfl (by omega) (gf := 93) (lb := #[.pointer (some ⟨W1.heap.size, 0, none⟩)]) rfl trivial (enters_of Try.func93 (by kernel_rfl) rfl)
    (places_stops 8 (by omega) W1.heap.size w.heap.size n (unitsN n) (unitsN_lt n) h2 W0 bI) KB.trans (KB.put (by omega)) (Below.refl _ _) (fun _ => rfl)
    (fun pre W => ((Duo W w.heap.size 47 (.int .i64 (n:Int)) (.int .i64 (s:Int)) ∧ Duo W (w.heap.size + 1) 47 (.int .i64 0) (.int .i64 0)) ∧ Boxed W (w.heap.size + 1 + 1) 43 (.int .i64 ((fold (lturnS n s) s (vals pre) : Nat) : Int))) ∧ Below w.heap.size w W)
    (fun _ _ _ => False)
    (OwnFrom.and (OwnFrom.and (OwnFrom.and (Own.from (duo_own _ _ _ _) _) (Own.from (duo_own _ _ _ _) _)) (Own.from (boxed_own _ _ _) _)) (ownFrom_below (Nat.le_refl _) (by omega)))
    (fun _ _ _ _ _ hs _ _ => hs)
    ⟨⟨⟨bP, bR⟩, bT⟩, hB0⟩
    (fun x => { tmps := #[.agg #[.int .i64 (n:Int), .int .i64 (s:Int)], .pointer (some ⟨w.heap.size, 0, none⟩), .pointer (some ⟨w.heap.size + 1, 0, none⟩), .pointer (some ⟨w.heap.size + 1 + 1, 0, none⟩), .int .i64 (x.val : Int), .pointer (some ⟨w.heap.size, 0, none⟩), .pointer (some ⟨w.heap.size, 1, none⟩), .int .i64 (s:Int), .pointer (some ⟨w.heap.size, 0, none⟩), .pointer (some ⟨w.heap.size, 0, none⟩), .agg #[.int .i64 (n:Int)], .int .i64 ((unitsN n : Nat) : Int), .func (.func 93) #[] #[.pointer (some ⟨W1.heap.size, 0, none⟩)], .int .i64 (x.val : Int), undef, undef, undef, undef, undef, undef, undef, undef, undef, undef, undef, undef, undef, undef, undef, undef], defers := [] }) ?assign ?body ?done ?stop
  case assign =>
    intro l x W K hK
    gi_wp2
    exact hK
  case body =>
    rintro l pre x W ⟨⟨⟨bP1, bR1⟩, bT1⟩, hB1⟩ _
    have cP := bP1.cell0
    have dP := bP1.cell1
    have cT := bT1.cell
    have hx := x.isLt
    have ho := fold_lt (lturnS n s) n (2 ^ n) s hs (lturnS_lt n s) pre
    have hp := pow_le n h2
    have hsW := hB1.size
    have lP := bP1.lt
    have lR := bR1.lt
    have lT := bT1.lt
    have hmx : Try.prog.follows .mixedOrders = true := by kernel_rfl
    have HS := Lib.hid (fold_snoc (lturnS n s) s pre x)
    have hle := fun W => turn_any n s (x.val : Int) W h1 h2 hs (by omega) (by omega)
    have hu : lturnS n s x.val (fold (lturnS n s) s (vals pre)) = min (fold (lturnS n s) s (vals pre)) (turnN n s (x.val : Int)) := rfl
    generalize fold (lturnS n s) s (vals pre) = g at *
    generalize turnN n s (x.val : Int) = q at hle hu
    have Hle := Lib.hid hle
    clear hle
    by_cases hlt : g ≤ q
    · have HU := Lib.hid (show lturnS n s x.val g = g from by rw [hu]; omega)
      have hq : ((g : Int) ≤ (q : Int)) := by omega
      have hq1 : ¬ ((q : Int) < (g : Int)) := by omega
      have hq2 : min (g : Int) (q : Int) = (g : Int) := by omega
      clear hu
      gi_wp2
      have hA0 := Aside.start (w.heap.size + 1 + 1) W
      have bT_0 := (show Boxed W.drew _ _ _ from bT1)
      refine region_round (fun W2 => Aside (w.heap.size + 1 + 1) W W2) hmx (by kernel_rfl) (fun ⟨_, _, h⟩ => h) hA0 (fun _ => ?_)
      refine take1 1 (v := ?_) rfl (by kernel_rfl) (by kernel_rfl) (by kernel_rfl) (fun _ _ _ h => h) (by rfl) ?_ hA0 ?_
      rotate_left
      · intro W2 hA
        have c0 := (hA.duo bP1 (by omega)).cell0
        have d0 := (hA.duo bP1 (by omega)).cell1
        clear hA
        go_simp
        try with_reducible rfl
      try simp only [Act.put, List.setIfInBounds_toArray, List.set_cons_zero, List.set_cons_succ]
      refine take1 2 (v := ?_) rfl (by kernel_rfl) (by kernel_rfl) (by kernel_rfl) (fun _ _ _ h => h) (by rfl) ?_ hA0 ?_
      rotate_left
      · intro W2 hA
        have c0 := (hA.duo bP1 (by omega)).cell0
        have d0 := (hA.duo bP1 (by omega)).cell1
        clear hA
        go_simp
        try with_reducible rfl
      try simp only [Act.put, List.setIfInBounds_toArray, List.set_cons_zero, List.set_cons_succ]
      refine take1 3 (v := ?_) rfl (by kernel_rfl) (by kernel_rfl) (by kernel_rfl) (fun _ _ _ h => h) (by rfl) ?_ hA0 ?_
      rotate_left
      · intro W2 hA
        have c0 := (hA.duo bP1 (by omega)).cell0
        have d0 := (hA.duo bP1 (by omega)).cell1
        clear hA
        go_simp
        try with_reducible rfl
      try simp only [Act.put, List.setIfInBounds_toArray, List.set_cons_zero, List.set_cons_succ]
      refine take1 4 (v := ?_) rfl (by kernel_rfl) (by kernel_rfl) (by kernel_rfl) (fun _ _ _ h => h) (by rfl) ?_ hA0 ?_
      rotate_left
      · intro W2 hA
        have c0 := (hA.duo bP1 (by omega)).cell0
        have d0 := (hA.duo bP1 (by omega)).cell1
        clear hA
        go_simp
        try with_reducible rfl
      try simp only [Act.put, List.setIfInBounds_toArray, List.set_cons_zero, List.set_cons_succ]
      refine take1 5 (v := ?_) rfl (by kernel_rfl) (by kernel_rfl) (by kernel_rfl) (fun _ _ _ h => h) (by rfl) ?_ hA0 ?_
      rotate_left
      · intro W2 hA
        have c0 := (hA.duo bP1 (by omega)).cell0
        have d0 := (hA.duo bP1 (by omega)).cell1
        clear hA
        go_simp
        try with_reducible rfl
      try simp only [Act.put, List.setIfInBounds_toArray, List.set_cons_zero, List.set_cons_succ]
      refine take1 6 (v := ?_) rfl (by kernel_rfl) (by kernel_rfl) (by kernel_rfl) (fun _ _ _ h => h) (by rfl) ?_ hA0 ?_
      rotate_left
      · intro W2 hA
        have c0 := (hA.duo bP1 (by omega)).cell0
        have d0 := (hA.duo bP1 (by omega)).cell1
        clear hA
        go_simp
        try with_reducible rfl
      try simp only [Act.put, List.setIfInBounds_toArray, List.set_cons_zero, List.set_cons_succ]
      refine take1 7 (v := ?_) rfl (by kernel_rfl) (by kernel_rfl) (by kernel_rfl) (fun _ _ _ h => h) (by rfl) ?_ hA0 ?_
      rotate_left
      · intro W2 hA
        have c0 := (hA.duo bP1 (by omega)).cell0
        have d0 := (hA.duo bP1 (by omega)).cell1
        clear hA
        go_simp
        try with_reducible rfl
      try simp only [Act.put, List.setIfInBounds_toArray, List.set_cons_zero, List.set_cons_succ]
      refine step2 0 8 (by kernel_rfl) rfl rfl (fun K hK => ?_) (fun K hK => ?_)
      · have cT_ := bT_0.cell
        go_simp
        refine hK.out _ _ hA0 ?_
        clear hK K
        try simp only [Act.put, List.setIfInBounds_toArray, List.set_cons_zero, List.set_cons_succ]
        refine step1 8 (by kernel_rfl) rfl (fun K hK => ?_)
        go_simp
        refine (Hle.out _).mono ?_
        rintro e W1' ⟨rfl, hb1⟩
        go_wp2_with fail
        have hA1 := hA0.call hb1
        have bT_1 := boxed_below bT_0 bT_0.lt hb1
        refine hK.out _ _ hA1 ?_
        clear hK K
        try simp only [Act.put, List.setIfInBounds_toArray, List.set_cons_zero, List.set_cons_succ]
        refine take1 9 (v := ?_) rfl (by kernel_rfl) (by kernel_rfl) (by kernel_rfl) (fun _ _ _ h => h) (by rfl) ?_ hA1 ?_
        rotate_left
        · intro W2 hA
          have c0 := (hA.duo bP1 (by omega)).cell0
          have d0 := (hA.duo bP1 (by omega)).cell1
          clear hA
          go_simp
          try with_reducible rfl
        try simp only [Act.put, List.setIfInBounds_toArray, List.set_cons_zero, List.set_cons_succ]
        have cT_9 := bT_1.cell
        have fT_9 := bT_1.frozen
        refine step1 10 (by kernel_rfl) rfl (fun K hK => ?_)
        go_simp
        refine hK.out _ _ (hA1.set _) ?_
        clear hK K
        try simp only [Act.put, List.setIfInBounds_toArray, List.set_cons_zero, List.set_cons_succ]
        refine stop1 (by kernel_rfl) ?_
        gi_wp2
        exact ⟨(hA1.set _).others bT1, (hA1.set _).kb (by omega) (by omega) hsW, ⟨⟨(hA1.set _).duo bP1 (by omega), (hA1.set _).duo bR1 (by omega)⟩, by rw [HS.out, HU.out]; exact (bT_1.set _)⟩, hB1.trans ((hA1.set _).below (by omega) hsW)⟩
      · go_simp
        refine (Hle.out _).mono ?_
        rintro e W1' ⟨rfl, hb1⟩
        go_wp2_with fail
        have hA1 := hA0.call hb1
        have bT_1 := boxed_below bT_0 bT_0.lt hb1
        refine hK.out _ _ hA1 ?_
        clear hK K
        try simp only [Act.put, List.setIfInBounds_toArray, List.set_cons_zero, List.set_cons_succ]
        refine step1 0 (by kernel_rfl) rfl (fun K hK => ?_)
        have cT_ := bT_1.cell
        go_simp
        refine hK.out _ _ hA1 ?_
        clear hK K
        try simp only [Act.put, List.setIfInBounds_toArray, List.set_cons_zero, List.set_cons_succ]
        refine take1 9 (v := ?_) rfl (by kernel_rfl) (by kernel_rfl) (by kernel_rfl) (fun _ _ _ h => h) (by rfl) ?_ hA1 ?_
        rotate_left
        · intro W2 hA
          have c0 := (hA.duo bP1 (by omega)).cell0
          have d0 := (hA.duo bP1 (by omega)).cell1
          clear hA
          go_simp
          try with_reducible rfl
        try simp only [Act.put, List.setIfInBounds_toArray, List.set_cons_zero, List.set_cons_succ]
        have cT_9 := bT_1.cell
        have fT_9 := bT_1.frozen
        refine step1 10 (by kernel_rfl) rfl (fun K hK => ?_)
        go_simp
        refine hK.out _ _ (hA1.set _) ?_
        clear hK K
        try simp only [Act.put, List.setIfInBounds_toArray, List.set_cons_zero, List.set_cons_succ]
        refine stop1 (by kernel_rfl) ?_
        gi_wp2
        exact ⟨(hA1.set _).others bT1, (hA1.set _).kb (by omega) (by omega) hsW, ⟨⟨(hA1.set _).duo bP1 (by omega), (hA1.set _).duo bR1 (by omega)⟩, by rw [HS.out, HU.out]; exact (bT_1.set _)⟩, hB1.trans ((hA1.set _).below (by omega) hsW)⟩
    · have HU := Lib.hid (show lturnS n s x.val g = q from by rw [hu]; omega)
      have hq : ¬ ((g : Int) ≤ (q : Int)) := by omega
      have hq1 : ((q : Int) < (g : Int)) := by omega
      have hq2 : min (g : Int) (q : Int) = (q : Int) := by omega
      clear hu
      gi_wp2
      have hA0 := Aside.start (w.heap.size + 1 + 1) W
      have bT_0 := (show Boxed W.drew _ _ _ from bT1)
      refine region_round (fun W2 => Aside (w.heap.size + 1 + 1) W W2) hmx (by kernel_rfl) (fun ⟨_, _, h⟩ => h) hA0 (fun _ => ?_)
      refine take1 1 (v := ?_) rfl (by kernel_rfl) (by kernel_rfl) (by kernel_rfl) (fun _ _ _ h => h) (by rfl) ?_ hA0 ?_
      rotate_left
      · intro W2 hA
        have c0 := (hA.duo bP1 (by omega)).cell0
        have d0 := (hA.duo bP1 (by omega)).cell1
        clear hA
        go_simp
        try with_reducible rfl
      try simp only [Act.put, List.setIfInBounds_toArray, List.set_cons_zero, List.set_cons_succ]
      refine take1 2 (v := ?_) rfl (by kernel_rfl) (by kernel_rfl) (by kernel_rfl) (fun _ _ _ h => h) (by rfl) ?_ hA0 ?_
      rotate_left
      · intro W2 hA
        have c0 := (hA.duo bP1 (by omega)).cell0
        have d0 := (hA.duo bP1 (by omega)).cell1
        clear hA
        go_simp
        try with_reducible rfl
      try simp only [Act.put, List.setIfInBounds_toArray, List.set_cons_zero, List.set_cons_succ]
      refine take1 3 (v := ?_) rfl (by kernel_rfl) (by kernel_rfl) (by kernel_rfl) (fun _ _ _ h => h) (by rfl) ?_ hA0 ?_
      rotate_left
      · intro W2 hA
        have c0 := (hA.duo bP1 (by omega)).cell0
        have d0 := (hA.duo bP1 (by omega)).cell1
        clear hA
        go_simp
        try with_reducible rfl
      try simp only [Act.put, List.setIfInBounds_toArray, List.set_cons_zero, List.set_cons_succ]
      refine take1 4 (v := ?_) rfl (by kernel_rfl) (by kernel_rfl) (by kernel_rfl) (fun _ _ _ h => h) (by rfl) ?_ hA0 ?_
      rotate_left
      · intro W2 hA
        have c0 := (hA.duo bP1 (by omega)).cell0
        have d0 := (hA.duo bP1 (by omega)).cell1
        clear hA
        go_simp
        try with_reducible rfl
      try simp only [Act.put, List.setIfInBounds_toArray, List.set_cons_zero, List.set_cons_succ]
      refine take1 5 (v := ?_) rfl (by kernel_rfl) (by kernel_rfl) (by kernel_rfl) (fun _ _ _ h => h) (by rfl) ?_ hA0 ?_
      rotate_left
      · intro W2 hA
        have c0 := (hA.duo bP1 (by omega)).cell0
        have d0 := (hA.duo bP1 (by omega)).cell1
        clear hA
        go_simp
        try with_reducible rfl
      try simp only [Act.put, List.setIfInBounds_toArray, List.set_cons_zero, List.set_cons_succ]
      refine take1 6 (v := ?_) rfl (by kernel_rfl) (by kernel_rfl) (by kernel_rfl) (fun _ _ _ h => h) (by rfl) ?_ hA0 ?_
      rotate_left
      · intro W2 hA
        have c0 := (hA.duo bP1 (by omega)).cell0
        have d0 := (hA.duo bP1 (by omega)).cell1
        clear hA
        go_simp
        try with_reducible rfl
      try simp only [Act.put, List.setIfInBounds_toArray, List.set_cons_zero, List.set_cons_succ]
      refine take1 7 (v := ?_) rfl (by kernel_rfl) (by kernel_rfl) (by kernel_rfl) (fun _ _ _ h => h) (by rfl) ?_ hA0 ?_
      rotate_left
      · intro W2 hA
        have c0 := (hA.duo bP1 (by omega)).cell0
        have d0 := (hA.duo bP1 (by omega)).cell1
        clear hA
        go_simp
        try with_reducible rfl
      try simp only [Act.put, List.setIfInBounds_toArray, List.set_cons_zero, List.set_cons_succ]
      refine step2 0 8 (by kernel_rfl) rfl rfl (fun K hK => ?_) (fun K hK => ?_)
      · have cT_ := bT_0.cell
        go_simp
        refine hK.out _ _ hA0 ?_
        clear hK K
        try simp only [Act.put, List.setIfInBounds_toArray, List.set_cons_zero, List.set_cons_succ]
        refine step1 8 (by kernel_rfl) rfl (fun K hK => ?_)
        go_simp
        refine (Hle.out _).mono ?_
        rintro e W1' ⟨rfl, hb1⟩
        go_wp2_with fail
        have hA1 := hA0.call hb1
        have bT_1 := boxed_below bT_0 bT_0.lt hb1
        refine hK.out _ _ hA1 ?_
        clear hK K
        try simp only [Act.put, List.setIfInBounds_toArray, List.set_cons_zero, List.set_cons_succ]
        refine take1 9 (v := ?_) rfl (by kernel_rfl) (by kernel_rfl) (by kernel_rfl) (fun _ _ _ h => h) (by rfl) ?_ hA1 ?_
        rotate_left
        · intro W2 hA
          have c0 := (hA.duo bP1 (by omega)).cell0
          have d0 := (hA.duo bP1 (by omega)).cell1
          clear hA
          go_simp
          try with_reducible rfl
        try simp only [Act.put, List.setIfInBounds_toArray, List.set_cons_zero, List.set_cons_succ]
        have cT_9 := bT_1.cell
        have fT_9 := bT_1.frozen
        refine step1 10 (by kernel_rfl) rfl (fun K hK => ?_)
        go_simp
        refine hK.out _ _ (hA1.set _) ?_
        clear hK K
        try simp only [Act.put, List.setIfInBounds_toArray, List.set_cons_zero, List.set_cons_succ]
        refine stop1 (by kernel_rfl) ?_
        gi_wp2
        exact ⟨(hA1.set _).others bT1, (hA1.set _).kb (by omega) (by omega) hsW, ⟨⟨(hA1.set _).duo bP1 (by omega), (hA1.set _).duo bR1 (by omega)⟩, by rw [HS.out, HU.out]; exact (bT_1.set _)⟩, hB1.trans ((hA1.set _).below (by omega) hsW)⟩
      · go_simp
        refine (Hle.out _).mono ?_
        rintro e W1' ⟨rfl, hb1⟩
        go_wp2_with fail
        have hA1 := hA0.call hb1
        have bT_1 := boxed_below bT_0 bT_0.lt hb1
        refine hK.out _ _ hA1 ?_
        clear hK K
        try simp only [Act.put, List.setIfInBounds_toArray, List.set_cons_zero, List.set_cons_succ]
        refine step1 0 (by kernel_rfl) rfl (fun K hK => ?_)
        have cT_ := bT_1.cell
        go_simp
        refine hK.out _ _ hA1 ?_
        clear hK K
        try simp only [Act.put, List.setIfInBounds_toArray, List.set_cons_zero, List.set_cons_succ]
        refine take1 9 (v := ?_) rfl (by kernel_rfl) (by kernel_rfl) (by kernel_rfl) (fun _ _ _ h => h) (by rfl) ?_ hA1 ?_
        rotate_left
        · intro W2 hA
          have c0 := (hA.duo bP1 (by omega)).cell0
          have d0 := (hA.duo bP1 (by omega)).cell1
          clear hA
          go_simp
          try with_reducible rfl
        try simp only [Act.put, List.setIfInBounds_toArray, List.set_cons_zero, List.set_cons_succ]
        have cT_9 := bT_1.cell
        have fT_9 := bT_1.frozen
        refine step1 10 (by kernel_rfl) rfl (fun K hK => ?_)
        go_simp
        refine hK.out _ _ (hA1.set _) ?_
        clear hK K
        try simp only [Act.put, List.setIfInBounds_toArray, List.set_cons_zero, List.set_cons_succ]
        refine stop1 (by kernel_rfl) ?_
        gi_wp2
        exact ⟨(hA1.set _).others bT1, (hA1.set _).kb (by omega) (by omega) hsW, ⟨⟨(hA1.set _).duo bP1 (by omega), (hA1.set _).duo bR1 (by omega)⟩, by rw [HS.out, HU.out]; exact (bT_1.set _)⟩, hB1.trans ((hA1.set _).below (by omega) hsW)⟩
  case done =>
    rintro D ys W hD rfl ⟨⟨⟨bP1, bR1⟩, bT1⟩, hB⟩ hK
    have cP := bP1.cell0
    have dP := bP1.cell1
    have cT := bT1.cell
    have f0 := duoFrozen bR1 0
    have f1 := duoFrozen bR1 1
    have r0 := bR1.cell0
    have r1 := bR1.cell1
    have lR := bR1.lt
    rw [fold_come] at cT
    gi_wp2
    have hW2 := duoSet2 bR1 (.int .i64 (n:Int)) (.int .i64 ((overSet (unitsN n) (lturnS n s) n s : Nat) : Int))
    have hB2 : Below w.heap.size w ((W.setCell ⟨w.heap.size + 1, 0, none⟩ (.int .i64 (n:Int))).setCell ⟨w.heap.size + 1, 1, none⟩ (.int .i64 ((overSet (unitsN n) (lturnS n s) n s : Nat) : Int))) := (hB.setCell (p := ⟨w.heap.size + 1, 0, none⟩) (by simp) _).setCell (p := ⟨w.heap.size + 1, 1, none⟩) (by simp) _
    have hne : D ≠ w.heap.size + 1 := by omega
    have hK2 : ((W.setCell ⟨w.heap.size + 1, 0, none⟩ (.int .i64 (n:Int))).setCell ⟨w.heap.size + 1, 1, none⟩ (.int .i64 ((overSet (unitsN n) (lturnS n s) n s : Nat) : Int))).heap[D]? = some (.deferred (some [])) := (Below.heap_setCell _ ⟨w.heap.size + 1, 1, none⟩ _ D hne).trans ((Below.heap_setCell _ ⟨w.heap.size + 1, 0, none⟩ _ D hne).trans hK)
    refine ⟨by simp, .inl ⟨_, _, rfl, run_takeDeferred hK2, ?_⟩⟩
    have hW3 := hW2.same (W' := (((W.setCell ⟨w.heap.size + 1, 0, none⟩ (.int .i64 (n:Int))).setCell ⟨w.heap.size + 1, 1, none⟩ (.int .i64 ((overSet (unitsN n) (lturnS n s) n s : Nat) : Int))).putObj D (.deferred none))) (World.putObj_heap_other (fun e => hne e.symm))
    have hB3 := hB2.trans (belowK_b (w := w) (Nat.le_refl _) _ D _ (.deferred none) (by omega) hK2 rfl rfl)
    obtain ⟨W3, hW3e⟩ : ∃ W3, (((W.setCell ⟨w.heap.size + 1, 0, none⟩ (.int .i64 (n:Int))).setCell ⟨w.heap.size + 1, 1, none⟩ (.int .i64 ((overSet (unitsN n) (lturnS n s) n s : Nat) : Int))).putObj D (.deferred none)) = W3 := ⟨_, rfl⟩
    rw [hW3e] at hW3 hB3 ⊢
    have q0 := hW3.cell0
    have q1 := hW3.cell1
    refine ⟨.agg #[.int .i64 (n:Int), .int .i64 ((overSet (unitsN n) (lturnS n s) n s : Nat) : Int)], ?_, rfl, hB3⟩
    simp [results, Try.results66, go_sem, q0, q1]
  case stop =>
    rintro D c pre W _ _ h _
    exact h.elim
end Go.Proofs.Ytaklmepioeoohaa

/- Plays, the program's side: the functions that others call. Written by gen98.py. -/
namespace Go.Proofs.Ytaklmepioeoohaa
open Go.RowKit Go.Shelf
set_option linter.unusedVariables false
theorem inCommon_any (n s : Nat) (w : World) (h1 : 1 ≤ n) (h2 : n ≤ 12) (hs : s < 2 ^ n) :
    Calls Try.prog 63 #[.agg #[.int .i64 (n:Int), .int .i64 (s:Int)]] w fun e w' => e = .returned (.tuple #[.int .i64 ((evY n s : Nat) : Int), .bool (evQ n s)]) ∧ Below w.heap.size w w' := by
  have HE := Lib.hid (fun W => evenWays_any n s W h1 h2 hs)
  have hA0 := Duo.new w 47 (.int .i64 (n:Int)) (.int .i64 (s:Int))
  have c0 := hA0.cell0
  have c1 := hA0.cell1
  clear h1 h2 hs hA0
  go_enter Try.func63, Try.ntmps63
  go_wp2_with (go_at_call 65; refine (HE.out _).mono ?_; rintro e w1 ⟨rfl, hb1⟩)
  go_ret2
  exact ⟨rfl, ((Below.refl _ _).alloc (Nat.le_refl _) _).trans (hb1.mono (by simp))⟩
theorem no_PlayIn : NoPlayIn := by
  intro n s W h
  have HO := Lib.hid (fun W => playOf_no n s W h)
  clear h
  go_enter Try.func12, Try.ntmps12
  go_wp2_with fail
  refine (HO.out _).mono ?_
  rintro e w1 ⟨rfl, hb1⟩
  go_wp2
  go_ret
  exact ⟨rfl, by
    have := hb1.size
    first
    | exact hb1
    | exact hb1.alloc (by omega) _
    | exact hb1.trans (hb2.mono (by omega))
    | exact (hb1.alloc (by omega) _).trans (hb2.mono (by simp; omega))⟩
theorem yes_PlayIn : YesPlayIn := by
  intro n s W h2 hs hp
  have h3 := ((play_iff n s).1 hp).1
  have HO := Lib.hid (fun W => playOf_yes n s W h2 hs hp)
  clear hs hp
  go_enter Try.func12, Try.ntmps12
  go_wp2_with fail
  refine (HO.out _).mono ?_
  rintro e w1 ⟨rfl, hb1⟩
  go_wp2
  go_ret
  exact ⟨rfl, by
    have := hb1.size
    first
    | exact hb1
    | exact hb1.alloc (by omega) _
    | exact hb1.trans (hb2.mono (by omega))
    | exact (hb1.alloc (by omega) _).trans (hb2.mono (by simp; omega))⟩
theorem no_PlayThree : NoPlayThree := by
  intro n s W h
  have HO := Lib.hid (fun W => playOf_no n s W h)
  clear h
  go_enter Try.func22, Try.ntmps22
  go_wp2_with fail
  refine (HO.out _).mono ?_
  rintro e w1 ⟨rfl, hb1⟩
  go_wp2
  go_ret2
  exact ⟨rfl, by
    have := hb1.size
    first
    | exact hb1
    | exact hb1.alloc (by omega) _
    | exact hb1.trans (hb2.mono (by omega))
    | exact (hb1.alloc (by omega) _).trans (hb2.mono (by simp; omega))⟩
theorem yes_PlayThree : YesPlayThree := by
  intro n s W h2 hs hp
  have h3 := ((play_iff n s).1 hp).1
  have HO := Lib.hid (fun W => playOf_yes n s W h2 hs hp)
  have HS := Lib.hid (fun W => threes_any n s W h2 hs hp)
  clear hs hp
  go_enter Try.func22, Try.ntmps22
  go_wp2_with fail
  refine (HO.out _).mono ?_
  rintro e w1 ⟨rfl, hb1⟩
  go_wp2_with (go_at_call 56; refine (HS.out _).mono ?_; rintro e w2 ⟨rfl, hb2⟩)
  go_ret2
  exact ⟨rfl, by
    have := hb1.size
    first
    | exact hb1
    | exact hb1.alloc (by omega) _
    | exact hb1.trans (hb2.mono (by omega))
    | exact (hb1.alloc (by omega) _).trans (hb2.mono (by simp; omega))⟩
theorem no_PlayTwice : NoPlayTwice := by
  intro n s W h
  have HO := Lib.hid (fun W => playOf_no n s W h)
  clear h
  go_enter Try.func25, Try.ntmps25
  go_wp2_with fail
  refine (HO.out _).mono ?_
  rintro e w1 ⟨rfl, hb1⟩
  go_wp2
  go_ret2
  exact ⟨rfl, by
    have := hb1.size
    first
    | exact hb1
    | exact hb1.alloc (by omega) _
    | exact hb1.trans (hb2.mono (by omega))
    | exact (hb1.alloc (by omega) _).trans (hb2.mono (by simp; omega))⟩
theorem yes_PlayTwice : YesPlayTwice := by
  intro n s W h2 hs hp
  have h3 := ((play_iff n s).1 hp).1
  have HO := Lib.hid (fun W => playOf_yes n s W h2 hs hp)
  have HS := Lib.hid (fun W => twice_any n s W h2 hs hp)
  clear hs hp
  go_enter Try.func25, Try.ntmps25
  go_wp2_with fail
  refine (HO.out _).mono ?_
  rintro e w1 ⟨rfl, hb1⟩
  go_wp2_with (go_at_call 58; refine (HS.out _).mono ?_; rintro e w2 ⟨rfl, hb2⟩)
  go_ret2
  exact ⟨rfl, by
    have := hb1.size
    first
    | exact hb1
    | exact hb1.alloc (by omega) _
    | exact hb1.trans (hb2.mono (by omega))
    | exact (hb1.alloc (by omega) _).trans (hb2.mono (by simp; omega))⟩
theorem no_PlayEqual : NoPlayEqual := by
  intro n s W h
  have HO := Lib.hid (fun W => playOf_no n s W h)
  clear h
  go_enter Try.func29, Try.ntmps29
  go_wp2_with fail
  refine (HO.out _).mono ?_
  rintro e w1 ⟨rfl, hb1⟩
  go_wp2
  go_ret2
  exact ⟨rfl, by
    have := hb1.size
    first
    | exact hb1
    | exact hb1.alloc (by omega) _
    | exact hb1.trans (hb2.mono (by omega))
    | exact (hb1.alloc (by omega) _).trans (hb2.mono (by simp; omega))⟩
theorem yes_PlayEqual : YesPlayEqual := by
  intro n s W h2 hs hp
  have h3 := ((play_iff n s).1 hp).1
  have HO := Lib.hid (fun W => playOf_yes n s W h2 hs hp)
  have hS := fun W => inCommon_any n s W (by omega) h2 hs
  rw [evY_evZ n s (by omega), evQ_even n s (by omega)] at hS
  have HS := Lib.hid hS
  clear hs hp hS
  go_enter Try.func29, Try.ntmps29
  go_wp2_with fail
  refine (HO.out _).mono ?_
  rintro e w1 ⟨rfl, hb1⟩
  go_wp2_with (go_at_call 63; refine (HS.out _).mono ?_; rintro e w2 ⟨rfl, hb2⟩)
  go_ret2
  exact ⟨rfl, by
    have := hb1.size
    first
    | exact hb1
    | exact hb1.alloc (by omega) _
    | exact hb1.trans (hb2.mono (by omega))
    | exact (hb1.alloc (by omega) _).trans (hb2.mono (by simp; omega))⟩
theorem no_PlayAll : NoPlayAll := by
  intro n W h
  have HO := Lib.hid (fun W => playRingOf_no n W h)
  clear h
  go_enter Try.func18, Try.ntmps18
  go_wp2_with fail
  refine (HO.out _).mono ?_
  rintro e w1 ⟨rfl, hb1⟩
  go_wp2
  go_ret2
  exact nil_res ⟨rfl, by
    have := hb1.size
    first
    | exact hb1
    | exact hb1.alloc (by omega) _
    | exact hb1.trans (hb2.mono (by omega))
    | exact (hb1.alloc (by omega) _).trans (hb2.mono (by simp; omega))⟩
theorem take_next (xs : List Int) (i : Nat) (h : i < xs.length) : xs.take (i + 1) = xs.take i ++ [xs.getD i 0] := by
  rw [List.take_add_one, List.getElem?_eq_getElem h, List.getD_eq_getElem?_getD, List.getElem?_eq_getElem h]
  rfl
set_option maxHeartbeats 1000000 in
theorem yes_PlayAll : YesPlayAll := by
  intro n w h1 h2 h3
  have HO := Lib.hid (fun W => playRingOf_yes n W h1 h2 h3)
  have HP := Lib.hid (fun W => plays_any n W (by omega) (by omega))
  have hxl : (playL n (2 ^ (n - 1))).length ≤ 4096 := Nat.le_trans (playL_len n (2 ^ (n - 1))) (Nat.le_trans (pow_le (n - 1) (by omega)) (by omega))
  have hpos : 0 < (playL n (2 ^ (n - 1))).length := by rw [playL_size n h1 h2 h3]; exact Nat.two_pow_pos _
  have HGt : Hid (∀ i, i < (playL n (2 ^ (n - 1))).length → (playL n (2 ^ (n - 1))).getD i 0 = ((atN (playL n (2 ^ (n - 1))) i : Nat) : Int) ∧ atN (playL n (2 ^ (n - 1))) i < 2 ^ n) := Lib.hid (fun i hi => by
    obtain ⟨x, a1, a2, a3, a4⟩ := playL_get n _ i hi
    rw [← half_pow n (by omega)] at a2
    have e : atN (playL n (2 ^ (n - 1))) i = x := by unfold atN; rw [a1]; rfl
    rw [e]
    exact ⟨a1, a2⟩)
  generalize playL n (2 ^ (n - 1)) = xs at *
  have HTk := Lib.hid (fun i hi => take_next xs i hi)
  have HTe : Hid (xs.take xs.length = xs) := Lib.hid List.take_length
  have HTl : Hid (∀ i, (xs.take i).length ≤ 4096) := Lib.hid (fun i => by rw [List.length_take]; omega)
  clear h3
  go_enter Try.func18, Try.ntmps18
  go_wp2_with fail
  refine (HO.out _).mono ?_
  rintro e w1 ⟨rfl, hb1⟩
  go_wp2_with fail
  refine (HP.out _).mono ?_
  rintro e w2 ⟨sv, rfl, hb2, hI2⟩
  have HB2 := Lib.hid (show Below w.heap.size w w2 from (hb1.alloc hb1.size _).trans (hb2.mono (by have := hb1.size; simp; omega)))
  have hI3 := hI2.base (b' := w.heap.size) (by have := hb1.size; simp; omega)
  clear hb1 hb2 hI2
  rcases hI3.shape with ⟨_, e2⟩ | ⟨g, cap, rfl, hg⟩
  · rw [e2] at hpos; exact absurd hpos (by simp)
  have HI2 := Lib.hid hI3
  clear hI3
  go_wp2
  go_loopw [6, 8, 19] (fun u v8 v wr => ∃ i : Nat, i ≤ xs.length ∧ v = .int .i64 (i : Int) ∧ Hid (Below w.heap.size w wr) ∧ Hid (IsInts wr w2.heap.size u (xs.take i)) ∧ Hid (IsPlays wr w.heap.size (.slice (some ⟨g, 0, none⟩) xs.length cap) n xs) ∧ g < w2.heap.size ∧ w2.heap.size ≤ wr.heap.size) (fun _ _ v _ => xs.length - (intOf v).toNat)
  case atStart => exact ⟨0, Nat.zero_le _, rfl, HB2, Lib.hid (isInts_nil _ _), HI2, (World.ownsRow.lt HI2.out g rfl).2, Nat.le_refl _⟩
  case round =>
    obtain ⟨i, hi, rfl, HB, HO, HX, hg2, hz2⟩ := hrel
    by_cases hlt : i < xs.length
    · obtain ⟨c0, c1⟩ := HX.out.cells hlt
      have i1 : (0 : Int) ≤ (i : Int) := by omega
      have i2 : (i : Int) < (xs.length : Int) := by omega
      have hwk : IntKind.i64.wrap ((i : Int) + 1) = ((i + 1 : Nat) : Int) := by rw [IntWalk.i64_in _ ⟨by omega, by omega⟩]; rfl
      have HT1 := Lib.hid (HTk.out i hlt)
      have HL1 := Lib.hid (HTl.out i)
      generalize xs.getD i 0 = z at *
      have q1 := (Duo.new wr 47 (.int .i64 (n:Int)) (.int .i64 z)).cell1
      have hB3 : Below wr.heap.size wr (wr.alloc (.cells #[.int .i64 (n:Int), .int .i64 z] 47)) := (Below.refl _ _).alloc (Nat.le_refl _) _
      have HB3 := Lib.hid (HB.out.trans (hB3.mono HB.out.size))
      have HO3 := Lib.hid (HO.out.belowAll hB3)
      have HX3 := Lib.hid (HX.out.belowAll hB3)
      have HZ3 : Hid (w2.heap.size ≤ (wr.alloc (.cells #[.int .i64 (n:Int), .int .i64 z] 47)).heap.size) := Lib.hid (by simp; omega)
      have HZ4 := Lib.hid hB3.size
      clear hB3
      go_wp2_with (first | (at_builtin; refine wpList_append_ints rfl (.tmp 23) (.tmp 27) rfl u6 (xs.take i) z (wr.alloc (.cells #[.int .i64 (n:Int), .int .i64 z] 47)) w2.heap.size rfl (by simp; rfl) HO3.out (Nat.le_trans HL1.out (by omega)) HZ3.out (fun v' W6 hv6 hk6 hb6 => ?_); have HI6 := Lib.hid hv6; have HB6 := Lib.hid hb6; clear hk6 hb6 hv6))
      have hB6 := HB6.out w2.heap.size (wr.alloc (.cells #[.int .i64 (n:Int), .int .i64 z] 47)) (Nat.le_refl _) (Below.refl _ _)
      go_roundw
      case rel => exact ⟨i + 1, by omega, by go_num, Lib.hid (HB6.out _ _ HB2.out.size HB3.out), Lib.hid (by rw [HT1.out]; exact HI6.out), Lib.hid (HX3.out.below (fun k hk => by cases hk; exact hg2) hB6), hg2, by have := hB6.size; have := HZ3.out; omega⟩
      case measure => simp [intOf]; omega
    · obtain rfl : i = xs.length := by omega
      have HO2 : Hid (IsInts wr w2.heap.size u6 xs) := Lib.hid (by have h := HO.out; rw [HTe.out] at h; exact h)
      clear hlt
      go_wp2
      go_ret2
      exact ⟨_, rfl, HB.out, IsInts.base (b := w2.heap.size) HO2.out HB2.out.size⟩
theorem no_PlayClasses : NoPlayClasses := by
  intro n W h
  have HO := Lib.hid (fun W => playRingOf_no n W h)
  clear h
  go_enter Try.func33, Try.ntmps33
  go_wp2_with fail
  refine (HO.out _).mono ?_
  rintro e w1 ⟨rfl, hb1⟩
  go_wp2
  go_ret2
  exact ⟨rfl, by
    have := hb1.size
    first
    | exact hb1
    | exact hb1.alloc (by omega) _
    | exact hb1.trans (hb2.mono (by omega))
    | exact (hb1.alloc (by omega) _).trans (hb2.mono (by simp; omega))⟩
set_option maxHeartbeats 1000000 in
theorem yes_PlayClasses : YesPlayClasses := by
  intro n w h1 h2 h3
  have HO := Lib.hid (fun W => playRingOf_yes n W h1 h2 h3)
  have HP := Lib.hid (fun W => plays_any n W (by omega) (by omega))
  have hxl : (playL n (2 ^ (n - 1))).length ≤ 4096 := Nat.le_trans (playL_len n (2 ^ (n - 1))) (Nat.le_trans (pow_le (n - 1) (by omega)) (by omega))
  have hpos : 0 < (playL n (2 ^ (n - 1))).length := by rw [playL_size n h1 h2 h3]; exact Nat.two_pow_pos _
  have HGt : Hid (∀ i, i < (playL n (2 ^ (n - 1))).length → (playL n (2 ^ (n - 1))).getD i 0 = ((atN (playL n (2 ^ (n - 1))) i : Nat) : Int) ∧ atN (playL n (2 ^ (n - 1))) i < 2 ^ n) := Lib.hid (fun i hi => by
    obtain ⟨x, a1, a2, a3, a4⟩ := playL_get n _ i hi
    rw [← half_pow n (by omega)] at a2
    have e : atN (playL n (2 ^ (n - 1))) i = x := by unfold atN; rw [a1]; rfl
    rw [e]
    exact ⟨a1, a2⟩)
  have HCl := Lib.hid (own_cls n h1 h2 h3)
  generalize playL n (2 ^ (n - 1)) = xs at *
  have HLe := Lib.hid (fun x (hx : x < 2 ^ n) W => leastTurned_any n x W (by omega) (by omega) hx)
  have HOq := Lib.hid (fun i => ownQ_le n xs i)
  have HSt : Hid (∀ i, ownQ n xs (i + 1) = if Nat.beq (lturnN n (atN xs i)) (atN xs i) then ownQ n xs i + 1 else ownQ n xs i) := Lib.hid (fun _ => rfl)
  generalize clsAll n = C at *
  clear h3
  go_enter Try.func33, Try.ntmps33
  go_wp2_with fail
  refine (HO.out _).mono ?_
  rintro e w1 ⟨rfl, hb1⟩
  go_wp2_with fail
  refine (HP.out _).mono ?_
  rintro e w2 ⟨sv, rfl, hb2, hI2⟩
  have HB2 := Lib.hid (show Below w.heap.size w w2 from (hb1.alloc hb1.size _).trans (hb2.mono (by have := hb1.size; simp; omega)))
  have hI3 := hI2.base (b' := w.heap.size) (by have := hb1.size; simp; omega)
  clear hb1 hb2 hI2
  rcases hI3.shape with ⟨_, e2⟩ | ⟨g, cap, rfl, hg⟩
  · rw [e2] at hpos; exact absurd hpos (by simp)
  have HI2 := Lib.hid hI3
  clear hI3
  have hmx : Try.prog.follows .mixedOrders = true := by kernel_rfl
  go_wp2
  go_loopw [6, 8, 19] (fun u v8 v wr => ∃ i : Nat, i ≤ xs.length ∧ u = .int .i64 ((ownQ n xs i : Nat) : Int) ∧ v = .int .i64 (i : Int) ∧ Hid (Below w.heap.size w wr) ∧ Hid (IsPlays wr w.heap.size (.slice (some ⟨g, 0, none⟩) xs.length cap) n xs)) (fun _ _ v _ => xs.length - (intOf v).toNat)
  case atStart => exact ⟨0, Nat.zero_le _, rfl, rfl, HB2, HI2⟩
  case round =>
    obtain ⟨i, hi, rfl, rfl, HB, HX⟩ := hrel
    by_cases hlt : i < xs.length
    · obtain ⟨c0, c1⟩ := HX.out.cells hlt
      have i1 : (0 : Int) ≤ (i : Int) := by omega
      have i2 : (i : Int) < (xs.length : Int) := by omega
      have hwk : IntKind.i64.wrap ((i : Int) + 1) = ((i + 1 : Nat) : Int) := by rw [IntWalk.i64_in _ ⟨by omega, by omega⟩]; rfl
      obtain ⟨hx, hxN⟩ := HGt.out i hlt
      rw [hx] at c1
      have HS1 := HSt.out i
      have HL1 := HLe.out _ hxN
      have ho := HOq.out i
      generalize atN xs i = x at *
      generalize lturnN n x = l at *
      generalize ownQ n xs i = q at *
      have hwq : IntKind.i64.wrap ((q : Int) + 1) = ((q + 1 : Nat) : Int) := by rw [IntWalk.i64_in _ ⟨by omega, by omega⟩]; rfl
      have hwq2 : wrap64 ((q : Int) + 1) = ((q + 1 : Nat) : Int) := by rw [IntWalk.wrap64_in _ ⟨by omega, by omega⟩]; rfl
      have HLx := Lib.hid HL1
      clear HL1 hx
      cases hlx : Nat.beq l x
      · rw [hlx] at HS1
        have hne : l ≠ x := fun e => by rw [e, Nat.beq_refl] at hlx; cases hlx
        have HS : Hid (ownQ n xs (i + 1) = q) := Lib.hid HS1
        have e1 : ((x : Int) == (l : Int)) = false := beq_cast_ne (fun e => hne e.symm)
        have e2 : ((x : Int) = (l : Int)) = False := eq_false (fun e => hne (by omega))
        have e3 : (x = l) = False := eq_false (fun e => hne e.symm)
        clear HS1 hlx
        go_wp2_with fail
        have hA0 := Duo.new wr 47 (.int .i64 (n:Int)) (.int .i64 (x:Int))
        have hB0 : Below wr.heap.size wr (wr.alloc (.cells #[.int .i64 (n:Int), .int .i64 (x:Int)] 47)) := (Below.refl _ _).alloc (Nat.le_refl _) _
        obtain ⟨W0, hW0⟩ : ∃ W0, wr.alloc (.cells #[.int .i64 (n:Int), .int .i64 (x:Int)] 47) = W0 := ⟨_, rfl⟩
        rw [hW0] at hA0 hB0 ⊢
        clear hW0
        have hB0 : Below wr.heap.size wr W0.drew := hB0.drew
        have hA0 : Duo W0.drew wr.heap.size 47 (.int .i64 (n:Int)) (.int .i64 (x:Int)) := hA0
        refine wp_region_held_drew (S := fun W => Duo W wr.heap.size 47 (.int .i64 (n:Int)) (.int .i64 (x:Int))) hmx hA0 (fun _ => ?_)
        generalize W0.drew = W4 at *
        refine take1 0 (v := ?_) rfl (by kernel_rfl) (by kernel_rfl) (by kernel_rfl) (fun _ _ _ h => h) (by rfl) ?_ hA0 ?_
        rotate_left
        · intro W9 hA
          have hX := hA
          clear hA
          have c0 := hX.cell0
          have c1 := hX.cell1
          clear hX
          go_simp
          try with_reducible rfl
        try simp only [Act.put, List.setIfInBounds_toArray, List.set_cons_zero, List.set_cons_succ]
        refine take1 1 (v := ?_) rfl (by kernel_rfl) (by kernel_rfl) (by kernel_rfl) (fun _ _ _ h => h) (by rfl) ?_ hA0 ?_
        rotate_left
        · intro W9 hA
          have hX := hA
          clear hA
          have c0 := hX.cell0
          have c1 := hX.cell1
          clear hX
          go_simp
          try with_reducible rfl
        try simp only [Act.put, List.setIfInBounds_toArray, List.set_cons_zero, List.set_cons_succ]
        refine step1 2 (by kernel_rfl) rfl (fun K hK => ?_)
        go_simp
        refine (HLx.out _).mono ?_
        rintro e W1' ⟨rfl, hb1⟩
        go_wp2_with fail
        have hA1 := duo_below hA0 hA0.lt hb1
        have hB1 := hB0.trans (hb1.mono hB0.size)
        refine hK.out _ _ hA1 ?_
        clear hK K
        try simp only [Act.put, List.setIfInBounds_toArray, List.set_cons_zero, List.set_cons_succ]
        refine take1 3 (v := ?_) rfl (by kernel_rfl) (by kernel_rfl) (by kernel_rfl) (fun _ _ _ h => h) (by rfl) ?_ hA1 ?_
        rotate_left
        · intro W9 hA
          have hX := hA
          clear hA
          have c0 := hX.cell0
          have c1 := hX.cell1
          clear hX
          go_simp
          try with_reducible rfl
        try simp only [Act.put, List.setIfInBounds_toArray, List.set_cons_zero, List.set_cons_succ]
        refine stop1 (by kernel_rfl) ?_
        go_wp2
        go_roundw
        case rel => exact ⟨i + 1, by omega, by rw [HS.out]; first | done | go_num, by go_num, Lib.hid (HB.out.trans (hB1.mono HB.out.size)), Lib.hid (HX.out.belowAll hB1)⟩
        case measure => simp [intOf]; omega
      · rw [hlx] at HS1
        obtain rfl : l = x := Nat.eq_of_beq_eq_true hlx
        have HS : Hid (ownQ n xs (i + 1) = q + 1) := Lib.hid HS1
        clear HS1 hlx
        go_wp2_with fail
        have hA0 := Duo.new wr 47 (.int .i64 (n:Int)) (.int .i64 (l:Int))
        have hB0 : Below wr.heap.size wr (wr.alloc (.cells #[.int .i64 (n:Int), .int .i64 (l:Int)] 47)) := (Below.refl _ _).alloc (Nat.le_refl _) _
        obtain ⟨W0, hW0⟩ : ∃ W0, wr.alloc (.cells #[.int .i64 (n:Int), .int .i64 (l:Int)] 47) = W0 := ⟨_, rfl⟩
        rw [hW0] at hA0 hB0 ⊢
        clear hW0
        have hB0 : Below wr.heap.size wr W0.drew := hB0.drew
        have hA0 : Duo W0.drew wr.heap.size 47 (.int .i64 (n:Int)) (.int .i64 (l:Int)) := hA0
        refine wp_region_held_drew (S := fun W => Duo W wr.heap.size 47 (.int .i64 (n:Int)) (.int .i64 (l:Int))) hmx hA0 (fun _ => ?_)
        generalize W0.drew = W4 at *
        refine take1 0 (v := ?_) rfl (by kernel_rfl) (by kernel_rfl) (by kernel_rfl) (fun _ _ _ h => h) (by rfl) ?_ hA0 ?_
        rotate_left
        · intro W9 hA
          have hX := hA
          clear hA
          have c0 := hX.cell0
          have c1 := hX.cell1
          clear hX
          go_simp
          try with_reducible rfl
        try simp only [Act.put, List.setIfInBounds_toArray, List.set_cons_zero, List.set_cons_succ]
        refine take1 1 (v := ?_) rfl (by kernel_rfl) (by kernel_rfl) (by kernel_rfl) (fun _ _ _ h => h) (by rfl) ?_ hA0 ?_
        rotate_left
        · intro W9 hA
          have hX := hA
          clear hA
          have c0 := hX.cell0
          have c1 := hX.cell1
          clear hX
          go_simp
          try with_reducible rfl
        try simp only [Act.put, List.setIfInBounds_toArray, List.set_cons_zero, List.set_cons_succ]
        refine step1 2 (by kernel_rfl) rfl (fun K hK => ?_)
        go_simp
        refine (HLx.out _).mono ?_
        rintro e W1' ⟨rfl, hb1⟩
        go_wp2_with fail
        have hA1 := duo_below hA0 hA0.lt hb1
        have hB1 := hB0.trans (hb1.mono hB0.size)
        refine hK.out _ _ hA1 ?_
        clear hK K
        try simp only [Act.put, List.setIfInBounds_toArray, List.set_cons_zero, List.set_cons_succ]
        refine take1 3 (v := ?_) rfl (by kernel_rfl) (by kernel_rfl) (by kernel_rfl) (fun _ _ _ h => h) (by rfl) ?_ hA1 ?_
        rotate_left
        · intro W9 hA
          have hX := hA
          clear hA
          have c0 := hX.cell0
          have c1 := hX.cell1
          clear hX
          go_simp
          try with_reducible rfl
        try simp only [Act.put, List.setIfInBounds_toArray, List.set_cons_zero, List.set_cons_succ]
        refine stop1 (by kernel_rfl) ?_
        go_wp2
        go_roundw
        case rel => exact ⟨i + 1, by omega, by rw [HS.out]; first | done | go_num, by go_num, Lib.hid (HB.out.trans (hB1.mono HB.out.size)), Lib.hid (HX.out.belowAll hB1)⟩
        case measure => simp [intOf]; omega
    · obtain rfl : i = xs.length := by omega
      clear hlt
      have HE : Hid (ownQ n xs xs.length = C) := HCl
      go_wp2
      go_ret2
      exact ⟨by rw [HE.out]; rfl, HB.out⟩
end Go.Proofs.Ytaklmepioeoohaa
