/- Plays, the program's side: the functions that others call. Written by gen98.py. -/
import Derived.Test.YtaklmepioeoohaaPlpD
import Derived.Test.YtaklmepioeoohaaPlpE
import Derived.Test.YtaklmepioeoohaaPlyX
import Derived.Test.YtaklmepioeoohaaPlyG
import Derived.Test.YtaklmepioeoohaaDfpB
namespace Go.Proofs.Ytaklmepioeoohaa
open Go.RowKit Go.Shelf
set_option linter.unusedVariables false
theorem inCommon_any (n s : Nat) (w : World) (h1 : 1 ≤ n) (h2 : n ≤ 12) (hs : s < 2 ^ n) :
    Calls Try.prog 63 #[.agg #[.int .i64 (n:Int), .int .i64 (s:Int)]] w fun e w' => e = .returned (.tuple #[.int .i64 ((evY n s : Nat) : Int), .bool (evQ n s)]) ∧ Below w.heap.size w w' := by
  have HE := Lib.hid (fun W => evenWays_any n s W h1 h2 hs)
  have hA0 := Duo.new w 47 (.int .i64 (n:Int)) (.int .i64 (s:Int))
  have c0 := hA0.cell0
  have c1 := hA0.cell1
  clear h1 h2 hs hA0
  go_enter Try.func63, Try.ntmps63
  go_wp2_with (go_at_call 65; refine (HE.out _).mono ?_; rintro e w1 ⟨rfl, hb1⟩)
  go_ret2
  exact ⟨rfl, ((Below.refl _ _).alloc (Nat.le_refl _) _).trans (hb1.mono (by simp))⟩
theorem no_PlayIn : NoPlayIn := by
  intro n s W h
  have HO := Lib.hid (fun W => playOf_no n s W h)
  clear h
  go_enter Try.func12, Try.ntmps12
  go_wp2_with fail
  refine (HO.out _).mono ?_
  rintro e w1 ⟨rfl, hb1⟩
  go_wp2
  go_ret
  exact ⟨rfl, by
    have := hb1.size
    first
    | exact hb1
    | exact hb1.alloc (by omega) _
    | exact hb1.trans (hb2.mono (by omega))
    | exact (hb1.alloc (by omega) _).trans (hb2.mono (by simp; omega))⟩
theorem yes_PlayIn : YesPlayIn := by
  intro n s W h2 hs hp
  have h3 := ((play_iff n s).1 hp).1
  have HO := Lib.hid (fun W => playOf_yes n s W h2 hs hp)
  clear hs hp
  go_enter Try.func12, Try.ntmps12
  go_wp2_with fail
  refine (HO.out _).mono ?_
  rintro e w1 ⟨rfl, hb1⟩
  go_wp2
  go_ret
  exact ⟨rfl, by
    have := hb1.size
    first
    | exact hb1
    | exact hb1.alloc (by omega) _
    | exact hb1.trans (hb2.mono (by omega))
    | exact (hb1.alloc (by omega) _).trans (hb2.mono (by simp; omega))⟩
theorem no_PlayThree : NoPlayThree := by
  intro n s W h
  have HO := Lib.hid (fun W => playOf_no n s W h)
  clear h
  go_enter Try.func22, Try.ntmps22
  go_wp2_with fail
  refine (HO.out _).mono ?_
  rintro e w1 ⟨rfl, hb1⟩
  go_wp2
  go_ret2
  exact ⟨rfl, by
    have := hb1.size
    first
    | exact hb1
    | exact hb1.alloc (by omega) _
    | exact hb1.trans (hb2.mono (by omega))
    | exact (hb1.alloc (by omega) _).trans (hb2.mono (by simp; omega))⟩
theorem yes_PlayThree : YesPlayThree := by
  intro n s W h2 hs hp
  have h3 := ((play_iff n s).1 hp).1
  have HO := Lib.hid (fun W => playOf_yes n s W h2 hs hp)
  have HS := Lib.hid (fun W => threes_any n s W h2 hs hp)
  clear hs hp
  go_enter Try.func22, Try.ntmps22
  go_wp2_with fail
  refine (HO.out _).mono ?_
  rintro e w1 ⟨rfl, hb1⟩
  go_wp2_with (go_at_call 56; refine (HS.out _).mono ?_; rintro e w2 ⟨rfl, hb2⟩)
  go_ret2
  exact ⟨rfl, by
    have := hb1.size
    first
    | exact hb1
    | exact hb1.alloc (by omega) _
    | exact hb1.trans (hb2.mono (by omega))
    | exact (hb1.alloc (by omega) _).trans (hb2.mono (by simp; omega))⟩
theorem no_PlayTwice : NoPlayTwice := by
  intro n s W h
  have HO := Lib.hid (fun W => playOf_no n s W h)
  clear h
  go_enter Try.func25, Try.ntmps25
  go_wp2_with fail
  refine (HO.out _).mono ?_
  rintro e w1 ⟨rfl, hb1⟩
  go_wp2
  go_ret2
  exact ⟨rfl, by
    have := hb1.size
    first
    | exact hb1
    | exact hb1.alloc (by omega) _
    | exact hb1.trans (hb2.mono (by omega))
    | exact (hb1.alloc (by omega) _).trans (hb2.mono (by simp; omega))⟩
theorem yes_PlayTwice : YesPlayTwice := by
  intro n s W h2 hs hp
  have h3 := ((play_iff n s).1 hp).1
  have HO := Lib.hid (fun W => playOf_yes n s W h2 hs hp)
  have HS := Lib.hid (fun W => twice_any n s W h2 hs hp)
  clear hs hp
  go_enter Try.func25, Try.ntmps25
  go_wp2_with fail
  refine (HO.out _).mono ?_
  rintro e w1 ⟨rfl, hb1⟩
  go_wp2_with (go_at_call 58; refine (HS.out _).mono ?_; rintro e w2 ⟨rfl, hb2⟩)
  go_ret2
  exact ⟨rfl, by
    have := hb1.size
    first
    | exact hb1
    | exact hb1.alloc (by omega) _
    | exact hb1.trans (hb2.mono (by omega))
    | exact (hb1.alloc (by omega) _).trans (hb2.mono (by simp; omega))⟩
theorem no_PlayEqual : NoPlayEqual := by
  intro n s W h
  have HO := Lib.hid (fun W => playOf_no n s W h)
  clear h
  go_enter Try.func29, Try.ntmps29
  go_wp2_with fail
  refine (HO.out _).mono ?_
  rintro e w1 ⟨rfl, hb1⟩
  go_wp2
  go_ret2
  exact ⟨rfl, by
    have := hb1.size
    first
    | exact hb1
    | exact hb1.alloc (by omega) _
    | exact hb1.trans (hb2.mono (by omega))
    | exact (hb1.alloc (by omega) _).trans (hb2.mono (by simp; omega))⟩
theorem yes_PlayEqual : YesPlayEqual := by
  intro n s W h2 hs hp
  have h3 := ((play_iff n s).1 hp).1
  have HO := Lib.hid (fun W => playOf_yes n s W h2 hs hp)
  have hS := fun W => inCommon_any n s W (by omega) h2 hs
  rw [evY_evZ n s (by omega), evQ_even n s (by omega)] at hS
  have HS := Lib.hid hS
  clear hs hp hS
  go_enter Try.func29, Try.ntmps29
  go_wp2_with fail
  refine (HO.out _).mono ?_
  rintro e w1 ⟨rfl, hb1⟩
  go_wp2_with (go_at_call 63; refine (HS.out _).mono ?_; rintro e w2 ⟨rfl, hb2⟩)
  go_ret2
  exact ⟨rfl, by
    have := hb1.size
    first
    | exact hb1
    | exact hb1.alloc (by omega) _
    | exact hb1.trans (hb2.mono (by omega))
    | exact (hb1.alloc (by omega) _).trans (hb2.mono (by simp; omega))⟩
theorem no_PlayAll : NoPlayAll := by
  intro n W h
  have HO := Lib.hid (fun W => playRingOf_no n W h)
  clear h
  go_enter Try.func18, Try.ntmps18
  go_wp2_with fail
  refine (HO.out _).mono ?_
  rintro e w1 ⟨rfl, hb1⟩
  go_wp2
  go_ret2
  exact nil_res ⟨rfl, by
    have := hb1.size
    first
    | exact hb1
    | exact hb1.alloc (by omega) _
    | exact hb1.trans (hb2.mono (by omega))
    | exact (hb1.alloc (by omega) _).trans (hb2.mono (by simp; omega))⟩
theorem take_next (xs : List Int) (i : Nat) (h : i < xs.length) : xs.take (i + 1) = xs.take i ++ [xs.getD i 0] := by
  rw [List.take_add_one, List.getElem?_eq_getElem h, List.getD_eq_getElem?_getD, List.getElem?_eq_getElem h]
  rfl
set_option maxHeartbeats 1000000 in
theorem yes_PlayAll : YesPlayAll := by
  intro n w h1 h2 h3
  have HO := Lib.hid (fun W => playRingOf_yes n W h1 h2 h3)
  have HP := Lib.hid (fun W => plays_any n W (by omega) (by omega))
  have hxl : (playL n (2 ^ (n - 1))).length ≤ 4096 := Nat.le_trans (playL_len n (2 ^ (n - 1))) (Nat.le_trans (pow_le (n - 1) (by omega)) (by omega))
  have hpos : 0 < (playL n (2 ^ (n - 1))).length := by rw [playL_size n h1 h2 h3]; exact Nat.two_pow_pos _
  have HGt : Hid (∀ i, i < (playL n (2 ^ (n - 1))).length → (playL n (2 ^ (n - 1))).getD i 0 = ((atN (playL n (2 ^ (n - 1))) i : Nat) : Int) ∧ atN (playL n (2 ^ (n - 1))) i < 2 ^ n) := Lib.hid (fun i hi => by
    obtain ⟨x, a1, a2, a3, a4⟩ := playL_get n _ i hi
    rw [← half_pow n (by omega)] at a2
    have e : atN (playL n (2 ^ (n - 1))) i = x := by unfold atN; rw [a1]; rfl
    rw [e]
    exact ⟨a1, a2⟩)
  generalize playL n (2 ^ (n - 1)) = xs at *
  have HTk := Lib.hid (fun i hi => take_next xs i hi)
  have HTe : Hid (xs.take xs.length = xs) := Lib.hid List.take_length
  have HTl : Hid (∀ i, (xs.take i).length ≤ 4096) := Lib.hid (fun i => by rw [List.length_take]; omega)
  clear h3
  go_enter Try.func18, Try.ntmps18
  go_wp2_with fail
  refine (HO.out _).mono ?_
  rintro e w1 ⟨rfl, hb1⟩
  go_wp2_with fail
  refine (HP.out _).mono ?_
  rintro e w2 ⟨sv, rfl, hb2, hI2⟩
  have HB2 := Lib.hid (show Below w.heap.size w w2 from (hb1.alloc hb1.size _).trans (hb2.mono (by have := hb1.size; simp; omega)))
  have hI3 := hI2.base (b' := w.heap.size) (by have := hb1.size; simp; omega)
  clear hb1 hb2 hI2
  rcases hI3.shape with ⟨_, e2⟩ | ⟨g, cap, rfl, hg⟩
  · rw [e2] at hpos; exact absurd hpos (by simp)
  have HI2 := Lib.hid hI3
  clear hI3
  go_wp2
  go_loopw [6, 8, 19] (fun u v8 v wr => ∃ i : Nat, i ≤ xs.length ∧ v = .int .i64 (i : Int) ∧ Hid (Below w.heap.size w wr) ∧ Hid (IsInts wr w2.heap.size u (xs.take i)) ∧ Hid (IsPlays wr w.heap.size (.slice (some ⟨g, 0, none⟩) xs.length cap) n xs) ∧ g < w2.heap.size ∧ w2.heap.size ≤ wr.heap.size) (fun _ _ v _ => xs.length - (intOf v).toNat)
  case atStart => exact ⟨0, Nat.zero_le _, rfl, HB2, Lib.hid (isInts_nil _ _), HI2, (World.ownsRow.lt HI2.out g rfl).2, Nat.le_refl _⟩
  case round =>
    obtain ⟨i, hi, rfl, HB, HO, HX, hg2, hz2⟩ := hrel
    by_cases hlt : i < xs.length
    · obtain ⟨c0, c1⟩ := HX.out.cells hlt
      have i1 : (0 : Int) ≤ (i : Int) := by omega
      have i2 : (i : Int) < (xs.length : Int) := by omega
      have hwk : IntKind.i64.wrap ((i : Int) + 1) = ((i + 1 : Nat) : Int) := by rw [IntWalk.i64_in _ ⟨by omega, by omega⟩]; rfl
      have HT1 := Lib.hid (HTk.out i hlt)
      have HL1 := Lib.hid (HTl.out i)
      generalize xs.getD i 0 = z at *
      have q1 := (Duo.new wr 47 (.int .i64 (n:Int)) (.int .i64 z)).cell1
      have hB3 : Below wr.heap.size wr (wr.alloc (.cells #[.int .i64 (n:Int), .int .i64 z] 47)) := (Below.refl _ _).alloc (Nat.le_refl _) _
      have HB3 := Lib.hid (HB.out.trans (hB3.mono HB.out.size))
      have HO3 := Lib.hid (HO.out.belowAll hB3)
      have HX3 := Lib.hid (HX.out.belowAll hB3)
      have HZ3 : Hid (w2.heap.size ≤ (wr.alloc (.cells #[.int .i64 (n:Int), .int .i64 z] 47)).heap.size) := Lib.hid (by simp; omega)
      have HZ4 := Lib.hid hB3.size
      clear hB3
      go_wp2_with (first | (at_builtin; refine wpList_append_ints rfl (.tmp 23) (.tmp 27) rfl u6 (xs.take i) z (wr.alloc (.cells #[.int .i64 (n:Int), .int .i64 z] 47)) w2.heap.size rfl (by simp; rfl) HO3.out (Nat.le_trans HL1.out (by omega)) HZ3.out (fun v' W6 hv6 hk6 hb6 => ?_); have HI6 := Lib.hid hv6; have HB6 := Lib.hid hb6; clear hk6 hb6 hv6))
      have hB6 := HB6.out w2.heap.size (wr.alloc (.cells #[.int .i64 (n:Int), .int .i64 z] 47)) (Nat.le_refl _) (Below.refl _ _)
      go_roundw
      case rel => exact ⟨i + 1, by omega, by go_num, Lib.hid (HB6.out _ _ HB2.out.size HB3.out), Lib.hid (by rw [HT1.out]; exact HI6.out), Lib.hid (HX3.out.below (fun k hk => by cases hk; exact hg2) hB6), hg2, by have := hB6.size; have := HZ3.out; omega⟩
      case measure => simp [intOf]; omega
    · obtain rfl : i = xs.length := by omega
      have HO2 : Hid (IsInts wr w2.heap.size u6 xs) := Lib.hid (by have h := HO.out; rw [HTe.out] at h; exact h)
      clear hlt
      go_wp2
      go_ret2
      exact ⟨_, rfl, HB.out, IsInts.base (b := w2.heap.size) HO2.out HB2.out.size⟩
theorem no_PlayClasses : NoPlayClasses := by
  intro n W h
  have HO := Lib.hid (fun W => playRingOf_no n W h)
  clear h
  go_enter Try.func33, Try.ntmps33
  go_wp2_with fail
  refine (HO.out _).mono ?_
  rintro e w1 ⟨rfl, hb1⟩
  go_wp2
  go_ret2
  exact ⟨rfl, by
    have := hb1.size
    first
    | exact hb1
    | exact hb1.alloc (by omega) _
    | exact hb1.trans (hb2.mono (by omega))
    | exact (hb1.alloc (by omega) _).trans (hb2.mono (by simp; omega))⟩
set_option maxHeartbeats 1000000 in
theorem yes_PlayClasses : YesPlayClasses := by
  intro n w h1 h2 h3
  have HO := Lib.hid (fun W => playRingOf_yes n W h1 h2 h3)
  have HP := Lib.hid (fun W => plays_any n W (by omega) (by omega))
  have hxl : (playL n (2 ^ (n - 1))).length ≤ 4096 := Nat.le_trans (playL_len n (2 ^ (n - 1))) (Nat.le_trans (pow_le (n - 1) (by omega)) (by omega))
  have hpos : 0 < (playL n (2 ^ (n - 1))).length := by rw [playL_size n h1 h2 h3]; exact Nat.two_pow_pos _
  have HGt : Hid (∀ i, i < (playL n (2 ^ (n - 1))).length → (playL n (2 ^ (n - 1))).getD i 0 = ((atN (playL n (2 ^ (n - 1))) i : Nat) : Int) ∧ atN (playL n (2 ^ (n - 1))) i < 2 ^ n) := Lib.hid (fun i hi => by
    obtain ⟨x, a1, a2, a3, a4⟩ := playL_get n _ i hi
    rw [← half_pow n (by omega)] at a2
    have e : atN (playL n (2 ^ (n - 1))) i = x := by unfold atN; rw [a1]; rfl
    rw [e]
    exact ⟨a1, a2⟩)
  have HCl := Lib.hid (own_cls n h1 h2 h3)
  generalize playL n (2 ^ (n - 1)) = xs at *
  have HLe := Lib.hid (fun x (hx : x < 2 ^ n) W => leastTurned_any n x W (by omega) (by omega) hx)
  have HOq := Lib.hid (fun i => ownQ_le n xs i)
  have HSt : Hid (∀ i, ownQ n xs (i + 1) = if Nat.beq (lturnN n (atN xs i)) (atN xs i) then ownQ n xs i + 1 else ownQ n xs i) := Lib.hid (fun _ => rfl)
  generalize clsAll n = C at *
  clear h3
  go_enter Try.func33, Try.ntmps33
  go_wp2_with fail
  refine (HO.out _).mono ?_
  rintro e w1 ⟨rfl, hb1⟩
  go_wp2_with fail
  refine (HP.out _).mono ?_
  rintro e w2 ⟨sv, rfl, hb2, hI2⟩
  have HB2 := Lib.hid (show Below w.heap.size w w2 from (hb1.alloc hb1.size _).trans (hb2.mono (by have := hb1.size; simp; omega)))
  have hI3 := hI2.base (b' := w.heap.size) (by have := hb1.size; simp; omega)
  clear hb1 hb2 hI2
  rcases hI3.shape with ⟨_, e2⟩ | ⟨g, cap, rfl, hg⟩
  · rw [e2] at hpos; exact absurd hpos (by simp)
  have HI2 := Lib.hid hI3
  clear hI3
  have hmx : Try.prog.follows .mixedOrders = true := by kernel_rfl
  go_wp2
  go_loopw [6, 8, 19] (fun u v8 v wr => ∃ i : Nat, i ≤ xs.length ∧ u = .int .i64 ((ownQ n xs i : Nat) : Int) ∧ v = .int .i64 (i : Int) ∧ Hid (Below w.heap.size w wr) ∧ Hid (IsPlays wr w.heap.size (.slice (some ⟨g, 0, none⟩) xs.length cap) n xs)) (fun _ _ v _ => xs.length - (intOf v).toNat)
  case atStart => exact ⟨0, Nat.zero_le _, rfl, rfl, HB2, HI2⟩
  case round =>
    obtain ⟨i, hi, rfl, rfl, HB, HX⟩ := hrel
    by_cases hlt : i < xs.length
    · obtain ⟨c0, c1⟩ := HX.out.cells hlt
      have i1 : (0 : Int) ≤ (i : Int) := by omega
      have i2 : (i : Int) < (xs.length : Int) := by omega
      have hwk : IntKind.i64.wrap ((i : Int) + 1) = ((i + 1 : Nat) : Int) := by rw [IntWalk.i64_in _ ⟨by omega, by omega⟩]; rfl
      obtain ⟨hx, hxN⟩ := HGt.out i hlt
      rw [hx] at c1
      have HS1 := HSt.out i
      have HL1 := HLe.out _ hxN
      have ho := HOq.out i
      generalize atN xs i = x at *
      generalize lturnN n x = l at *
      generalize ownQ n xs i = q at *
      have hwq : IntKind.i64.wrap ((q : Int) + 1) = ((q + 1 : Nat) : Int) := by rw [IntWalk.i64_in _ ⟨by omega, by omega⟩]; rfl
      have hwq2 : wrap64 ((q : Int) + 1) = ((q + 1 : Nat) : Int) := by rw [IntWalk.wrap64_in _ ⟨by omega, by omega⟩]; rfl
      have HLx := Lib.hid HL1
      clear HL1 hx
      cases hlx : Nat.beq l x
      · rw [hlx] at HS1
        have hne : l ≠ x := fun e => by rw [e, Nat.beq_refl] at hlx; cases hlx
        have HS : Hid (ownQ n xs (i + 1) = q) := Lib.hid HS1
        have e1 : ((x : Int) == (l : Int)) = false := beq_cast_ne (fun e => hne e.symm)
        have e2 : ((x : Int) = (l : Int)) = False := eq_false (fun e => hne (by omega))
        have e3 : (x = l) = False := eq_false (fun e => hne e.symm)
        clear HS1 hlx
        go_wp2_with fail
        have hA0 := Duo.new wr 47 (.int .i64 (n:Int)) (.int .i64 (x:Int))
        have hB0 : Below wr.heap.size wr (wr.alloc (.cells #[.int .i64 (n:Int), .int .i64 (x:Int)] 47)) := (Below.refl _ _).alloc (Nat.le_refl _) _
        obtain ⟨W0, hW0⟩ : ∃ W0, wr.alloc (.cells #[.int .i64 (n:Int), .int .i64 (x:Int)] 47) = W0 := ⟨_, rfl⟩
        rw [hW0] at hA0 hB0 ⊢
        clear hW0
        have hB0 : Below wr.heap.size wr W0.drew := hB0.drew
        have hA0 : Duo W0.drew wr.heap.size 47 (.int .i64 (n:Int)) (.int .i64 (x:Int)) := hA0
        refine wp_region_held_drew (S := fun W => Duo W wr.heap.size 47 (.int .i64 (n:Int)) (.int .i64 (x:Int))) hmx hA0 (fun _ => ?_)
        generalize W0.drew = W4 at *
        refine take1 0 (v := ?_) rfl (by kernel_rfl) (by kernel_rfl) (by kernel_rfl) (fun _ _ _ h => h) (by rfl) ?_ hA0 ?_
        rotate_left
        · intro W9 hA
          have hX := hA
          clear hA
          have c0 := hX.cell0
          have c1 := hX.cell1
          clear hX
          go_simp
          try with_reducible rfl
        try simp only [Act.put, List.setIfInBounds_toArray, List.set_cons_zero, List.set_cons_succ]
        refine take1 1 (v := ?_) rfl (by kernel_rfl) (by kernel_rfl) (by kernel_rfl) (fun _ _ _ h => h) (by rfl) ?_ hA0 ?_
        rotate_left
        · intro W9 hA
          have hX := hA
          clear hA
          have c0 := hX.cell0
          have c1 := hX.cell1
          clear hX
          go_simp
          try with_reducible rfl
        try simp only [Act.put, List.setIfInBounds_toArray, List.set_cons_zero, List.set_cons_succ]
        refine step1 2 (by kernel_rfl) rfl (fun K hK => ?_)
        go_simp
        refine (HLx.out _).mono ?_
        rintro e W1' ⟨rfl, hb1⟩
        go_wp2_with fail
        have hA1 := duo_below hA0 hA0.lt hb1
        have hB1 := hB0.trans (hb1.mono hB0.size)
        refine hK.out _ _ hA1 ?_
        clear hK K
        try simp only [Act.put, List.setIfInBounds_toArray, List.set_cons_zero, List.set_cons_succ]
        refine take1 3 (v := ?_) rfl (by kernel_rfl) (by kernel_rfl) (by kernel_rfl) (fun _ _ _ h => h) (by rfl) ?_ hA1 ?_
        rotate_left
        · intro W9 hA
          have hX := hA
          clear hA
          have c0 := hX.cell0
          have c1 := hX.cell1
          clear hX
          go_simp
          try with_reducible rfl
        try simp only [Act.put, List.setIfInBounds_toArray, List.set_cons_zero, List.set_cons_succ]
        refine stop1 (by kernel_rfl) ?_
        go_wp2
        go_roundw
        case rel => exact ⟨i + 1, by omega, by rw [HS.out]; first | done | go_num, by go_num, Lib.hid (HB.out.trans (hB1.mono HB.out.size)), Lib.hid (HX.out.belowAll hB1)⟩
        case measure => simp [intOf]; omega
      · rw [hlx] at HS1
        obtain rfl : l = x := Nat.eq_of_beq_eq_true hlx
        have HS : Hid (ownQ n xs (i + 1) = q + 1) := Lib.hid HS1
        clear HS1 hlx
        go_wp2_with fail
        have hA0 := Duo.new wr 47 (.int .i64 (n:Int)) (.int .i64 (l:Int))
        have hB0 : Below wr.heap.size wr (wr.alloc (.cells #[.int .i64 (n:Int), .int .i64 (l:Int)] 47)) := (Below.refl _ _).alloc (Nat.le_refl _) _
        obtain ⟨W0, hW0⟩ : ∃ W0, wr.alloc (.cells #[.int .i64 (n:Int), .int .i64 (l:Int)] 47) = W0 := ⟨_, rfl⟩
        rw [hW0] at hA0 hB0 ⊢
        clear hW0
        have hB0 : Below wr.heap.size wr W0.drew := hB0.drew
        have hA0 : Duo W0.drew wr.heap.size 47 (.int .i64 (n:Int)) (.int .i64 (l:Int)) := hA0
        refine wp_region_held_drew (S := fun W => Duo W wr.heap.size 47 (.int .i64 (n:Int)) (.int .i64 (l:Int))) hmx hA0 (fun _ => ?_)
        generalize W0.drew = W4 at *
        refine take1 0 (v := ?_) rfl (by kernel_rfl) (by kernel_rfl) (by kernel_rfl) (fun _ _ _ h => h) (by rfl) ?_ hA0 ?_
        rotate_left
        · intro W9 hA
          have hX := hA
          clear hA
          have c0 := hX.cell0
          have c1 := hX.cell1
          clear hX
          go_simp
          try with_reducible rfl
        try simp only [Act.put, List.setIfInBounds_toArray, List.set_cons_zero, List.set_cons_succ]
        refine take1 1 (v := ?_) rfl (by kernel_rfl) (by kernel_rfl) (by kernel_rfl) (fun _ _ _ h => h) (by rfl) ?_ hA0 ?_
        rotate_left
        · intro W9 hA
          have hX := hA
          clear hA
          have c0 := hX.cell0
          have c1 := hX.cell1
          clear hX
          go_simp
          try with_reducible rfl
        try simp only [Act.put, List.setIfInBounds_toArray, List.set_cons_zero, List.set_cons_succ]
        refine step1 2 (by kernel_rfl) rfl (fun K hK => ?_)
        go_simp
        refine (HLx.out _).mono ?_
        rintro e W1' ⟨rfl, hb1⟩
        go_wp2_with fail
        have hA1 := duo_below hA0 hA0.lt hb1
        have hB1 := hB0.trans (hb1.mono hB0.size)
        refine hK.out _ _ hA1 ?_
        clear hK K
        try simp only [Act.put, List.setIfInBounds_toArray, List.set_cons_zero, List.set_cons_succ]
        refine take1 3 (v := ?_) rfl (by kernel_rfl) (by kernel_rfl) (by kernel_rfl) (fun _ _ _ h => h) (by rfl) ?_ hA1 ?_
        rotate_left
        · intro W9 hA
          have hX := hA
          clear hA
          have c0 := hX.cell0
          have c1 := hX.cell1
          clear hX
          go_simp
          try with_reducible rfl
        try simp only [Act.put, List.setIfInBounds_toArray, List.set_cons_zero, List.set_cons_succ]
        refine stop1 (by kernel_rfl) ?_
        go_wp2
        go_roundw
        case rel => exact ⟨i + 1, by omega, by rw [HS.out]; first | done | go_num, by go_num, Lib.hid (HB.out.trans (hB1.mono HB.out.size)), Lib.hid (HX.out.belowAll hB1)⟩
        case measure => simp [intOf]; omega
    · obtain rfl : i = xs.length := by omega
      clear hlt
      have HE : Hid (ownQ n xs xs.length = C) := HCl
      go_wp2
      go_ret2
      exact ⟨by rw [HE.out]; rfl, HB.out⟩
end Go.Proofs.Ytaklmepioeoohaa
