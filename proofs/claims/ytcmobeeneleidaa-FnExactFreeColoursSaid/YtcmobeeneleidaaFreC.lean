/- Free sets: the model's watching, neat and sumless sets. -/
import Derived.Test.YtcmobeeneleidaaFreB
import Derived.Test.YtcmobeeneleidaaRndG
import Derived.Test.YtcmobeeneleidaaRndD
import Derived.BigQuiet
namespace Go.Proofs.Ytcmobeeneleidaa
open Go.RowKit Go.Shelf
set_option linter.unusedVariables false
theorem or_one_nat (s : Nat) (hs : s < 2 ^ 40) : bits .or .i64 (s : Int) 1 = ((s ||| 1 : Nat) : Int) := or_nat s 1 (by omega) (by omega)
theorem or_one_lt (n s : Nat) (h1 : 1 ≤ n) (hs : s < 2 ^ n) : s ||| 1 < 2 ^ n := Nat.or_lt_two_pow hs (by have := Nat.pow_le_pow_right (n := 2) (by omega) h1; omega)
theorem all_cast (N : Nat) (h1 : 1 ≤ N) (h : N ≤ 4096) : IntKind.i64.wrap ((N : Int) - 1) = ((N - 1 : Nat) : Int) ∧ wrap64 ((N : Int) - 1) = ((N - 1 : Nat) : Int) := by
  rw [show (N : Int) - 1 = ((N - 1 : Nat) : Int) by omega]
  exact ⟨IntWalk.i64_in _ ⟨by omega, by omega⟩, IntWalk.wrap64_in _ ⟨by omega, by omega⟩⟩
theorem beq_cast_ne {a b : Nat} (h : a ≠ b) : ((a : Int) == (b : Int)) = false := by
  cases hb : ((a : Int) == (b : Int))
  · rfl
  · exact absurd (Int.ofNat.inj (eq_of_beq hb)) h
theorem wide_eq (n s x : Nat) : wideN n s x = true ↔ sumN n (s ||| 1) x = 2 ^ n - 1 := by
  unfold wideN
  exact ⟨Nat.eq_of_beq_eq_true, fun h => by rw [h]; exact Nat.beq_refl _⟩
theorem specFreeWatch_yes (n s : Nat) (w : World) (h1 : 1 ≤ n) (h2 : n ≤ 12) (hs : s < 2 ^ n) (h0 : s.testBit 0 = false) :
    Calls Try.prog 21 #[.int .i64 (n:Int), .int .i64 (s:Int)] w fun e w' => e = .returned (.tuple #[.int .i64 ((watchF n s : Nat) : Int), .bool true]) ∧ Below w.heap.size w w' := by
  have hp := pow_le n h2
  have hp1 := Nat.two_pow_pos n
  have HI := Lib.hid (specStep_yes n s w h1 h2 hs h0)
  have HSz := Lib.hid (fun (x : Nat) (hx : x < 2 ^ n) W => l1Size_any x W (by omega))
  have HSu := Lib.hid (fun (x : Nat) (hx : x < 2 ^ n) W => l1Sum_any n x (s ||| 1) W h1 h2 hx (or_one_lt n s h1 hs))
  have ho := or_one_nat s (by omega)
  have hwp := wrap_pow n (by omega)
  have HE : Hid (lowN (wideN n s) n (2 ^ n) = watchF n s) := Lib.hid rfl
  have HSt := Lib.hid (fun i => low_step (wideN n s) n i)
  have HL := Lib.hid (fun k => low_le (wideN n s) n k)
  have HWi := Lib.hid (fun i => wide_eq n s i)
  have HOne := Lib.hid (watch_one n s h1)
  have HSl := Lib.hid (fun x => sumN_lt n (s ||| 1) x)
  obtain ⟨N, hN⟩ : ∃ N, 2 ^ n = N := ⟨_, rfl⟩
  rw [hN] at hp hp1 HSz HSu hwp HE HWi HSl
  have hwi : IntKind.i64.wrap (2 ^ n) = (N : Int) := by rw [IntWalk.i64_left]; exact hwp
  obtain ⟨m1, m2⟩ := all_cast N (by omega) hp
  clear hN hs h0
  go_enter Try.func21, Try.ntmps21
  go_wp2_with (go_at_call 30; refine HI.out.mono ?_; rintro e w' ⟨rfl, rfl⟩)
  --GEN39
  go_loopw [6, 7] (fun u v wr => ∃ i : Nat, 1 ≤ i ∧ i ≤ N ∧ u = .int .i64 ((lowN (wideN n s) n i : Nat) : Int) ∧ v = .int .i64 (i : Int) ∧ Below w.heap.size w wr) (fun _ v _ => N - (intOf v).toNat)
  case atStart => exact ⟨1, Nat.le_refl _, hp1, by rw [HOne.out], rfl, Below.refl _ _⟩
  case round =>
    obtain ⟨i, hi1, hi, rfl, rfl, hB⟩ := hrel
    by_cases hlt : i < N
    · have HSi := Lib.hid (HSt.out i)
      have hm := HL.out i
      have HSz1 := Lib.hid (HSz.out i hlt)
      have HSu1 := Lib.hid (HSu.out i hlt)
      have HW1 := Lib.hid (HWi.out i)
      have hsl := HSl.out i
      have HT : Hid (∀ M, lowN (wideN n s) n (i + 1) = M → M = lowN (wideN n s) n (i + 1)) := Lib.hid (fun M h => h.symm)
      generalize lowN (wideN n s) n i = m at *
      generalize sizeN i = z at *
      generalize sumN n (s ||| 1) i = y at *
      by_cases hz : z < m
      · have k1 : (z : Int) < (m : Int) := by omega
        have k2 := decide_eq_true k1
        have k3 : decide (z < m) = true := decide_eq_true hz
        by_cases hy : y = N - 1
        · have HT2 := Lib.hid (HT.out _ (HSi.out.1 ⟨HW1.out.2 hy, hz⟩))
          have e1 : ((y : Int) == ((N - 1 : Nat) : Int)) = true := by simp [hy]
          clear HSi HT HW1 hz hy
          go_wp2
          refine wp_region_quiet_lit (by kernel_rfl) (by kernel_rfl) ?_
          repeat (go_big_quiet_step (fail))
          go_big_quiet_want
          go_big_quiet_op
          apply Exists.intro
          refine ⟨fun _ => ?_, ?_⟩
          · go_at_call 44
            exact Calls.quiet_of_same ((HSz1.out _).mono fun _ _ h => ⟨h.1, h.2.symm⟩)
          go_big_quiet_on
          repeat (go_big_quiet_step (fail))
          go_big_quiet_want
          go_big_quiet_op
          apply Exists.intro
          refine ⟨fun _ => ?_, ?_⟩
          · go_at_call 45
            exact Calls.quiet_of_same ((HSu1.out _).mono fun _ _ h => ⟨h.1, h.2.symm⟩)
          go_big_quiet_on
          repeat (go_big_quiet_step (fail))
          refine wpQuiet_nil ?_
          intro _ hw'
          obtain ⟨nq, hw''⟩ := hw'
          subst hw''
          go_wp2_with (go_at_call 44; refine (HSz1.out _).mono ?_; rintro e w' ⟨rfl, rfl⟩)
          go_roundw
          case rel => exact ⟨i + 1, by omega, by omega, by rw [← HT2.out], by go_num, below_drewN hB _⟩
          case measure => simp [intOf]; omega
        · have HT2 := Lib.hid (HT.out _ (HSi.out.2 (fun h => hy (HW1.out.1 h.1))))
          have e1 : ((y : Int) == ((N - 1 : Nat) : Int)) = false := by simp; omega
          clear HSi HT HW1 hz hy
          go_wp2
          refine wp_region_quiet_lit (by kernel_rfl) (by kernel_rfl) ?_
          repeat (go_big_quiet_step (fail))
          go_big_quiet_want
          go_big_quiet_op
          apply Exists.intro
          refine ⟨fun _ => ?_, ?_⟩
          · go_at_call 44
            exact Calls.quiet_of_same ((HSz1.out _).mono fun _ _ h => ⟨h.1, h.2.symm⟩)
          go_big_quiet_on
          repeat (go_big_quiet_step (fail))
          go_big_quiet_want
          go_big_quiet_op
          apply Exists.intro
          refine ⟨fun _ => ?_, ?_⟩
          · go_at_call 45
            exact Calls.quiet_of_same ((HSu1.out _).mono fun _ _ h => ⟨h.1, h.2.symm⟩)
          go_big_quiet_on
          repeat (go_big_quiet_step (fail))
          refine wpQuiet_nil ?_
          intro _ hw'
          obtain ⟨nq, hw''⟩ := hw'
          subst hw''
          go_wp2
          go_roundw
          case rel => exact ⟨i + 1, by omega, by omega, by rw [← HT2.out], by go_num, below_drewN hB _⟩
          case measure => simp [intOf]; omega
      · have k1 : ¬ (z : Int) < (m : Int) := by omega
        have k2 := decide_eq_false k1
        have k3 : decide (z < m) = false := decide_eq_false hz
        have HT2 := Lib.hid (HT.out _ (HSi.out.2 (fun h => hz h.2)))
        clear HSi HT HW1 hz
        go_wp2
        refine wp_region_quiet_lit (by kernel_rfl) (by kernel_rfl) ?_
        repeat (go_big_quiet_step (fail))
        go_big_quiet_want
        go_big_quiet_op
        apply Exists.intro
        refine ⟨fun _ => ?_, ?_⟩
        · go_at_call 44
          exact Calls.quiet_of_same ((HSz1.out _).mono fun _ _ h => ⟨h.1, h.2.symm⟩)
        go_big_quiet_on
        repeat (go_big_quiet_step (fail))
        refine wpQuiet_nil ?_
        intro _ hw'
        obtain ⟨nq, hw''⟩ := hw'
        subst hw''
        go_wp2
        go_roundw
        case rel => exact ⟨i + 1, by omega, by omega, by rw [← HT2.out], by go_num, below_drewN hB _⟩
        case measure => simp [intOf]; omega
    · obtain rfl : i = N := by omega
      go_wp2
      go_ret2
      exact ⟨by rw [HE.out]; rfl, hB⟩
theorem specFreeSumless_yes (n : Nat) (w : World) (h1 : 1 ≤ n) (h2 : n ≤ 12) :
    Calls Try.prog 28 #[.int .i64 (n:Int)] w fun e w' => e = .returned (.tuple #[.int .i64 ((sumlF n : Nat) : Int), .bool true]) ∧ w = w' := by
  have hp := pow_le n h2
  have HI := Lib.hid (specIn_yes n 0 w h1 h2 (Nat.two_pow_pos n))
  have HSz := Lib.hid (fun (x : Nat) (hx : x < 2 ^ n) W => l1Size_any x W (by omega))
  have HSu := Lib.hid (fun (x : Nat) (hx : x < 2 ^ n) W => l1Sum_any n x x W h1 h2 hx hx)
  have HAn := Lib.hid (fun (x : Nat) (hx : x < 2 ^ n) => and_nat (sumN n x x) x (by have := sumN_lt n x x; omega) (by omega))
  have hwp := wrap_pow n (by omega)
  have HE : Hid (topN (sumlN n) (2 ^ n) = sumlF n) := Lib.hid rfl
  have HSt := Lib.hid (fun i => top_step (sumlN n) i)
  have HQ : Hid (∀ i, sumlN n i = Nat.beq (sumN n i i &&& i) 0) := Lib.hid (fun i => rfl)
  obtain ⟨N, hN⟩ : ∃ N, 2 ^ n = N := ⟨_, rfl⟩
  rw [hN] at hp HSz HSu HAn hwp HE
  have HL := Lib.hid (fun k (hk : k ≤ N) => top_le (sumlN n) k n h2 (by omega))
  have hwi : IntKind.i64.wrap (2 ^ n) = (N : Int) := by rw [IntWalk.i64_left]; exact hwp
  clear hN
  go_enter Try.func28, Try.ntmps28
  go_wp2_with (go_at_call 48; refine HI.out.mono ?_; rintro e w' ⟨rfl, rfl⟩)
  --GEN39
  go_loop [4, 5] (fun u v => ∃ i : Nat, i ≤ N ∧ u = .int .i64 ((topN (sumlN n) i : Nat) : Int) ∧ v = .int .i64 (i : Int)) (fun _ v => N - (intOf v).toNat)
  case atStart => exact ⟨0, Nat.zero_le _, rfl, rfl⟩
  case round =>
    obtain ⟨i, hi, rfl, rfl⟩ := hrel
    by_cases hlt : i < N
    · have HSi := Lib.hid (HSt.out i)
      have hm := HL.out i hi
      have HSz1 := Lib.hid (HSz.out i hlt)
      have HSu1 := Lib.hid (HSu.out i hlt)
      have han := HAn.out i hlt
      have HQ1 := Lib.hid (HQ.out i)
      have HT : Hid (∀ M, topN (sumlN n) (i + 1) = M → M = topN (sumlN n) (i + 1)) := Lib.hid (fun M h => h.symm)
      generalize topN (sumlN n) i = m at *
      generalize sizeN i = z at *
      generalize sumN n i i &&& i = q at *
      generalize sumN n i i = y at *
      by_cases hz : m < z
      · have k1 : (m : Int) < (z : Int) := by omega
        have k2 := decide_eq_true k1
        by_cases hq : q = 0
        · have HT2 := Lib.hid (HT.out _ (HSi.out.1 ⟨by rw [HQ1.out, hq]; rfl, hz⟩))
          have e1 : ((q : Int) == 0) = true := by simp [hq]
          clear HSi HT HQ1 hz hq
          go_wp2_with (first | (go_at_call 44; refine (HSz1.out _).mono ?_; rintro e w' ⟨rfl, rfl⟩) | (go_at_call 45; refine (HSu1.out _).mono ?_; rintro e w' ⟨rfl, rfl⟩))
          go_round
          case rel => exact ⟨i + 1, by omega, by rw [← HT2.out], by go_num⟩
          case measure => simp [intOf]; omega
        · have HT2 := Lib.hid (HT.out _ (HSi.out.2 (fun h => by
            rw [HQ1.out] at h
            exact hq (Nat.eq_of_beq_eq_true h.1))))
          have e1 : ((q : Int) == 0) = false := by simp; omega
          clear HSi HT HQ1 hz hq
          go_wp2_with (first | (go_at_call 44; refine (HSz1.out _).mono ?_; rintro e w' ⟨rfl, rfl⟩) | (go_at_call 45; refine (HSu1.out _).mono ?_; rintro e w' ⟨rfl, rfl⟩))
          go_round
          case rel => exact ⟨i + 1, by omega, by rw [← HT2.out], by go_num⟩
          case measure => simp [intOf]; omega
      · have k1 : ¬ (m : Int) < (z : Int) := by omega
        have k2 := decide_eq_false k1
        have HT2 := Lib.hid (HT.out _ (HSi.out.2 (fun h => hz h.2)))
        clear HSi HT HQ1 hz
        go_wp2_with (go_at_call 44; refine (HSz1.out _).mono ?_; rintro e w' ⟨rfl, rfl⟩)
        go_round
        case rel => exact ⟨i + 1, by omega, by rw [← HT2.out], by go_num⟩
        case measure => simp [intOf]; omega
    · obtain rfl : i = N := by omega
      go_wp2
      go_ret2
      exact ⟨by rw [HE.out]; rfl, rfl⟩
theorem specFreeNeat_yes (n s : Nat) (w : World) (h1 : 1 ≤ n) (h2 : n ≤ 12) (hs : s < 2 ^ n) (h0 : s.testBit 0 = false) :
    Calls Try.prog 23 #[.int .i64 (n:Int), .int .i64 (s:Int)] w (ListRes w (neatL n s (2 ^ n)) true) := by
  have hp := pow_le n h2
  have hp1 := Nat.two_pow_pos n
  have HI := Lib.hid (fun W => specStep_yes n s W h1 h2 hs h0)
  have HSz := Lib.hid (fun (x : Nat) (hx : x < 2 ^ n) W => l1Size_any x W (by omega))
  have HSu := Lib.hid (fun (x : Nat) (hx : x < 2 ^ n) W => l1Sum_any n x (s ||| 1) W h1 h2 hx (or_one_lt n s h1 hs))
  have ho := or_one_nat s (by omega)
  have hol := or_one_lt n s h1 hs
  have HSo := Lib.hid (fun W => l1Size_any (s ||| 1) W (by omega))
  have hwp := wrap_pow n (by omega)
  have HNe : Hid (∀ i, neatL n s (i + 1) = if neatN n s i then neatL n s i ++ [(i : Int)] else neatL n s i) := Lib.hid (fun i => rfl)
  have HNd : Hid (∀ i, neatN n s i = (Nat.beq (sizeN i * sizeN (s ||| 1)) n && wideN n s i)) := Lib.hid (fun i => rfl)
  have HWi := Lib.hid (fun i => wide_eq n s i)
  have HOne := Lib.hid (neat_one n s h1)
  have HSl := Lib.hid (fun x => sumN_lt n (s ||| 1) x)
  have HZl := Lib.hid (fun x (hx : x < 2 ^ n) => sizeN_le n x h2 hx)
  have hzo := sizeN_le n (s ||| 1) h2 hol
  obtain ⟨N, hN⟩ : ∃ N, 2 ^ n = N := ⟨_, rfl⟩
  rw [hN] at hp hp1 HSz HSu hwp HWi HSl HZl hol ⊢
  have hwi : IntKind.i64.wrap (2 ^ n) = (N : Int) := by rw [IntWalk.i64_left]; exact hwp
  obtain ⟨m1, m2⟩ := all_cast N (by omega) hp
  clear hN hs h0
  go_enter Try.func23, Try.ntmps23
  go_wp2_with (go_at_call 30; refine (HI.out _).mono ?_; rintro e w' ⟨rfl, rfl⟩)
  --GEN39
  go_loopw [6, 7] (fun u v wr => ∃ (ov : Value) (i : Nat), u = ov ∧ 1 ≤ i ∧ i ≤ N ∧ v = .int .i64 (i : Int) ∧ Below w.heap.size w wr ∧ IsInts wr w.heap.size ov (neatL n s i)) (fun _ v _ => N - (intOf v).toNat)
  case atStart => exact ⟨_, 1, rfl, Nat.le_refl _, hp1, rfl, (Below.refl _ _).alloc (Nat.le_refl _) _, by rw [HOne.out]; exact nil_made w _ (Nat.le_refl _)⟩
  case round =>
    obtain ⟨ov, i, rfl, hi1, hi, rfl, hB, hO⟩ := hrel
    have HB := Lib.hid hB
    have HO := Lib.hid hO
    clear hB hO
    by_cases hlt : i < N
    · have HSi := Lib.hid (HNe.out i)
      have HSz1 := Lib.hid (HSz.out i hlt)
      have HSu1 := Lib.hid (HSu.out i hlt)
      have HW1 := Lib.hid (HWi.out i)
      have hsl := HSl.out i
      have hzl := HZl.out i hlt
      have HNd1 := Lib.hid (HNd.out i)
      have HT : Hid (∀ M, neatL n s (i + 1) = M → neatL n s (i + 1) = M) := Lib.hid (fun M h => h)
      have HLl := Lib.hid (neat_len n s i)
      generalize sizeN (s ||| 1) = q at *
      generalize sizeN i = z at *
      generalize sumN n (s ||| 1) i = y at *
      generalize s ||| 1 = t at *
      have hzq : z * q ≤ 144 := Nat.mul_le_mul (Nat.le_trans hzl h2) (Nat.le_trans hzo h2)
      obtain ⟨P, hP⟩ : ∃ P, z * q = P := ⟨_, rfl⟩
      rw [hP] at hzq HNd1
      obtain ⟨w1, w2⟩ := wraps_at ((z : Int) * (q : Int)) P (by rw [← hP]; exact (Int.natCast_mul z q).symm) (by omega)
      clear hP
      by_cases hz : P = n
      · have e0 : ((P : Int) == (n : Int)) = true := by simp [hz]
        have e2 : (P == n) = true := by simp [hz]
        have e3 : decide (P = n) = true := by simp [hz]
        have e4 : Value.bool (decide (P = n)) = Value.bool true := by simp [hz]
        by_cases hy : y = N - 1
        · have e1 : ((y : Int) == ((N - 1 : Nat) : Int)) = true := by simp [hy]
          have hne : neatN n s i = true := by rw [HNd1.out, HW1.out.2 hy, hz, Nat.beq_refl]; rfl
          rw [hne] at HSi
          have HT2 : Hid (neatL n s (i + 1) = neatL n s i ++ [(i : Int)]) := HSi
          clear HSi HT HW1 hz hy hne HNd1
          go_wp2
          refine wp_region_quiet_lit (by kernel_rfl) (by kernel_rfl) ?_
          repeat (go_big_quiet_step (fail))
          go_big_quiet_want
          go_big_quiet_op
          apply Exists.intro
          refine ⟨fun _ => ?_, ?_⟩
          · go_at_call 44
            exact Calls.quiet_of_same ((HSz1.out _).mono fun _ _ h => ⟨h.1, h.2.symm⟩)
          go_big_quiet_on
          repeat (go_big_quiet_step (fail))
          go_big_quiet_want
          go_big_quiet_op
          apply Exists.intro
          refine ⟨fun _ => ?_, ?_⟩
          · go_at_call 44
            exact Calls.quiet_of_same ((HSo.out _).mono fun _ _ h => ⟨h.1, h.2.symm⟩)
          go_big_quiet_on
          repeat (go_big_quiet_step (fail))
          go_big_quiet_want
          go_big_quiet_op
          apply Exists.intro
          refine ⟨fun _ => ?_, ?_⟩
          · go_at_call 45
            exact Calls.quiet_of_same ((HSu1.out _).mono fun _ _ h => ⟨h.1, h.2.symm⟩)
          go_big_quiet_on
          repeat (go_big_quiet_step (fail))
          refine wpQuiet_nil ?_
          intro _ hw'
          obtain ⟨nq, hw''⟩ := hw'
          subst hw''
          have HBq := Lib.hid (below_drewN HB.out nq)
          have HOq := Lib.hid (HO.out.belowAll (below_drewN (Below.refl wr.heap.size wr) nq))
          obtain ⟨W5, hW5⟩ : ∃ W5, wr.drewN nq = W5 := ⟨_, rfl⟩
          rw [hW5] at HBq HOq ⊢
          clear hW5
          go_wp2_with (at_builtin; refine wpList_append_ints rfl (.tmp 39) (.tmp 41) rfl _ (neatL n s i) (i : Int) W5 w.heap.size rfl rfl HOq.out (Nat.le_trans HLl.out (by omega)) HBq.out.size (fun v' W6 hv6 hk6 hb6 => ?_))
          go_roundw
          case rel => exact ⟨_, i + 1, rfl, by omega, by omega, by go_num, hb6 _ _ (Nat.le_refl _) HBq.out, by rw [HT2.out]; exact hv6⟩
          case measure => simp [intOf]; omega
        · have e1 : ((y : Int) == ((N - 1 : Nat) : Int)) = false := beq_cast_ne hy
          have hne : neatN n s i = false := by
            rw [HNd1.out]
            cases hb : wideN n s i
            · rw [Bool.and_false]
            · exact absurd (HW1.out.1 hb) hy
          rw [hne] at HSi
          have HT2 : Hid (neatL n s (i + 1) = neatL n s i) := HSi
          clear HSi HT HW1 hz hy hne HNd1
          go_wp2
          refine wp_region_quiet_lit (by kernel_rfl) (by kernel_rfl) ?_
          repeat (go_big_quiet_step (fail))
          go_big_quiet_want
          go_big_quiet_op
          apply Exists.intro
          refine ⟨fun _ => ?_, ?_⟩
          · go_at_call 44
            exact Calls.quiet_of_same ((HSz1.out _).mono fun _ _ h => ⟨h.1, h.2.symm⟩)
          go_big_quiet_on
          repeat (go_big_quiet_step (fail))
          go_big_quiet_want
          go_big_quiet_op
          apply Exists.intro
          refine ⟨fun _ => ?_, ?_⟩
          · go_at_call 44
            exact Calls.quiet_of_same ((HSo.out _).mono fun _ _ h => ⟨h.1, h.2.symm⟩)
          go_big_quiet_on
          repeat (go_big_quiet_step (fail))
          go_big_quiet_want
          go_big_quiet_op
          apply Exists.intro
          refine ⟨fun _ => ?_, ?_⟩
          · go_at_call 45
            exact Calls.quiet_of_same ((HSu1.out _).mono fun _ _ h => ⟨h.1, h.2.symm⟩)
          go_big_quiet_on
          repeat (go_big_quiet_step (fail))
          refine wpQuiet_nil ?_
          intro _ hw'
          obtain ⟨nq, hw''⟩ := hw'
          subst hw''
          go_wp2
          go_roundw
          case rel => exact ⟨_, i + 1, rfl, by omega, by omega, by go_num, below_drewN HB.out _, by rw [HT2.out]; exact HO.out.belowAll (below_drewN (Below.refl _ _) _)⟩
          case measure => simp [intOf]; omega
      · have e0 : ((P : Int) == (n : Int)) = false := beq_cast_ne hz
        have hne : neatN n s i = false := by
          rw [HNd1.out]
          cases hb : Nat.beq P n
          · rfl
          · exact absurd (Nat.eq_of_beq_eq_true hb) hz
        have e2 : (P == n) = false := by simp [hz]
        have e3 : decide (P = n) = false := by simp [hz]
        rw [hne] at HSi
        have HT2 : Hid (neatL n s (i + 1) = neatL n s i) := HSi
        clear HSi HT HW1 hz hne HNd1
        go_wp2
        refine wp_region_quiet_lit (by kernel_rfl) (by kernel_rfl) ?_
        repeat (go_big_quiet_step (fail))
        go_big_quiet_want
        go_big_quiet_op
        apply Exists.intro
        refine ⟨fun _ => ?_, ?_⟩
        · go_at_call 44
          exact Calls.quiet_of_same ((HSz1.out _).mono fun _ _ h => ⟨h.1, h.2.symm⟩)
        go_big_quiet_on
        repeat (go_big_quiet_step (fail))
        go_big_quiet_want
        go_big_quiet_op
        apply Exists.intro
        refine ⟨fun _ => ?_, ?_⟩
        · go_at_call 44
          exact Calls.quiet_of_same ((HSo.out _).mono fun _ _ h => ⟨h.1, h.2.symm⟩)
        go_big_quiet_on
        repeat (go_big_quiet_step (fail))
        refine wpQuiet_nil ?_
        intro _ hw'
        obtain ⟨nq, hw''⟩ := hw'
        subst hw''
        go_wp2
        go_roundw
        case rel => exact ⟨_, i + 1, rfl, by omega, by omega, by go_num, below_drewN HB.out _, by rw [HT2.out]; exact HO.out.belowAll (below_drewN (Below.refl _ _) _)⟩
        case measure => simp [intOf]; omega
    · obtain rfl : i = N := by omega
      go_wp2
      go_ret2
      exact ⟨_, rfl, HB.out, HO.out⟩
end Go.Proofs.Ytcmobeeneleidaa
