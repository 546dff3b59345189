/- Differences of sets: the model's greatest thin sets, least whole sets, and units that carry. Written by gen54.py. -/
import Derived.Test.YtaomjhkodohkcaaDifB
import Derived.Test.YtaomjhkodohkcaaDifQ
import Derived.BigQuiet
namespace Go.Proofs.Ytaomjhkodohkcaa
open Go.RowKit Go.Shelf
set_option linter.unusedVariables false
theorem odd_at (j : Nat) : (2 * j + 1).testBit 0 = true := by rw [Nat.testBit_zero]; exact decide_eq_true (by omega)
theorem even_at (j : Nat) : (2 * j).testBit 0 = false := by rw [Nat.testBit_zero]; exact decide_eq_false (by omega)
theorem oddThin_even (n j : Nat) : oddThin n (2 * j) = false := by unfold oddThin; rw [even_at]; rfl
theorem oddWhole_even (n j : Nat) : oddWhole n (2 * j) = false := by unfold oddWhole; rw [even_at]; rfl
theorem oddThin_odd (n j : Nat) : oddThin n (2 * j + 1) = thinB n (2 * j + 1) := by unfold oddThin; rw [odd_at]; rfl
theorem oddWhole_odd (n j : Nat) : oddWhole n (2 * j + 1) = wholeP n (2 * j + 1) := by unfold oddWhole; rw [odd_at]; rfl
/-- The greatest size of the first j odd thin sets. -/
def tmS (n j : Nat) : Nat := topN (oddThin n) (2 * j + 1)
def wmS (n j : Nat) : Nat := lowN (oddWhole n) n (2 * j + 1)
theorem tm_zero (n : Nat) : tmS n 0 = 0 := (top_step (oddThin n) 0).2 (fun h => by
  have := oddThin_even n 0
  rw [Nat.mul_zero] at this
  rw [this] at h; cases h.1)
theorem wm_zero (n : Nat) : wmS n 0 = n := (low_step (oddWhole n) n 0).2 (fun h => by
  have := oddWhole_even n 0
  rw [Nat.mul_zero] at this
  rw [this] at h; cases h.1)
theorem tm_step (n j : Nat) : (thinB n (2 * j + 1) = true ∧ tmS n j < sizeN (2 * j + 1) → tmS n (j + 1) = sizeN (2 * j + 1)) ∧ (¬ (thinB n (2 * j + 1) = true ∧ tmS n j < sizeN (2 * j + 1)) → tmS n (j + 1) = tmS n j) := by
  have e : tmS n (j + 1) = topN (oddThin n) (2 * j + 1 + 1) := (top_step (oddThin n) (2 * j + 2)).2 (fun h => by
    have := oddThin_even n (j + 1)
    rw [show 2 * (j + 1) = 2 * j + 2 by omega] at this
    rw [this] at h; cases h.1)
  have := top_step (oddThin n) (2 * j + 1)
  rw [oddThin_odd] at this
  rw [e]
  exact this
theorem wm_step (n j : Nat) : (wholeP n (2 * j + 1) = true ∧ sizeN (2 * j + 1) < wmS n j → wmS n (j + 1) = sizeN (2 * j + 1)) ∧ (¬ (wholeP n (2 * j + 1) = true ∧ sizeN (2 * j + 1) < wmS n j) → wmS n (j + 1) = wmS n j) := by
  have e : wmS n (j + 1) = lowN (oddWhole n) n (2 * j + 1 + 1) := (low_step (oddWhole n) n (2 * j + 2)).2 (fun h => by
    have := oddWhole_even n (j + 1)
    rw [show 2 * (j + 1) = 2 * j + 2 by omega] at this
    rw [this] at h; cases h.1)
  have := low_step (oddWhole n) n (2 * j + 1)
  rw [oddWhole_odd] at this
  rw [e]
  exact this
theorem tm_end (n : Nat) (h1 : 1 ≤ n) : tmS n (2 ^ (n - 1)) = thinM n := by
  have e : 2 * 2 ^ (n - 1) = 2 ^ n := by rw [Nat.mul_comm, ← Nat.pow_succ]; congr 1; omega
  unfold tmS thinM
  rw [e]
  refine (top_step (oddThin n) (2 ^ n)).2 (fun h => ?_)
  have := oddThin_even n (2 ^ (n - 1))
  rw [e] at this
  rw [this] at h; cases h.1
theorem wm_end (n : Nat) (h1 : 1 ≤ n) : wmS n (2 ^ (n - 1)) = wholeM n := by
  have e : 2 * 2 ^ (n - 1) = 2 ^ n := by rw [Nat.mul_comm, ← Nat.pow_succ]; congr 1; omega
  unfold wmS wholeM
  rw [e]
  refine (low_step (oddWhole n) n (2 ^ n)).2 (fun h => ?_)
  have := oddWhole_even n (2 ^ (n - 1))
  rw [e] at this
  rw [this] at h; cases h.1
theorem all_wraps (N : Nat) (h1 : 1 ≤ N) (h : N ≤ 4096) : IntKind.i64.wrap ((N : Int) - 1) = ((N - 1 : Nat) : Int) ∧ wrap64 ((N : Int) - 1) = ((N - 1 : Nat) : Int) := two_wraps _ (N - 1) (by omega) (by omega)
theorem half_pow (n : Nat) (h1 : 1 ≤ n) : 2 ^ n = 2 * 2 ^ (n - 1) := by rw [Nat.mul_comm, ← Nat.pow_succ]; congr 1; omega
set_option maxHeartbeats 1000000 in
theorem specDiffThinMost_yes (n : Nat) (w : World) (h1 : 1 ≤ n) (h2 : n ≤ 12) :
    Calls Try.prog 30 #[.int .i64 (n:Int)] w fun e w' => e = .returned (.tuple #[.int .i64 ((thinM n : Nat) : Int), .bool true]) ∧ Below w.heap.size w w' := by
  have hp := pow_le n h2
  have hp2 := half_pow n h1
  have HI := Lib.hid (fun W => specIn_yes n 0 W h1 h2 (Nat.two_pow_pos n))
  have HSz := Lib.hid (fun (x : Nat) (hx : x < 2 ^ n) W => l1Size_any x W (by omega))
  have HTh := Lib.hid (fun x hx W => l7Thin_any n x W h1 h2 hx)
  have hwp := wrap_pow n (by omega)
  have HSt := Lib.hid (fun j => tm_step n j)
  have HZ := Lib.hid (tm_zero n)
  have HE := Lib.hid (tm_end n h1)
  generalize 2 ^ (n - 1) = H at *
  obtain ⟨N, hN⟩ : ∃ N, 2 ^ n = N := ⟨_, rfl⟩
  rw [hN] at hp hp2 HSz HTh hwp
  have hpe : Hid (N = 2 * H) := hp2
  clear hp2
  have hwi : IntKind.i64.wrap (2 ^ n) = (N : Int) := by rw [IntWalk.i64_left]; exact hwp
  clear hN
  go_enter Try.func30, Try.ntmps30
  go_wp2_with (go_at_call 41; refine (HI.out _).mono ?_; rintro e w' ⟨rfl, rfl⟩)
  go_loopw [4, 5] (fun u v wr => ∃ (j i : Nat), j ≤ H ∧ Hid (i = 2 * j + 1) ∧ u = .int .i64 ((tmS n j : Nat) : Int) ∧ v = .int .i64 (i : Int) ∧ Hid (Below w.heap.size w wr)) (fun _ v _ => N + 2 - (intOf v).toNat)
  case atStart => exact ⟨0, 1, Nat.zero_le _, Lib.hid rfl, by rw [HZ.out]; rfl, rfl, Lib.hid (Below.refl _ _)⟩
  case round =>
    obtain ⟨j, i, hj, HIJ, rfl, rfl, HB⟩ := hrel
    by_cases hlt : i < N
    · have k0 : (i : Int) < (N : Int) := by omega
      have HSz1 := Lib.hid (HSz.out i hlt)
      have hth := HTh.out i hlt
      have hst := HSt.out j
      rw [← HIJ.out] at hst
      obtain ⟨a1, a2⟩ := two_wraps ((i : Int) + 2) (i + 2) (by omega) (by omega)
      have HNx : Hid (j + 1 ≤ H ∧ i + 2 = 2 * (j + 1) + 1) := Lib.hid (by have a := HIJ.out; have b := hpe.out; omega)
      generalize tmS n j = m at *
      generalize sizeN i = z at *
      by_cases hz : m < z
      · have k1 : (m : Int) < (z : Int) := by omega
        cases hb : thinB n i
        · rw [hb] at hth hst
          have HTh1 := Lib.hid hth
          have HT := Lib.hid (hst.2 (fun h => by cases h.1))
          clear hth hst hb hz
          go_wp2_with (first
            | (go_at_call 51; refine (HSz1.out _).mono ?_; rintro e w' ⟨rfl, rfl⟩)
            | (go_at_call 53; refine (HTh1.out _).mono ?_; rintro e w2 ⟨rfl, hb2⟩))
          go_roundw
          case rel => exact ⟨j + 1, i + 2, HNx.out.1, Lib.hid HNx.out.2, by rw [HT.out], by go_num, Lib.hid (HB.out.trans (hb2.mono HB.out.size))⟩
          case measure => simp [intOf]; omega
        · rw [hb] at hth hst
          have HTh1 := Lib.hid hth
          have HT := Lib.hid (hst.1 ⟨rfl, hz⟩)
          clear hth hst hb hz
          go_wp2_with (first
            | (go_at_call 51; refine (HSz1.out _).mono ?_; rintro e w' ⟨rfl, rfl⟩)
            | (go_at_call 53; refine (HTh1.out _).mono ?_; rintro e w2 ⟨rfl, hb2⟩))
          go_roundw
          case rel => exact ⟨j + 1, i + 2, HNx.out.1, Lib.hid HNx.out.2, by rw [HT.out], by go_num, Lib.hid (HB.out.trans (hb2.mono HB.out.size))⟩
          case measure => simp [intOf]; omega
      · have k1 : ¬ (m : Int) < (z : Int) := by omega
        have HT := Lib.hid (hst.2 (fun h => hz h.2))
        clear hth hst hz
        go_wp2_with (go_at_call 51; refine (HSz1.out _).mono ?_; rintro e w' ⟨rfl, rfl⟩)
        go_roundw
        case rel => exact ⟨j + 1, i + 2, HNx.out.1, Lib.hid HNx.out.2, by rw [HT.out], by go_num, HB⟩
        case measure => simp [intOf]; omega
    · have k0 : ¬ (i : Int) < (N : Int) := by omega
      have hjH : j = H := by have a := HIJ.out; have b := hpe.out; omega
      rw [hjH, HE.out]
      obtain ⟨y, hy⟩ : ∃ y, thinM n = y := ⟨_, rfl⟩
      rw [hy]
      have HY := Lib.hid hy
      clear hy
      go_wp2
      go_ret2
      exact ⟨by rw [HY.out]; rfl, HB.out⟩
theorem specDiffThinMost_no (n : Int) (w : World) (h : ¬ (1 ≤ n ∧ n ≤ 12)) :
    Calls Try.prog 30 #[.int .i64 n] w fun e w' => e = .returned (.tuple #[.int .i64 0, .bool false]) ∧ w = w' := by
  have HI := Lib.hid (fun W => specIn_no n 0 W (fun hh => h ⟨hh.1, hh.2.1⟩))
  clear h
  go_enter Try.func30, Try.ntmps30
  go_wp2_with (go_at_call 41; refine (HI.out _).mono ?_; rintro e w' ⟨rfl, rfl⟩)
  go_ret2
  exact ⟨rfl, rfl⟩
set_option maxHeartbeats 1000000 in
theorem specDiffWhole_yes (n : Nat) (w : World) (h1 : 1 ≤ n) (h2 : n ≤ 12) :
    Calls Try.prog 33 #[.int .i64 (n:Int)] w fun e w' => e = .returned (.tuple #[.int .i64 ((wholeM n : Nat) : Int), .bool true]) ∧ Below w.heap.size w w' := by
  have hp := pow_le n h2
  have hp1 := Nat.two_pow_pos n
  have hp2 := half_pow n h1
  have HI := Lib.hid (fun W => specIn_yes n 0 W h1 h2 (Nat.two_pow_pos n))
  have HSz := Lib.hid (fun (x : Nat) (hx : x < 2 ^ n) W => l1Size_any x W (by omega))
  have HMi := Lib.hid (fun x (hx : x < 2 ^ n) W => l1Minus_any n x x W h1 h2 hx hx)
  have hwp := wrap_pow n (by omega)
  have HSt := Lib.hid (fun j => wm_step n j)
  have HZ := Lib.hid (wm_zero n)
  have HE := Lib.hid (wm_end n h1)
  have HDf : Hid (∀ i, wholeP n i = Nat.beq (sumN n (turnN n i (-1)) i) (2 ^ n - 1)) := Lib.hid (fun i => rfl)
  have HL := Lib.hid (fun j => low_le (oddWhole n) n (2 * j + 1))
  have HWl : Hid (∀ j, lowN (oddWhole n) n (2 * j + 1) = wmS n j) := Lib.hid (fun j => rfl)
  generalize 2 ^ (n - 1) = H at *
  obtain ⟨N, hN⟩ : ∃ N, 2 ^ n = N := ⟨_, rfl⟩
  rw [hN] at hp hp1 hp2 HSz HMi hwp HDf
  have hpe : Hid (N = 2 * H) := hp2
  clear hp2
  have hwi : IntKind.i64.wrap (2 ^ n) = (N : Int) := by rw [IntWalk.i64_left]; exact hwp
  obtain ⟨m1, m2⟩ := all_wraps N hp1 hp
  clear hN
  go_enter Try.func33, Try.ntmps33
  go_wp2_with (go_at_call 41; refine (HI.out _).mono ?_; rintro e w' ⟨rfl, rfl⟩)
  go_loopw [4, 5] (fun u v wr => ∃ (j i : Nat), j ≤ H ∧ Hid (i = 2 * j + 1) ∧ u = .int .i64 ((wmS n j : Nat) : Int) ∧ v = .int .i64 (i : Int) ∧ Hid (Below w.heap.size w wr)) (fun _ v _ => N + 2 - (intOf v).toNat)
  case atStart => exact ⟨0, 1, Nat.zero_le _, Lib.hid rfl, by rw [HZ.out], rfl, Lib.hid (Below.refl _ _)⟩
  case round =>
    obtain ⟨j, i, hj, HIJ, rfl, rfl, HB⟩ := hrel
    have hml := HL.out j
    rw [HWl.out j] at hml
    by_cases hlt : i < N
    · have k0 : (i : Int) < (N : Int) := by omega
      have HSz1 := Lib.hid (HSz.out i hlt)
      have hmi := HMi.out i hlt
      have hst := HSt.out j
      rw [← HIJ.out, HDf.out i] at hst
      obtain ⟨a1, a2⟩ := two_wraps ((i : Int) + 2) (i + 2) (by omega) (by omega)
      have HNx : Hid (j + 1 ≤ H ∧ i + 2 = 2 * (j + 1) + 1) := Lib.hid (by have a := HIJ.out; have b := hpe.out; omega)
      generalize wmS n j = m at *
      generalize sizeN i = z at *
      generalize sumN n (turnN n i (-1)) i = y at *
      have HMi1 := Lib.hid hmi
      clear hmi
      by_cases hz : z < m
      · have k1 : (z : Int) < (m : Int) := by omega
        have k2 := decide_eq_true k1
        have k3 : decide (z < m) = true := decide_eq_true hz
        by_cases hy : y = N - 1
        · have HT := Lib.hid (hst.1 ⟨by rw [hy]; exact Nat.beq_refl _, hz⟩)
          have e1 := beq_same hy
          clear hst hz hy
          go_wp2
          refine wp_region_quiet_lit (by kernel_rfl) (by kernel_rfl) ?_
          repeat (go_big_quiet_step (fail))
          go_big_quiet_want
          go_big_quiet_op
          apply Exists.intro
          refine ⟨fun _ => ?_, ?_⟩
          · go_at_call 51
            exact Calls.quiet_of_same ((HSz1.out _).mono fun _ _ h => ⟨h.1, h.2.symm⟩)
          go_big_quiet_on
          repeat (go_big_quiet_step (fail))
          go_big_quiet_want
          go_big_quiet_op
          apply Exists.intro
          refine ⟨fun _ => ?_, ?_⟩
          · go_at_call 59
            exact Calls.quiet_of_same ((HMi1.out _).mono fun _ _ h => ⟨h.1, h.2.symm⟩)
          go_big_quiet_on
          repeat (go_big_quiet_step (fail))
          refine wpQuiet_nil ?_
          intro _ hw'
          obtain ⟨nq, hw''⟩ := hw'
          subst hw''
          go_wp2_with (go_at_call 51; refine (HSz1.out _).mono ?_; rintro e w' ⟨rfl, rfl⟩)
          go_roundw
          case rel => exact ⟨j + 1, i + 2, HNx.out.1, Lib.hid HNx.out.2, by rw [HT.out], by go_num, Lib.hid (below_drewN HB.out _)⟩
          case measure => simp [intOf]; omega
        · have HT := Lib.hid (hst.2 (fun h => hy (Nat.eq_of_beq_eq_true h.1)))
          have e1 := beq_other hy
          clear hst hz hy
          go_wp2
          refine wp_region_quiet_lit (by kernel_rfl) (by kernel_rfl) ?_
          repeat (go_big_quiet_step (fail))
          go_big_quiet_want
          go_big_quiet_op
          apply Exists.intro
          refine ⟨fun _ => ?_, ?_⟩
          · go_at_call 51
            exact Calls.quiet_of_same ((HSz1.out _).mono fun _ _ h => ⟨h.1, h.2.symm⟩)
          go_big_quiet_on
          repeat (go_big_quiet_step (fail))
          go_big_quiet_want
          go_big_quiet_op
          apply Exists.intro
          refine ⟨fun _ => ?_, ?_⟩
          · go_at_call 59
            exact Calls.quiet_of_same ((HMi1.out _).mono fun _ _ h => ⟨h.1, h.2.symm⟩)
          go_big_quiet_on
          repeat (go_big_quiet_step (fail))
          refine wpQuiet_nil ?_
          intro _ hw'
          obtain ⟨nq, hw''⟩ := hw'
          subst hw''
          go_wp2
          go_roundw
          case rel => exact ⟨j + 1, i + 2, HNx.out.1, Lib.hid HNx.out.2, by rw [HT.out], by go_num, Lib.hid (below_drewN HB.out _)⟩
          case measure => simp [intOf]; omega
      · have k1 : ¬ (z : Int) < (m : Int) := by omega
        have k2 := decide_eq_false k1
        have k3 : decide (z < m) = false := decide_eq_false hz
        have HT := Lib.hid (hst.2 (fun h => hz h.2))
        clear hst hz
        go_wp2
        refine wp_region_quiet_lit (by kernel_rfl) (by kernel_rfl) ?_
        repeat (go_big_quiet_step (fail))
        go_big_quiet_want
        go_big_quiet_op
        apply Exists.intro
        refine ⟨fun _ => ?_, ?_⟩
        · go_at_call 51
          exact Calls.quiet_of_same ((HSz1.out _).mono fun _ _ h => ⟨h.1, h.2.symm⟩)
        go_big_quiet_on
        repeat (go_big_quiet_step (fail))
        refine wpQuiet_nil ?_
        intro _ hw'
        obtain ⟨nq, hw''⟩ := hw'
        subst hw''
        go_wp2
        go_roundw
        case rel => exact ⟨j + 1, i + 2, HNx.out.1, Lib.hid HNx.out.2, by rw [HT.out], by go_num, Lib.hid (below_drewN HB.out _)⟩
        case measure => simp [intOf]; omega
    · have k0 : ¬ (i : Int) < (N : Int) := by omega
      have hjH : j = H := by have a := HIJ.out; have b := hpe.out; omega
      rw [hjH, HE.out]
      obtain ⟨y, hy⟩ : ∃ y, wholeM n = y := ⟨_, rfl⟩
      rw [hy]
      have HY := Lib.hid hy
      clear hy
      go_wp2
      go_ret2
      exact ⟨by rw [HY.out]; rfl, HB.out⟩
theorem specDiffWhole_no (n : Int) (w : World) (h : ¬ (1 ≤ n ∧ n ≤ 12)) :
    Calls Try.prog 33 #[.int .i64 n] w fun e w' => e = .returned (.tuple #[.int .i64 0, .bool false]) ∧ w = w' := by
  have HI := Lib.hid (fun W => specIn_no n 0 W (fun hh => h ⟨hh.1, hh.2.1⟩))
  clear h
  go_enter Try.func33, Try.ntmps33
  go_wp2_with (go_at_call 41; refine (HI.out _).mono ?_; rintro e w' ⟨rfl, rfl⟩)
  go_ret2
  exact ⟨rfl, rfl⟩
set_option maxHeartbeats 1000000 in
theorem specDiffCarries_yes (n s : Nat) (w : World) (h1 : 1 ≤ n) (h2 : n ≤ 12) (hs : s < 2 ^ n) :
    Calls Try.prog 36 #[.int .i64 (n:Int), .int .i64 (s:Int)] w fun e w' => e = .returned (.tuple #[.int .i64 ((carN n s : Nat) : Int), .bool true]) ∧ w = w' := by
  have hp := pow_le n h2
  have HI := Lib.hid (fun W => specIn_yes n s W h1 h2 hs)
  have HU := Lib.hid (fun W => l1Units_any n W h1 h2)
  have HMp := Lib.hid (fun (m : Nat) (hm : m < n) W => l1Map_any n s (m : Int) 0 W h1 h2 (pow_mono h2 hs) (by omega) (by omega) (by omega) (by omega))
  have HLs := Lib.hid (fun W => l1Least_any n s W h1 h2 hs)
  have HLm := Lib.hid (fun (m : Nat) W => l1Least_any n (mapN n s (m : Int) 0 n) W h1 h2 (mapN_lt n s (m : Int) 0 n h1))
  have HSt := Lib.hid (fun k => car_step n s k)
  have HCs : Hid (∀ m x, carS n s m x = if leastN n (mapN n s (m : Int) 0 n) = leastN n s then x ||| 2 ^ m else x) := Lib.hid (fun m x => rfl)
  have HLt := Lib.hid (fun k hk => car_lt n s k hk)
  have HE : Hid (carTo n s n = carN n s) := Lib.hid rfl
  have HZ : Hid (carTo n s 0 = 0) := Lib.hid rfl
  have hu := unitsN_lt n
  have HBt := Lib.hid (fun m => has_nat (unitsN n) m (by omega))
  generalize unitsN n = U at *
  clear hs
  go_enter Try.func36, Try.ntmps36
  go_wp2_with (go_at_call 41; refine (HI.out _).mono ?_; rintro e w' ⟨rfl, rfl⟩)
  go_loop [6, 7] (fun u v => ∃ k : Nat, k ≤ n ∧ u = .int .i64 ((carTo n s k : Nat) : Int) ∧ v = .int .i64 (k : Int)) (fun _ v => n - (intOf v).toNat)
  case atStart => exact ⟨0, Nat.zero_le _, by rw [HZ.out]; rfl, rfl⟩
  case round =>
    obtain ⟨k, hk, rfl, rfl⟩ := hrel
    by_cases hlt : k < n
    · have k0 : (k : Int) < (n : Int) := by omega
      have hst := HSt.out k
      have hcl := HLt.out k hk
      have HMp1 := Lib.hid (HMp.out k hlt)
      have HLm1 := Lib.hid (HLm.out k)
      have hbt := HBt.out k
      rw [HCs.out] at hst
      have hor := with_nat (carTo n s k) k (by omega) (by omega)
      have hor2 : bits .or .i64 ((carTo n s k : Nat) : Int) (IntKind.i64.wrap (2 ^ k)) = ((carTo n s k ||| 2 ^ k : Nat) : Int) := by rw [IntWalk.i64_left]; exact hor
      generalize carTo n s k = x at *
      generalize mapN n s (k : Int) 0 n = y at *
      generalize leastN n y = ly at *
      generalize leastN n s = ls at *
      generalize x ||| 2 ^ k = x2 at *
      cases hb : U.testBit k
      · rw [hb] at hbt hst
        have HT : Hid (carTo n s (k + 1) = x) := Lib.hid hst
        clear hst hb hor hor2
        go_wp2_with (go_at_call 61; refine (HU.out _).mono ?_; rintro e w' ⟨rfl, rfl⟩)
        go_round
        case rel => exact ⟨k + 1, by omega, by rw [HT.out], by go_num⟩
        case measure => simp [intOf]; omega
      · rw [hb, if_pos rfl] at hst
        rw [hb] at hbt
        by_cases he : ly = ls
        · rw [if_pos he] at hst
          have HT := Lib.hid hst
          have e1 := beq_same he
          clear hst hb he
          go_wp2_with (first
            | (go_at_call 61; refine (HU.out _).mono ?_; rintro e w' ⟨rfl, rfl⟩)
            | (go_at_call 63; refine (HMp1.out _).mono ?_; rintro e w' ⟨rfl, rfl⟩)
            | fail)
          refine (HLm1.out _).mono ?_
          rintro e w' ⟨rfl, rfl⟩
          go_wp2_with fail
          refine (HLs.out _).mono ?_
          rintro e w' ⟨rfl, rfl⟩
          go_wp2
          go_round
          case rel => exact ⟨k + 1, by omega, by rw [HT.out], by go_num⟩
          case measure => simp [intOf]; omega
        · rw [if_neg he] at hst
          have HT := Lib.hid hst
          have e1 := beq_other he
          clear hst hb he hor hor2
          go_wp2_with (first
            | (go_at_call 61; refine (HU.out _).mono ?_; rintro e w' ⟨rfl, rfl⟩)
            | (go_at_call 63; refine (HMp1.out _).mono ?_; rintro e w' ⟨rfl, rfl⟩)
            | fail)
          refine (HLm1.out _).mono ?_
          rintro e w' ⟨rfl, rfl⟩
          go_wp2_with fail
          refine (HLs.out _).mono ?_
          rintro e w' ⟨rfl, rfl⟩
          go_wp2
          go_round
          case rel => exact ⟨k + 1, by omega, by rw [HT.out], by go_num⟩
          case measure => simp [intOf]; omega
    · obtain rfl : k = n := by omega
      rw [HE.out]
      go_wp2
      go_ret2
      exact ⟨rfl, rfl⟩
theorem specDiffCarries_no (n s : Int) (w : World) (h : NotIn n s) :
    Calls Try.prog 36 #[.int .i64 n, .int .i64 s] w fun e w' => e = .returned (.tuple #[.int .i64 0, .bool false]) ∧ w = w' := by
  have HI := Lib.hid (fun W => specIn_no n s W h)
  clear h
  go_enter Try.func36, Try.ntmps36
  go_wp2_with (go_at_call 41; refine (HI.out _).mono ?_; rintro e w' ⟨rfl, rfl⟩)
  go_ret2
  exact ⟨rfl, rfl⟩
end Go.Proofs.Ytaomjhkodohkcaa
