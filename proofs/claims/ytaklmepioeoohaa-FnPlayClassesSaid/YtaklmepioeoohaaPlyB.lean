/- Plays of a ring: the model's plays, threes, two steps and equal plays. Written by gen62.py. -/
import Derived.Test.YtaklmepioeoohaaPlyA
import Derived.Test.YtaklmepioeoohaaDifB
import Derived.Test.YtaklmepioeoohaaGC
namespace Go.Proofs.Ytaklmepioeoohaa
open Go.RowKit Go.Shelf
set_option linter.unusedVariables false
/-- No play, told of any two integers. -/
def NoPlay (n s : Int) : Prop := ¬ ∃ m t : Nat, n = (m : Int) ∧ s = (t : Int) ∧ m ≤ 12 ∧ t < 2 ^ m ∧ playB m t = true
theorem not_noPlay {n s : Int} (h : ¬ NoPlay n s) : ∃ m t : Nat, n = (m : Int) ∧ s = (t : Int) ∧ 3 ≤ m ∧ m ≤ 12 ∧ t < 2 ^ m ∧ playB m t = true := by
  obtain ⟨m, t, a, b, c, d, e⟩ := Classical.not_not.1 h
  exact ⟨m, t, a, b, ((play_iff m t).1 e).1, c, d, e⟩
theorem play_or (n s : Nat) (h1 : 1 ≤ n) (h2 : n ≤ 12) (hs : s < 2 ^ n) : bits .and .i64 (s : Int) ((turnN n s (-1) : Nat) : Int) = ((s &&& turnN n s (-1) : Nat) : Int) ∧ bits .or .i64 (s : Int) ((turnN n s (-1) : Nat) : Int) = ((s ||| turnN n s (-1) : Nat) : Int) := by
  have hp := pow_le n h2
  have ht := turnN_lt n s (-1) h1
  exact ⟨and_nat s _ (by omega) (by omega), or_nat s _ (by omega) (by omega)⟩
theorem l1Neg_any (n s : Nat) (w : World) (h1 : 1 ≤ n) (h2 : n ≤ 12) (hs : s < 2 ^ n) :
    Calls Try.prog 44 #[.int .i64 (n:Int), .int .i64 (s:Int), .int .i64 (-1), .int .i64 0] w fun e w' => e = .returned (.int .i64 ((turnN n s (-1) : Nat) : Int)) ∧ w = w' := by
  rw [turn_map]
  exact l1Map_any n s (-1) 0 w h1 h2 (pow_mono h2 hs) (by omega) (by omega) (by omega) (by omega)
theorem odd_mod (n : Nat) : Int.tmod (n : Int) 2 = ((n % 2 : Nat) : Int) := by rw [Int.tmod_eq_emod_of_nonneg (Int.natCast_nonneg n)]; omega
theorem pow2_less (n : Nat) (h1 : 1 ≤ n) (h2 : n ≤ 12) : wrap64 (2 ^ n) = ((2 ^ n : Nat) : Int) ∧ IntKind.i64.wrap (2 ^ n) = ((2 ^ n : Nat) : Int) ∧ wrap64 (((2 ^ n : Nat) : Int) - 2) = ((2 ^ n - 2 : Nat) : Int) ∧ IntKind.i64.wrap (((2 ^ n : Nat) : Int) - 2) = ((2 ^ n - 2 : Nat) : Int) := by
  have a := wrap_pow n (by omega)
  have b := pow2_nat n h1 h2
  rw [a] at b
  exact ⟨a, by rw [IntWalk.i64_left]; exact a, b, by rw [IntWalk.i64_left]; exact b⟩
theorem specPlayIn_yes (n s : Nat) (w : World) (h2 : n ≤ 12) (hs : s < 2 ^ n) (hp : playB n s = true) :
    Calls Try.prog 13 #[.int .i64 (n:Int), .int .i64 (s:Int)] w fun e w' => e = .returned (.bool true) ∧ w = w' := by
  obtain ⟨p1, p2, p3, p4, p5⟩ := (play_iff n s).1 hp
  have HI := Lib.hid (fun W => specStep_yes n s W (by omega) h2 hs p3)
  have HT := Lib.hid (fun W => l1Neg_any n s W (by omega) h2 hs)
  obtain ⟨e1, e2⟩ := play_or n s (by omega) h2 hs
  obtain ⟨w1, w2, w3, w4⟩ := pow2_less n (by omega) h2
  rw [p4] at e1
  rw [p5] at e2
  have e3 := odd_mod n
  rw [p2] at e3
  generalize turnN n s (-1) = T at *
  generalize 2 ^ n - 2 = Q at *
  generalize 2 ^ n = P at *
  have k1 : ¬ (n : Int) < 3 := by omega
  have k2 : decide ((n : Int) < 3) = false := decide_eq_false k1
  clear hs hp p3 p4 p5 p2
  go_enter Try.func13, Try.ntmps13
  go_wp2_with (first
    | (go_at_call 43; refine (HI.out _).mono ?_; rintro e w' ⟨rfl, rfl⟩)
    | (go_at_call 44; refine (HT.out _).mono ?_; rintro e w' ⟨rfl, rfl⟩))
  go_ret
  exact ⟨ret_bool (by first | rfl | simp), rfl⟩
theorem specPlayIn_no (n s : Int) (w : World) (h : NoPlay n s) :
    Calls Try.prog 13 #[.int .i64 n, .int .i64 s] w fun e w' => e = .returned (.bool false) ∧ w = w' := by
  by_cases hn : NoStep n s
  · have HI := Lib.hid (fun W => specStep_no n s W hn)
    clear h hn
    go_enter Try.func13, Try.ntmps13
    go_wp2_with (go_at_call 43; refine (HI.out _).mono ?_; rintro e w' ⟨rfl, rfl⟩)
    go_ret
    exact ⟨rfl, rfl⟩
  · obtain ⟨m, t, rfl, rfl, h1, h2, h3, h4⟩ := not_noStep hn
    have hp : playB m t = false := by
      cases hb : playB m t
      · rfl
      · exact absurd ⟨m, t, rfl, rfl, h2, h3, hb⟩ h
    have HI := Lib.hid (fun W => specStep_yes m t W h1 h2 h3 h4)
    clear h hn
    by_cases k0 : m < 3
    · have k1 : (m : Int) < 3 := by omega
      have k2 : decide ((m : Int) < 3) = true := decide_eq_true k1
      clear h3 hp
      go_enter Try.func13, Try.ntmps13
      go_wp2_with (go_at_call 43; refine (HI.out _).mono ?_; rintro e w' ⟨rfl, rfl⟩)
      go_ret
      exact ⟨rfl, rfl⟩
    · have k1 : ¬ (m : Int) < 3 := by omega
      have k2 : decide ((m : Int) < 3) = false := decide_eq_false k1
      have e3 := odd_mod m
      by_cases k3 : m % 2 = 0
      · rw [k3] at e3
        clear h3 hp
        go_enter Try.func13, Try.ntmps13
        go_wp2_with (go_at_call 43; refine (HI.out _).mono ?_; rintro e w' ⟨rfl, rfl⟩)
        go_ret
        exact ⟨rfl, rfl⟩
      · have k4 : m % 2 = 1 := by omega
        rw [k4] at e3
        have HT := Lib.hid (fun W => l1Neg_any m t W h1 h2 h3)
        obtain ⟨e1, e2⟩ := play_or m t h1 h2 h3
        obtain ⟨w1, w2, w3, w4⟩ := pow2_less m h1 h2
        have hno : ¬ (t &&& turnN m t (-1) = 0 ∧ t ||| turnN m t (-1) = 2 ^ m - 2) := fun hh => by
          rw [(play_iff m t).2 ⟨by omega, k4, h4, hh.1, hh.2⟩] at hp
          cases hp
        generalize t &&& turnN m t (-1) = AA at *
        generalize t ||| turnN m t (-1) = OO at *
        generalize turnN m t (-1) = T at *
        generalize 2 ^ m - 2 = Q at *
        generalize 2 ^ m = P at *
        by_cases ha : AA = 0
        · have q1 : ((AA : Int) == 0) = true := by simp [ha]
          have q2 : ((OO : Int) == (Q : Int)) = false := beq_other fun e => hno ⟨ha, e⟩
          clear hno ha hp h3
          go_enter Try.func13, Try.ntmps13
          go_wp2_with (first
            | (go_at_call 43; refine (HI.out _).mono ?_; rintro e w' ⟨rfl, rfl⟩)
            | (go_at_call 44; refine (HT.out _).mono ?_; rintro e w' ⟨rfl, rfl⟩))
          go_ret
          exact ⟨ret_bool (by first | rfl | simp), rfl⟩
        · have q1 : ((AA : Int) == 0) = false := by simp; omega
          clear hno ha hp h3
          go_enter Try.func13, Try.ntmps13
          go_wp2_with (first
            | (go_at_call 43; refine (HI.out _).mono ?_; rintro e w' ⟨rfl, rfl⟩)
            | (go_at_call 44; refine (HT.out _).mono ?_; rintro e w' ⟨rfl, rfl⟩))
          go_ret
          exact ⟨ret_bool (by first | rfl | simp), rfl⟩
theorem sub_in (v w : Nat) (hv : v ≤ 12) (hw : w ≤ 12) : -1000000 ≤ (w : Int) - (v : Int) ∧ (w : Int) - (v : Int) ≤ 1000000 := by omega
theorem l8Beats_any (n s v u : Nat) (w : World) (h1 : 1 ≤ n) (h2 : n ≤ 12) (hs : s < 2 ^ n) (hv : v ≤ 12) (hu : u ≤ 12) :
    Calls Try.prog 57 #[.int .i64 (n:Int), .int .i64 (s:Int), .int .i64 (v:Int), .int .i64 (u:Int)] w fun e w' => e = .returned (.bool (beatB n s v u)) ∧ w = w' := by
  have hp := pow_le n h2
  have HR := Lib.hid (fun W => l1Rest_any n ((u : Int) - (v : Int)) W h1 h2 (sub_in v u hv hu))
  have hb := has_nat s (rest n ((u : Int) - (v : Int))) (by omega)
  obtain ⟨s1, s2⟩ := sub_wraps u v (by omega) (by omega)
  have hr := rest_lt n ((u : Int) - (v : Int)) h1
  have hF : beatB n s v u = s.testBit (rest n ((u : Int) - (v : Int))) := rfl
  generalize beatB n s v u = b at *
  generalize rest n ((u : Int) - (v : Int)) = r at *
  have r1 : min r 64 = r := by omega
  have r2 : (0 : Int) ≤ (r : Int) := by omega
  have HF := Lib.hid hF
  clear hF hs hp
  go_enter Try.func57, Try.ntmps57
  go_wp2_with (go_at_call 74; refine (HR.out _).mono ?_; rintro e w' ⟨rfl, rfl⟩)
  go_ret
  exact ⟨ret_bool (by first | exact HF.out.symm | (rw [HF.out]; first | exact hb | simp)), rfl⟩
theorem specPlayTwice_yes (n s : Nat) (w : World) (h2 : n ≤ 12) (hs : s < 2 ^ n) (hp : playB n s = true) :
    Calls Try.prog 26 #[.int .i64 (n:Int), .int .i64 (s:Int)] w fun e w' => e = .returned (.tuple #[.int .i64 ((twiceN n s : Nat) : Int), .bool true]) ∧ w = w' := by
  have h1 := ((play_iff n s).1 hp).1
  have hpw := pow_le n h2
  have HI := Lib.hid (fun W => specPlayIn_yes n s W h2 hs hp)
  have HS := Lib.hid (fun W => l1Sum_any n s s W (by omega) h2 hs hs)
  have hl := sumN_lt n s s
  have hol := Nat.or_lt_two_pow hs hl
  have e1 := or_nat s (sumN n s s) (by omega) (by omega)
  have e2 := less_nat (s ||| sumN n s s) 1 (by omega) (by omega)
  rw [show ((1 : Nat) : Int) = 1 from rfl] at e2
  unfold twiceN
  generalize lessN (s ||| sumN n s s) 1 = L at *
  generalize s ||| sumN n s s = O at *
  generalize sumN n s s = S at *
  clear hs hp hl hol hpw
  go_enter Try.func26, Try.ntmps26
  go_wp2_with (first
    | (go_at_call 13; refine (HI.out _).mono ?_; rintro e w' ⟨rfl, rfl⟩)
    | (go_at_call 59; refine (HS.out _).mono ?_; rintro e w' ⟨rfl, rfl⟩))
  go_ret2
  exact ⟨rfl, rfl⟩
theorem specPlayThree_no (n s : Int) (w : World) (h : NoPlay n s) :
    Calls Try.prog 23 #[.int .i64 n, .int .i64 s] w fun e w' => e = .returned (.tuple #[.int .i64 0, .bool false]) ∧ w = w' := by
  have HI := Lib.hid (fun W => specPlayIn_no n s W h)
  clear h
  go_enter Try.func23, Try.ntmps23
  go_wp2_with (go_at_call 13; refine (HI.out _).mono ?_; rintro e w' ⟨rfl, rfl⟩)
  go_ret2
  exact ⟨rfl, rfl⟩
theorem specPlayTwice_no (n s : Int) (w : World) (h : NoPlay n s) :
    Calls Try.prog 26 #[.int .i64 n, .int .i64 s] w fun e w' => e = .returned (.tuple #[.int .i64 0, .bool false]) ∧ w = w' := by
  have HI := Lib.hid (fun W => specPlayIn_no n s W h)
  clear h
  go_enter Try.func26, Try.ntmps26
  go_wp2_with (go_at_call 13; refine (HI.out _).mono ?_; rintro e w' ⟨rfl, rfl⟩)
  go_ret2
  exact ⟨rfl, rfl⟩
theorem specPlayEqual_no (n s : Int) (w : World) (h : NoPlay n s) :
    Calls Try.prog 30 #[.int .i64 n, .int .i64 s] w fun e w' => e = .returned (.tuple #[.int .i64 0, .bool false]) ∧ w = w' := by
  have HI := Lib.hid (fun W => specPlayIn_no n s W h)
  clear h
  go_enter Try.func30, Try.ntmps30
  go_wp2_with (go_at_call 13; refine (HI.out _).mono ?_; rintro e w' ⟨rfl, rfl⟩)
  go_ret2
  exact ⟨rfl, rfl⟩
end Go.Proofs.Ytaklmepioeoohaa
