/- Texts of mine, laid together: PlyA PlyB PlyC PlyD PlyE PlyX PlyF PlyG PlyH. -/
import Derived.Test.YtaklmepioeoohaaGP
import Derived.Test.YtaklmepioeoohaaGD
import Derived.Test.YtaklmepioeoohaaGC
import Derived.Test.YtaklmepioeoohaaGG
import Derived.Test.YtaklmepioeoohaaClasses
/- Plays of a ring: what a play is, and all plays gone through (promises 66, 68 to 71). -/
namespace Go.Proofs.Ytaklmepioeoohaa
set_option linter.unusedVariables false
/-- A play of a ring. -/
def playB (n s : Nat) : Bool := Nat.ble 3 n && (Nat.beq (n % 2) 1 && (!s.testBit 0 && (Nat.beq (s &&& turnN n s (-1)) 0 && Nat.beq (s ||| turnN n s (-1)) (2 ^ n - 2))))
theorem nbeq_iff (a b : Nat) : Nat.beq a b = true ↔ a = b := ⟨Nat.eq_of_beq_eq_true, fun h => by rw [h]; exact Nat.beq_refl b⟩
theorem play_iff (n s : Nat) : playB n s = true ↔ 3 ≤ n ∧ n % 2 = 1 ∧ s.testBit 0 = false ∧ s &&& turnN n s (-1) = 0 ∧ s ||| turnN n s (-1) = 2 ^ n - 2 := by
  unfold playB
  simp only [Bool.and_eq_true, Bool.not_eq_true', nbeq_iff, Nat.ble_eq]
/-- Whether v beats w. -/
def beatB (n s v w : Nat) : Bool := s.testBit (rest n ((w : Int) - (v : Int)))
/-- Whether three places beat one another around. -/
def circB (n s a b c : Nat) : Bool := beatB n s a b == beatB n s b c && beatB n s a b == beatB n s c a
def thC (n s a b c : Nat) : Nat := sumTo (fun x => if Nat.ble (b + 1) x && circB n s a b x then 1 else 0) c
def thB (n s a b : Nat) : Nat := sumTo (fun x => if Nat.ble (a + 1) x then thC n s a x n else 0) b
def thA (n s a : Nat) : Nat := sumTo (fun x => thB n s x n) a
/-- The number of threes that beat one another around. -/
def threeN (n s : Nat) : Nat := thA n s n
theorem sumK_le (f : Nat → Nat) (m k : Nat) (h : ∀ x, x < k → f x ≤ m) : sumTo f k ≤ k * m := by
  induction k with
  | zero => exact Nat.zero_le _
  | succ k ih =>
    have a := ih fun x hx => h x (by omega)
    have b := h k (by omega)
    show sumTo f k + f k ≤ (k + 1) * m
    rw [Nat.succ_mul]
    omega
theorem thC_le (n s a b c : Nat) (h2 : n ≤ 12) (hc : c ≤ n) : thC n s a b c ≤ 12 := by
  have := sumK_le (fun x => if Nat.ble (b + 1) x && circB n s a b x then 1 else 0) 1 c (fun x _ => by
    show (if _ then 1 else 0) ≤ 1
    split <;> omega)
  unfold thC
  omega
theorem thB_le (n s a b : Nat) (h2 : n ≤ 12) (hb : b ≤ n) : thB n s a b ≤ 144 := by
  have := sumK_le (fun x => if Nat.ble (a + 1) x then thC n s a x n else 0) 12 b (fun x _ => by
    show (if _ then thC n s a x n else 0) ≤ 12
    split
    · exact thC_le n s a x n h2 (Nat.le_refl n)
    · omega)
  unfold thB
  omega
theorem thA_le (n s a : Nat) (h2 : n ≤ 12) (ha : a ≤ n) : thA n s a ≤ 1728 := by
  have := sumK_le (fun x => thB n s x n) 144 a (fun x _ => thB_le n s x n h2 (Nat.le_refl n))
  unfold thA
  omega
theorem sumZ_none (f : Nat → Nat) (k : Nat) (h : ∀ x, x < k → f x = 0) : sumTo f k = 0 := by
  have := sumK_le f 0 k fun x hx => Nat.le_of_eq (h x hx)
  omega
theorem thC_start (n s a b : Nat) : thC n s a b (b + 1) = 0 := sumZ_none _ _ fun x hx => by
  have : Nat.ble (b + 1) x = false := by cases h : Nat.ble (b + 1) x; rfl; have := Nat.le_of_ble_eq_true h; omega
  simp [this]
theorem thB_start (n s a : Nat) : thB n s a (a + 1) = 0 := sumZ_none _ _ fun x hx => by
  have : Nat.ble (a + 1) x = false := by cases h : Nat.ble (a + 1) x; rfl; have := Nat.le_of_ble_eq_true h; omega
  simp [this]
theorem thC_yes (n s a b c : Nat) (hc : b < c) (h : circB n s a b c = true) : thC n s a b (c + 1) = thC n s a b c + 1 := by
  show thC n s a b c + (if Nat.ble (b + 1) c && circB n s a b c then 1 else 0) = _
  rw [Nat.ble_eq_true_of_le hc, h]
  rfl
theorem thC_no (n s a b c : Nat) (h : circB n s a b c = false) : thC n s a b (c + 1) = thC n s a b c := by
  show thC n s a b c + (if Nat.ble (b + 1) c && circB n s a b c then 1 else 0) = _
  rw [h, Bool.and_false]
  rfl
theorem thB_step (n s a b : Nat) (hb : a < b) : thB n s a b + thC n s a b n = thB n s a (b + 1) := by
  show _ = thB n s a b + (if Nat.ble (a + 1) b then thC n s a b n else 0)
  rw [Nat.ble_eq_true_of_le hb]
  rfl
theorem thA_step (n s a : Nat) : thA n s a + thB n s a n = thA n s (a + 1) := rfl
/-- Places in two steps. -/
def twiceN (n s : Nat) : Nat := lessN (s ||| sumN n s s) 1
/-- All that is said of a play, computed. -/
def playK (n s : Nat) : Bool := !playB n s || (Nat.beq (turnN n s (-1)) (otherN n s) && (playB n (turnN n s (-1)) && (Nat.beq (24 * threeN n s) ((n + 1) * n * (n - 1)) && (Nat.beq (twiceN n s) (2 ^ n - 2) && (Nat.beq (partsN n s) 1 && (Nat.beq (mostN n s n) 2 && (!evenB n s || Nat.beq n (4 * difN n s 1 + 3))))))))
def allH (p : Nat → Bool) : Nat → Nat → Bool
  | 0, a => p a
  | k + 1, a => allH p k a && allH p k (a + 2 ^ k)
theorem allH_at (p : Nat → Bool) (k a i : Nat) (h : allH p k a = true) (h1 : a ≤ i) (h2 : i < a + 2 ^ k) : p i = true := by
  induction k generalizing a with
  | zero =>
    obtain rfl : i = a := by simp at h2; omega
    exact h
  | succ k ih =>
    have h' : (allH p k a && allH p k (a + 2 ^ k)) = true := h
    rw [Bool.and_eq_true] at h'
    rw [Nat.pow_succ] at h2
    by_cases c : i < a + 2 ^ k
    · exact ih a h'.1 h1 c
    · exact ih (a + 2 ^ k) h'.2 (by omega) (by omega)
theorem play_all : ((List.range 13).all fun n => allH (playK n) n 0) = true := by decide +kernel
theorem play_says (n s : Nat) (h2 : n ≤ 12) (hs : s < 2 ^ n) (h : playB n s = true) :
    turnN n s (-1) = otherN n s ∧ playB n (turnN n s (-1)) = true ∧ 24 * threeN n s = (n + 1) * n * (n - 1) ∧ twiceN n s = 2 ^ n - 2 ∧ partsN n s = 1 ∧ mostN n s n = 2 ∧ (evenB n s = true → n = 4 * difN n s 1 + 3) := by
  have ha := allH_at (playK n) n 0 s (List.all_eq_true.1 play_all n (List.mem_range.2 (by omega))) (Nat.zero_le _) (by omega)
  unfold playK at ha
  rw [h] at ha
  simp only [Bool.not_true, Bool.false_or, Bool.and_eq_true, nbeq_iff, Bool.or_eq_true, Bool.not_eq_true'] at ha
  obtain ⟨a, b, c, d, e, f, g⟩ := ha
  refine ⟨a, b, c, d, e, f, fun he => ?_⟩
  rcases g with g | g
  · rw [he] at g; cases g
  · exact g
end Go.Proofs.Ytaklmepioeoohaa

/- Plays of a ring: the model's plays, threes, two steps and equal plays. Written by gen62.py. -/
namespace Go.Proofs.Ytaklmepioeoohaa
open Go.RowKit Go.Shelf
set_option linter.unusedVariables false
/-- No play, told of any two integers. -/
def NoPlay (n s : Int) : Prop := ¬ ∃ m t : Nat, n = (m : Int) ∧ s = (t : Int) ∧ m ≤ 12 ∧ t < 2 ^ m ∧ playB m t = true
theorem not_noPlay {n s : Int} (h : ¬ NoPlay n s) : ∃ m t : Nat, n = (m : Int) ∧ s = (t : Int) ∧ 3 ≤ m ∧ m ≤ 12 ∧ t < 2 ^ m ∧ playB m t = true := by
  obtain ⟨m, t, a, b, c, d, e⟩ := Classical.not_not.1 h
  exact ⟨m, t, a, b, ((play_iff m t).1 e).1, c, d, e⟩
theorem play_or (n s : Nat) (h1 : 1 ≤ n) (h2 : n ≤ 12) (hs : s < 2 ^ n) : bits .and .i64 (s : Int) ((turnN n s (-1) : Nat) : Int) = ((s &&& turnN n s (-1) : Nat) : Int) ∧ bits .or .i64 (s : Int) ((turnN n s (-1) : Nat) : Int) = ((s ||| turnN n s (-1) : Nat) : Int) := by
  have hp := pow_le n h2
  have ht := turnN_lt n s (-1) h1
  exact ⟨and_nat s _ (by omega) (by omega), or_nat s _ (by omega) (by omega)⟩
theorem l1Neg_any (n s : Nat) (w : World) (h1 : 1 ≤ n) (h2 : n ≤ 12) (hs : s < 2 ^ n) :
    Calls Try.prog 44 #[.int .i64 (n:Int), .int .i64 (s:Int), .int .i64 (-1), .int .i64 0] w fun e w' => e = .returned (.int .i64 ((turnN n s (-1) : Nat) : Int)) ∧ w = w' := by
  rw [turn_map]
  exact l1Map_any n s (-1) 0 w h1 h2 (pow_mono h2 hs) (by omega) (by omega) (by omega) (by omega)
theorem odd_mod (n : Nat) : Int.tmod (n : Int) 2 = ((n % 2 : Nat) : Int) := by rw [Int.tmod_eq_emod_of_nonneg (Int.natCast_nonneg n)]; omega
theorem pow2_less (n : Nat) (h1 : 1 ≤ n) (h2 : n ≤ 12) : wrap64 (2 ^ n) = ((2 ^ n : Nat) : Int) ∧ IntKind.i64.wrap (2 ^ n) = ((2 ^ n : Nat) : Int) ∧ wrap64 (((2 ^ n : Nat) : Int) - 2) = ((2 ^ n - 2 : Nat) : Int) ∧ IntKind.i64.wrap (((2 ^ n : Nat) : Int) - 2) = ((2 ^ n - 2 : Nat) : Int) := by
  have a := wrap_pow n (by omega)
  have b := pow2_nat n h1 h2
  rw [a] at b
  exact ⟨a, by rw [IntWalk.i64_left]; exact a, b, by rw [IntWalk.i64_left]; exact b⟩
theorem specPlayIn_yes (n s : Nat) (w : World) (h2 : n ≤ 12) (hs : s < 2 ^ n) (hp : playB n s = true) :
    Calls Try.prog 13 #[.int .i64 (n:Int), .int .i64 (s:Int)] w fun e w' => e = .returned (.bool true) ∧ w = w' := by
  obtain ⟨p1, p2, p3, p4, p5⟩ := (play_iff n s).1 hp
  have HI := Lib.hid (fun W => specStep_yes n s W (by omega) h2 hs p3)
  have HT := Lib.hid (fun W => l1Neg_any n s W (by omega) h2 hs)
  obtain ⟨e1, e2⟩ := play_or n s (by omega) h2 hs
  obtain ⟨w1, w2, w3, w4⟩ := pow2_less n (by omega) h2
  rw [p4] at e1
  rw [p5] at e2
  have e3 := odd_mod n
  rw [p2] at e3
  generalize turnN n s (-1) = T at *
  generalize 2 ^ n - 2 = Q at *
  generalize 2 ^ n = P at *
  have k1 : ¬ (n : Int) < 3 := by omega
  have k2 : decide ((n : Int) < 3) = false := decide_eq_false k1
  clear hs hp p3 p4 p5 p2
  go_enter Try.func13, Try.ntmps13
  go_wp2_with (first
    | (go_at_call 43; refine (HI.out _).mono ?_; rintro e w' ⟨rfl, rfl⟩)
    | (go_at_call 44; refine (HT.out _).mono ?_; rintro e w' ⟨rfl, rfl⟩))
  go_ret
  exact ⟨ret_bool (by first | rfl | simp), rfl⟩
theorem specPlayIn_no (n s : Int) (w : World) (h : NoPlay n s) :
    Calls Try.prog 13 #[.int .i64 n, .int .i64 s] w fun e w' => e = .returned (.bool false) ∧ w = w' := by
  by_cases hn : NoStep n s
  · have HI := Lib.hid (fun W => specStep_no n s W hn)
    clear h hn
    go_enter Try.func13, Try.ntmps13
    go_wp2_with (go_at_call 43; refine (HI.out _).mono ?_; rintro e w' ⟨rfl, rfl⟩)
    go_ret
    exact ⟨rfl, rfl⟩
  · obtain ⟨m, t, rfl, rfl, h1, h2, h3, h4⟩ := not_noStep hn
    have hp : playB m t = false := by
      cases hb : playB m t
      · rfl
      · exact absurd ⟨m, t, rfl, rfl, h2, h3, hb⟩ h
    have HI := Lib.hid (fun W => specStep_yes m t W h1 h2 h3 h4)
    clear h hn
    by_cases k0 : m < 3
    · have k1 : (m : Int) < 3 := by omega
      have k2 : decide ((m : Int) < 3) = true := decide_eq_true k1
      clear h3 hp
      go_enter Try.func13, Try.ntmps13
      go_wp2_with (go_at_call 43; refine (HI.out _).mono ?_; rintro e w' ⟨rfl, rfl⟩)
      go_ret
      exact ⟨rfl, rfl⟩
    · have k1 : ¬ (m : Int) < 3 := by omega
      have k2 : decide ((m : Int) < 3) = false := decide_eq_false k1
      have e3 := odd_mod m
      by_cases k3 : m % 2 = 0
      · rw [k3] at e3
        clear h3 hp
        go_enter Try.func13, Try.ntmps13
        go_wp2_with (go_at_call 43; refine (HI.out _).mono ?_; rintro e w' ⟨rfl, rfl⟩)
        go_ret
        exact ⟨rfl, rfl⟩
      · have k4 : m % 2 = 1 := by omega
        rw [k4] at e3
        have HT := Lib.hid (fun W => l1Neg_any m t W h1 h2 h3)
        obtain ⟨e1, e2⟩ := play_or m t h1 h2 h3
        obtain ⟨w1, w2, w3, w4⟩ := pow2_less m h1 h2
        have hno : ¬ (t &&& turnN m t (-1) = 0 ∧ t ||| turnN m t (-1) = 2 ^ m - 2) := fun hh => by
          rw [(play_iff m t).2 ⟨by omega, k4, h4, hh.1, hh.2⟩] at hp
          cases hp
        generalize t &&& turnN m t (-1) = AA at *
        generalize t ||| turnN m t (-1) = OO at *
        generalize turnN m t (-1) = T at *
        generalize 2 ^ m - 2 = Q at *
        generalize 2 ^ m = P at *
        by_cases ha : AA = 0
        · have q1 : ((AA : Int) == 0) = true := by simp [ha]
          have q2 : ((OO : Int) == (Q : Int)) = false := beq_other fun e => hno ⟨ha, e⟩
          clear hno ha hp h3
          go_enter Try.func13, Try.ntmps13
          go_wp2_with (first
            | (go_at_call 43; refine (HI.out _).mono ?_; rintro e w' ⟨rfl, rfl⟩)
            | (go_at_call 44; refine (HT.out _).mono ?_; rintro e w' ⟨rfl, rfl⟩))
          go_ret
          exact ⟨ret_bool (by first | rfl | simp), rfl⟩
        · have q1 : ((AA : Int) == 0) = false := by simp; omega
          clear hno ha hp h3
          go_enter Try.func13, Try.ntmps13
          go_wp2_with (first
            | (go_at_call 43; refine (HI.out _).mono ?_; rintro e w' ⟨rfl, rfl⟩)
            | (go_at_call 44; refine (HT.out _).mono ?_; rintro e w' ⟨rfl, rfl⟩))
          go_ret
          exact ⟨ret_bool (by first | rfl | simp), rfl⟩
theorem sub_in (v w : Nat) (hv : v ≤ 12) (hw : w ≤ 12) : -1000000 ≤ (w : Int) - (v : Int) ∧ (w : Int) - (v : Int) ≤ 1000000 := by omega
theorem l8Beats_any (n s v u : Nat) (w : World) (h1 : 1 ≤ n) (h2 : n ≤ 12) (hs : s < 2 ^ n) (hv : v ≤ 12) (hu : u ≤ 12) :
    Calls Try.prog 57 #[.int .i64 (n:Int), .int .i64 (s:Int), .int .i64 (v:Int), .int .i64 (u:Int)] w fun e w' => e = .returned (.bool (beatB n s v u)) ∧ w = w' := by
  have hp := pow_le n h2
  have HR := Lib.hid (fun W => l1Rest_any n ((u : Int) - (v : Int)) W h1 h2 (sub_in v u hv hu))
  have hb := has_nat s (rest n ((u : Int) - (v : Int))) (by omega)
  obtain ⟨s1, s2⟩ := sub_wraps u v (by omega) (by omega)
  have hr := rest_lt n ((u : Int) - (v : Int)) h1
  have hF : beatB n s v u = s.testBit (rest n ((u : Int) - (v : Int))) := rfl
  generalize beatB n s v u = b at *
  generalize rest n ((u : Int) - (v : Int)) = r at *
  have r1 : min r 64 = r := by omega
  have r2 : (0 : Int) ≤ (r : Int) := by omega
  have HF := Lib.hid hF
  clear hF hs hp
  go_enter Try.func57, Try.ntmps57
  go_wp2_with (go_at_call 74; refine (HR.out _).mono ?_; rintro e w' ⟨rfl, rfl⟩)
  go_ret
  exact ⟨ret_bool (by first | exact HF.out.symm | (rw [HF.out]; first | exact hb | simp)), rfl⟩
theorem specPlayTwice_yes (n s : Nat) (w : World) (h2 : n ≤ 12) (hs : s < 2 ^ n) (hp : playB n s = true) :
    Calls Try.prog 26 #[.int .i64 (n:Int), .int .i64 (s:Int)] w fun e w' => e = .returned (.tuple #[.int .i64 ((twiceN n s : Nat) : Int), .bool true]) ∧ w = w' := by
  have h1 := ((play_iff n s).1 hp).1
  have hpw := pow_le n h2
  have HI := Lib.hid (fun W => specPlayIn_yes n s W h2 hs hp)
  have HS := Lib.hid (fun W => l1Sum_any n s s W (by omega) h2 hs hs)
  have hl := sumN_lt n s s
  have hol := Nat.or_lt_two_pow hs hl
  have e1 := or_nat s (sumN n s s) (by omega) (by omega)
  have e2 := less_nat (s ||| sumN n s s) 1 (by omega) (by omega)
  rw [show ((1 : Nat) : Int) = 1 from rfl] at e2
  unfold twiceN
  generalize lessN (s ||| sumN n s s) 1 = L at *
  generalize s ||| sumN n s s = O at *
  generalize sumN n s s = S at *
  clear hs hp hl hol hpw
  go_enter Try.func26, Try.ntmps26
  go_wp2_with (first
    | (go_at_call 13; refine (HI.out _).mono ?_; rintro e w' ⟨rfl, rfl⟩)
    | (go_at_call 59; refine (HS.out _).mono ?_; rintro e w' ⟨rfl, rfl⟩))
  go_ret2
  exact ⟨rfl, rfl⟩
theorem specPlayThree_no (n s : Int) (w : World) (h : NoPlay n s) :
    Calls Try.prog 23 #[.int .i64 n, .int .i64 s] w fun e w' => e = .returned (.tuple #[.int .i64 0, .bool false]) ∧ w = w' := by
  have HI := Lib.hid (fun W => specPlayIn_no n s W h)
  clear h
  go_enter Try.func23, Try.ntmps23
  go_wp2_with (go_at_call 13; refine (HI.out _).mono ?_; rintro e w' ⟨rfl, rfl⟩)
  go_ret2
  exact ⟨rfl, rfl⟩
theorem specPlayTwice_no (n s : Int) (w : World) (h : NoPlay n s) :
    Calls Try.prog 26 #[.int .i64 n, .int .i64 s] w fun e w' => e = .returned (.tuple #[.int .i64 0, .bool false]) ∧ w = w' := by
  have HI := Lib.hid (fun W => specPlayIn_no n s W h)
  clear h
  go_enter Try.func26, Try.ntmps26
  go_wp2_with (go_at_call 13; refine (HI.out _).mono ?_; rintro e w' ⟨rfl, rfl⟩)
  go_ret2
  exact ⟨rfl, rfl⟩
theorem specPlayEqual_no (n s : Int) (w : World) (h : NoPlay n s) :
    Calls Try.prog 30 #[.int .i64 n, .int .i64 s] w fun e w' => e = .returned (.tuple #[.int .i64 0, .bool false]) ∧ w = w' := by
  have HI := Lib.hid (fun W => specPlayIn_no n s W h)
  clear h
  go_enter Try.func30, Try.ntmps30
  go_wp2_with (go_at_call 13; refine (HI.out _).mono ?_; rintro e w' ⟨rfl, rfl⟩)
  go_ret2
  exact ⟨rfl, rfl⟩
end Go.Proofs.Ytaklmepioeoohaa

/- Plays of a ring: the model's threes and equal plays. Written by gen63.py. -/
namespace Go.Proofs.Ytaklmepioeoohaa
open Go.RowKit Go.Shelf
set_option linter.unusedVariables false
set_option maxHeartbeats 1000000 in
theorem specPlayEqual_yes (n s : Nat) (w : World) (h2 : n ≤ 12) (hs : s < 2 ^ n) (hp : playB n s = true) :
    Calls Try.prog 30 #[.int .i64 (n:Int), .int .i64 (s:Int)] w fun e w' => e = .returned (.tuple #[.int .i64 ((evZ n s : Nat) : Int), .bool (evenB n s)]) ∧ w = w' := by
  have h1 := ((play_iff n s).1 hp).1
  have hpw := pow_le n h2
  have HI := Lib.hid (fun W => specPlayIn_yes n s W h2 hs hp)
  have HMp : Hid (∀ v : Nat, v ≤ 12 → ∀ W, Calls Try.prog 44 #[.int .i64 (n:Int), .int .i64 (s:Int), .int .i64 1, .int .i64 (v:Int)] W fun e w' => e = .returned (.int .i64 ((shiftN n s (v : Int) : Nat) : Int)) ∧ W = w') := Lib.hid (fun v hv W => by
    rw [← map_shift n s (v : Int) (by omega) hs]
    exact l1Map_any n s 1 (v : Int) W (by omega) h2 (pow_mono h2 hs) (by omega) (by omega) (by omega) (by omega))
  have HM1 : Hid (∀ W, Calls Try.prog 44 #[.int .i64 (n:Int), .int .i64 (s:Int), .int .i64 1, .int .i64 1] W fun e w' => e = .returned (.int .i64 ((shiftN n s ((1 : Nat) : Int) : Nat) : Int)) ∧ W = w') := Lib.hid (fun W => HMp.out 1 (by omega) W)
  have HAn : Hid (∀ v : Nat, bits .and .i64 (s : Int) ((shiftN n s (v : Int) : Nat) : Int) = ((s &&& shiftN n s (v : Int) : Nat) : Int)) := Lib.hid (fun v => and_nat s _ (by omega) (by have := shiftN_lt n s (v : Int); omega))
  have HSz : Hid (∀ (v : Nat) W, Calls Try.prog 64 #[.int .i64 ((s &&& shiftN n s (v : Int) : Nat) : Int)] W fun e w' => e = .returned (.int .i64 ((difN n s v : Nat) : Int)) ∧ W = w') := Lib.hid (fun v W => l1Size_any _ W (Nat.lt_of_le_of_lt Nat.and_le_left (by omega)))
  have a1 := HAn.out 1
  have HZ1 := Lib.hid (HSz.out 1)
  have HYes : Hid ((∀ i, 2 ≤ i → i < n → difN n s i = difN n s 1) → (evZ n s = difN n s 1 ∧ evenB n s = true)) := Lib.hid (fun h => by
    have he : evenB n s = true := ev_of n s n h
    exact ⟨by unfold evZ; rw [if_pos he], he⟩)
  have HNo : Hid (∀ i, 2 ≤ i → i < n → difN n s i ≠ difN n s 1 → (evZ n s = 0 ∧ evenB n s = false)) := Lib.hid (fun i h1 h2 h3 => by
    have he : evenB n s = false := ev_not n s n i h1 h2 h3
    exact ⟨by unfold evZ; rw [he]; rfl, he⟩)
  generalize shiftN n s ((1 : Nat) : Int) = sh1 at *
  generalize s &&& sh1 = an1 at *
  clear hs hp hpw
  go_enter Try.func30, Try.ntmps30
  go_wp2_with (first
    | (go_at_call 13; refine (HI.out _).mono ?_; rintro e w' ⟨rfl, rfl⟩)
    | (go_at_call 44; refine (HM1.out _).mono ?_; rintro e w' ⟨rfl, rfl⟩)
    | (go_at_call 64; refine (HZ1.out _).mono ?_; rintro e w' ⟨rfl, rfl⟩))
  go_loopw [7] (fun u wr => ∃ v : Nat, 2 ≤ v ∧ v ≤ n ∧ u = .int .i64 (v : Int) ∧ Hid (∀ i, 2 ≤ i → i < v → difN n s i = difN n s 1) ∧ w = wr) (fun u _ => n - (intOf u).toNat)
  case atStart => exact ⟨2, Nat.le_refl _, by omega, rfl, Lib.hid (fun i a b => absurd b (by omega)), by first | rfl | trivial⟩
  case round =>
    obtain ⟨v, hv1, hv, rfl, HAll, rfl⟩ := hrel
    by_cases hlt : v < n
    · have HMv := Lib.hid (HMp.out v (by omega))
      have av := HAn.out v
      have HZv := Lib.hid (HSz.out v)
      by_cases he : difN n s v = difN n s 1
      · have HAll2 : Hid (∀ i, 2 ≤ i → i < v + 1 → difN n s i = difN n s 1) := Lib.hid (fun i a b => by
          by_cases c : i = v
          · subst c; exact he
          · exact HAll.out i a (by omega))
        have e1 := beq_same he
        have e2 := bne_same he
        generalize shiftN n s (v : Int) = sh at *
        generalize s &&& sh = an at *
        generalize difN n s v = x at *
        clear he HAll
        go_wp2_with (first
          | (go_at_call 44; refine (HMv.out _).mono ?_; rintro e w' ⟨rfl, rfl⟩)
          | (go_at_call 64; refine (HZv.out _).mono ?_; rintro e w' ⟨rfl, rfl⟩))
        go_roundw
        case rel => exact ⟨v + 1, by omega, by omega, by go_num, HAll2, by first | rfl | trivial⟩
        case measure => simp [intOf]; omega
      · have HF := Lib.hid (HNo.out v hv1 hlt he)
        have e1 := beq_other he
        have e2 := bne_cast he
        generalize shiftN n s (v : Int) = sh at *
        generalize s &&& sh = an at *
        generalize difN n s v = x at *
        clear he HAll
        go_wp2_with (first
          | (go_at_call 44; refine (HMv.out _).mono ?_; rintro e w' ⟨rfl, rfl⟩)
          | (go_at_call 64; refine (HZv.out _).mono ?_; rintro e w' ⟨rfl, rfl⟩))
        go_ret2
        exact ⟨by rw [HF.out.1, HF.out.2]; rfl, by first | rfl | trivial⟩
    · obtain rfl : v = n := by omega
      have HF := Lib.hid (HYes.out HAll.out)
      generalize difN v s 1 = x at *
      go_wp2
      go_ret2
      exact ⟨by rw [HF.out.1, HF.out.2]; rfl, by first | rfl | trivial⟩
theorem three_bounds (n s a b c : Nat) (h2 : n ≤ 12) (ha : a ≤ n) (hb : b ≤ n) (hc : c ≤ n) : thA n s a + thB n s a b + thC n s a b c ≤ 2000 := by
  have x := thA_le n s a h2 ha
  have y := thB_le n s a b h2 hb
  have z := thC_le n s a b c h2 hc
  omega
set_option maxHeartbeats 1000000 in
theorem specPlayThree_yes (n s : Nat) (w : World) (h2 : n ≤ 12) (hs : s < 2 ^ n) (hp : playB n s = true) :
    Calls Try.prog 23 #[.int .i64 (n:Int), .int .i64 (s:Int)] w fun e w' => e = .returned (.tuple #[.int .i64 ((threeN n s : Nat) : Int), .bool true]) ∧ w = w' := by
  have h1 := ((play_iff n s).1 hp).1
  have HI := Lib.hid (fun W => specPlayIn_yes n s W h2 hs hp)
  have HBt := Lib.hid (fun (v u : Nat) (hv : v ≤ 12) (hu : u ≤ 12) W => l8Beats_any n s v u W (by omega) h2 hs hv hu)
  have HLe := Lib.hid (fun a b c => three_bounds n s a b c h2)
  have HSB := Lib.hid (fun a => thB_start n s a)
  have HSC := Lib.hid (fun a b => thC_start n s a b)
  have HCy := Lib.hid (fun a b c => thC_yes n s a b c)
  have HCn := Lib.hid (fun a b c => thC_no n s a b c)
  have HBs := Lib.hid (fun a b => thB_step n s a b)
  have HAs := Lib.hid (fun a => thA_step n s a)
  have HE : Hid (thA n s n = threeN n s) := Lib.hid rfl
  have HCi : Hid (∀ a b c, circB n s a b c = (beatB n s a b == beatB n s b c && beatB n s a b == beatB n s c a)) := Lib.hid (fun _ _ _ => rfl)
  have HZ : Hid (thA n s 0 = 0) := Lib.hid rfl
  clear hs hp
  go_enter Try.func23, Try.ntmps23
  go_wp2_with (go_at_call 13; refine (HI.out _).mono ?_; rintro e w' ⟨rfl, rfl⟩)
  go_loopw [6, 7] (fun u v wr => ∃ k a : Nat, a ≤ n ∧ u = .int .i64 (k : Int) ∧ v = .int .i64 (a : Int) ∧ Hid (k = thA n s a) ∧ w = wr) (fun _ v _ => n - (intOf v).toNat)
  case atStart => exact ⟨0, 0, Nat.zero_le _, rfl, rfl, Lib.hid HZ.out.symm, by first | rfl | trivial⟩
  case round =>
    obtain ⟨k, a, ha, rfl, rfl, HK, rfl⟩ := hrel
    by_cases hlt : a < n
    · go_wp2
      go_loopw [6, 8] (fun u v wr => ∃ k b : Nat, a + 1 ≤ b ∧ b ≤ n ∧ u = .int .i64 (k : Int) ∧ v = .int .i64 (b : Int) ∧ Hid (k = thA n s a + thB n s a b) ∧ w = wr) (fun _ v _ => n - (intOf v).toNat)
      case atStart => exact ⟨k, a + 1, Nat.le_refl _, by omega, rfl, by go_num, Lib.hid (by rw [HSB.out, HK.out]; rfl), by first | rfl | trivial⟩
      case round =>
        obtain ⟨k, b, hb1, hb, rfl, rfl, HKb, rfl⟩ := hrel
        by_cases hlb : b < n
        · go_wp2
          go_loopw [6, 9] (fun u v wr => ∃ k c : Nat, b + 1 ≤ c ∧ c ≤ n ∧ u = .int .i64 (k : Int) ∧ v = .int .i64 (c : Int) ∧ Hid (k = thA n s a + thB n s a b + thC n s a b c) ∧ w = wr) (fun _ v _ => n - (intOf v).toNat)
          case atStart => exact ⟨k, b + 1, Nat.le_refl _, by omega, rfl, by go_num, Lib.hid (by rw [HSC.out, HKb.out]; rfl), by first | rfl | trivial⟩
          case round =>
            obtain ⟨k, c, hc1, hc, rfl, rfl, HKc, rfl⟩ := hrel
            by_cases hlc : c < n
            · have hk : k ≤ 2000 := by rw [HKc.out]; exact HLe.out a b c ha hb hc
              have HX := Lib.hid (HBt.out a b (by omega) (by omega))
              have HY := Lib.hid (HBt.out b c (by omega) (by omega))
              have HZz := Lib.hid (HBt.out c a (by omega) (by omega))
              have hci := HCi.out a b c
              have hy := HCy.out a b c (by omega)
              have hn := HCn.out a b c
              generalize beatB n s a b = x at *
              generalize beatB n s b c = y at *
              generalize beatB n s c a = z at *
              cases hcb : circB n s a b c
              · rw [hcb] at hci
                have HS := Lib.hid (hn hcb)
                have HCc := Lib.hid hci
                clear hci hy hn hcb
                cases x <;> cases y <;> cases z <;> first | exact absurd HCc.out (by decide) | skip
                all_goals
                  go_wp2_with fail
                  refine (HX.out _).mono ?_
                  rintro e w' ⟨rfl, rfl⟩
                  go_wp2_with fail
                  refine (HY.out _).mono ?_
                  rintro e w' ⟨rfl, rfl⟩
                  go_wp2_with (go_at_call 57; refine (HZz.out _).mono ?_; rintro e w' ⟨rfl, rfl⟩)
                  go_roundw
                  case rel => exact ⟨k, c + 1, by omega, by omega, rfl, by go_num, Lib.hid (by rw [HS.out, HKc.out]), by first | rfl | trivial⟩
                  case measure => simp [intOf]; omega
              · rw [hcb] at hci
                have HS := Lib.hid (hy hcb)
                have HCc := Lib.hid hci
                clear hci hy hn hcb
                cases x <;> cases y <;> cases z <;> first | exact absurd HCc.out (by decide) | skip
                all_goals
                  go_wp2_with fail
                  refine (HX.out _).mono ?_
                  rintro e w' ⟨rfl, rfl⟩
                  go_wp2_with fail
                  refine (HY.out _).mono ?_
                  rintro e w' ⟨rfl, rfl⟩
                  go_wp2_with (go_at_call 57; refine (HZz.out _).mono ?_; rintro e w' ⟨rfl, rfl⟩)
                  go_roundw
                  case rel => exact ⟨k + 1, c + 1, by omega, by omega, by go_num, by go_num, Lib.hid (by rw [HS.out, HKc.out]; rfl), by first | rfl | trivial⟩
                  case measure => simp [intOf]; omega
            · obtain rfl : c = n := by omega
              have HS := Lib.hid (HBs.out a b (by omega))
              go_wp2
              go_roundw
              case rel => exact ⟨k, b + 1, by omega, by omega, rfl, by go_num, Lib.hid (by rw [← HS.out, ← Nat.add_assoc]; exact HKc.out), by first | rfl | trivial⟩
              case measure => simp [intOf]; omega
        · obtain rfl : b = n := by omega
          have HS := Lib.hid (HAs.out a)
          go_wp2
          go_roundw
          case rel => exact ⟨k, a + 1, by omega, rfl, by go_num, Lib.hid (by rw [← HS.out]; exact HKb.out), by first | rfl | trivial⟩
          case measure => simp [intOf]; omega
    · obtain rfl : a = n := by omega
      go_wp2
      go_ret2
      exact ⟨by rw [← HE.out, ← HK.out]; rfl, by first | rfl | trivial⟩
end Go.Proofs.Ytaklmepioeoohaa

/- Plays of a ring: the model's list of all plays. Written by gen64.py. -/
namespace Go.Proofs.Ytaklmepioeoohaa
open Go.RowKit Go.Shelf
set_option linter.unusedVariables false
/-- The plays among the first j even numbers. -/
def playL (n : Nat) : Nat → List Int
  | 0 => []
  | j + 1 => if playB n (2 * j) then playL n j ++ [((2 * j : Nat) : Int)] else playL n j
theorem playL_len (n j : Nat) : (playL n j).length ≤ j := by
  induction j with
  | zero => exact Nat.le_refl _
  | succ j ih =>
    show (if playB n (2 * j) then playL n j ++ [((2 * j : Nat) : Int)] else playL n j).length ≤ j + 1
    split
    · rw [List.length_append]; simp; omega
    · omega
theorem specPlayIn_any (n s : Nat) (w : World) (h2 : n ≤ 12) (hs : s < 2 ^ n) :
    Calls Try.prog 13 #[.int .i64 (n:Int), .int .i64 (s:Int)] w fun e w' => e = .returned (.bool (playB n s)) ∧ w = w' := by
  cases hb : playB n s
  · refine specPlayIn_no (n : Int) (s : Int) w ?_
    rintro ⟨m, t, e1, e2, e3, e4, e5⟩
    have q1 := Int.ofNat_inj.1 e1
    have q2 := Int.ofNat_inj.1 e2
    subst q1
    subst q2
    rw [hb] at e5
    cases e5
  · exact specPlayIn_yes n s w h2 hs hb
set_option maxHeartbeats 1000000 in
theorem l8All_any (n : Nat) (w : World) (h1 : 1 ≤ n) (h2 : n ≤ 12) :
    Calls Try.prog 55 #[.int .i64 (n:Int)] w fun e w' => ∃ sv, e = .returned sv ∧ Below w.heap.size w w' ∧ IsInts w' w.heap.size sv (playL n (2 ^ (n - 1))) := by
  have hp := pow_le n h2
  have hp2 := half_pow n h1
  have HIn := Lib.hid (fun x (hx : x < 2 ^ n) W => specPlayIn_any n x W h2 hx)
  have hwp := wrap_pow n (by omega)
  have HNx : Hid (∀ j, playL n (j + 1) = if playB n (2 * j) then playL n j ++ [((2 * j : Nat) : Int)] else playL n j) := Lib.hid (fun _ => rfl)
  have HLn := Lib.hid (fun j => playL_len n j)
  have HZ : Hid (playL n 0 = []) := Lib.hid rfl
  generalize 2 ^ (n - 1) = H at *
  obtain ⟨N, hN⟩ : ∃ N, 2 ^ n = N := ⟨_, rfl⟩
  rw [hN] at hp hp2 HIn hwp
  have hpe : Hid (N = 2 * H) := hp2
  clear hp2
  have hwi : IntKind.i64.wrap (2 ^ n) = (N : Int) := by rw [IntWalk.i64_left]; exact hwp
  clear hN
  go_enter Try.func55, Try.ntmps55
  go_wp2
  go_loopw [3, 4] (fun u v wr => ∃ (ov : Value) (j i : Nat), u = ov ∧ j ≤ H ∧ Hid (i = 2 * j) ∧ v = .int .i64 (i : Int) ∧ Hid (Below w.heap.size w wr) ∧ Hid (IsInts wr w.heap.size ov (playL n j))) (fun _ v _ => N + 2 - (intOf v).toNat)
  case atStart => exact ⟨_, 0, 0, rfl, Nat.zero_le _, Lib.hid rfl, rfl, Lib.hid ((Below.refl _ _).alloc (Nat.le_refl _) _), Lib.hid (by rw [HZ.out]; exact nil_made w _ (Nat.le_refl _))⟩
  case round =>
    obtain ⟨ov, j, i, rfl, hj, HIJ, rfl, HB, HO⟩ := hrel
    by_cases hlt : i < N
    · have k0 : (i : Int) < (N : Int) := by omega
      have hin := HIn.out i hlt
      have hnx := HNx.out j
      rw [← HIJ.out] at hnx
      obtain ⟨a1, a2⟩ := two_wraps ((i : Int) + 2) (i + 2) (by omega) (by omega)
      have HJ : Hid (j + 1 ≤ H ∧ i + 2 = 2 * (j + 1)) := Lib.hid (by have a := HIJ.out; have b := hpe.out; omega)
      have HLl : Hid ((playL n j).length ≤ 4096) := Lib.hid (by have a := HLn.out j; have b := hpe.out; omega)
      cases hb : playB n i
      · rw [hb] at hin hnx
        have HI1 := Lib.hid hin
        have HT : Hid (playL n (j + 1) = playL n j) := Lib.hid hnx
        clear hin hnx hb
        go_wp2_with (go_at_call 13; refine (HI1.out _).mono ?_; rintro e w' ⟨rfl, rfl⟩)
        go_roundw
        case rel => exact ⟨_, j + 1, i + 2, rfl, HJ.out.1, Lib.hid HJ.out.2, by go_num, HB, Lib.hid (by rw [HT.out]; exact HO.out)⟩
        case measure => simp [intOf]; omega
      · rw [hb] at hin hnx
        have HI1 := Lib.hid hin
        have HT : Hid (playL n (j + 1) = playL n j ++ [(i : Int)]) := Lib.hid hnx
        clear hin hnx hb
        go_wp2_with (first
          | (go_at_call 13; refine (HI1.out _).mono ?_; rintro e w' ⟨rfl, rfl⟩)
          | (at_builtin; refine wpList_append_ints rfl (.tmp 15) (.tmp 17) rfl _ (playL n j) (i : Int) wr w.heap.size rfl rfl HO.out (Nat.le_trans HLl.out (by omega)) HB.out.size (fun v' W6 hv6 hk6 hb6 => ?_)))
        go_roundw
        case rel => exact ⟨_, j + 1, i + 2, rfl, HJ.out.1, Lib.hid HJ.out.2, by go_num, Lib.hid (hb6 _ _ (Nat.le_refl _) HB.out), Lib.hid (by rw [HT.out]; exact hv6)⟩
        case measure => simp [intOf]; omega
    · have k0 : ¬ (i : Int) < (N : Int) := by omega
      have hj2 : j = H := by have a := HIJ.out; have b := hpe.out; omega
      subst hj2
      go_wp2
      go_ret
      exact ⟨_, rfl, HB.out, HO.out⟩
/-- A ring of which all plays can be told. -/
def AllIn (n : Int) : Prop := ∃ m : Nat, n = (m : Int) ∧ 3 ≤ m ∧ m ≤ 11 ∧ m % 2 = 1
theorem allIn_cases {n : Int} (h : ¬ AllIn n) : n < 3 ∨ 11 < n ∨ ∃ m : Nat, n = (m : Int) ∧ 3 ≤ m ∧ m ≤ 11 ∧ m % 2 = 0 := by
  by_cases h1 : n < 3
  · exact .inl h1
  · by_cases h2 : 11 < n
    · exact .inr (.inl h2)
    · obtain ⟨m, rfl⟩ : ∃ m : Nat, n = (m : Int) := ⟨n.toNat, by omega⟩
      refine .inr (.inr ⟨m, rfl, by omega, by omega, ?_⟩)
      have : ¬ m % 2 = 1 := fun e => h ⟨m, rfl, by omega, by omega, e⟩
      omega
theorem specPlayAll_yes (n : Nat) (w : World) (h1 : 3 ≤ n) (h2 : n ≤ 11) (h3 : n % 2 = 1) :
    Calls Try.prog 19 #[.int .i64 (n:Int)] w (ListRes w (playL n (2 ^ (n - 1))) true) := by
  have HL := Lib.hid (fun W => l8All_any n W (by omega) (by omega))
  have e3 := odd_mod n
  rw [h3] at e3
  have HI := Lib.hid (fun W => l6In_yes (n : Int) 3 11 W (by omega) (by omega))
  have k1 : (3 : Int) ≤ (n : Int) := by omega
  have k2 : (n : Int) ≤ 11 := by omega
  go_enter Try.func19, Try.ntmps19
  go_wp2_with (first
    | (go_at_call 54; refine (HI.out _).mono ?_; rintro e w' ⟨rfl, rfl⟩)
    | (go_at_call 55; refine (HL.out _).mono ?_; rintro e w2 ⟨sv, rfl, hb2, hI2⟩; have HB2 := Lib.hid hb2; have HI2 := Lib.hid hI2; clear hb2 hI2))
  go_ret2
  exact ⟨_, rfl, HB2.out, HI2.out⟩
theorem specPlayAll_no (n : Int) (w : World) (h : ¬ AllIn n) :
    Calls Try.prog 19 #[.int .i64 n] w (ListRes w [] false) := by
  rcases Decidable.em (3 ≤ n ∧ n ≤ 11) with hr | hr
  · rcases allIn_cases h with h | h | ⟨m, rfl, a, b, c⟩
    · omega
    · omega
    · have HI := Lib.hid (fun W => l6In_yes (m : Int) 3 11 W (by omega) (by omega))
      have e3 := odd_mod m
      rw [c] at e3
      clear h hr
      go_enter Try.func19, Try.ntmps19
      go_wp2_with (go_at_call 54; refine (HI.out _).mono ?_; rintro e w' ⟨rfl, rfl⟩)
      go_ret2
      exact ⟨_, rfl, (Below.refl _ _).alloc (Nat.le_refl _) _, nil_made w _ (Nat.le_refl _)⟩
  · have HI := Lib.hid (fun W => l6In_no n 3 11 W hr)
    clear h hr
    go_enter Try.func19, Try.ntmps19
    go_wp2_with (go_at_call 54; refine (HI.out _).mono ?_; rintro e w' ⟨rfl, rfl⟩)
    go_ret2
    exact ⟨_, rfl, (Below.refl _ _).alloc (Nat.le_refl _) _, nil_made w _ (Nat.le_refl _)⟩
end Go.Proofs.Ytaklmepioeoohaa

/- Plays of a ring: what the list of all plays says (promise 67). Written by gen68.py. -/
namespace Go.Proofs.Ytaklmepioeoohaa
open Go.RowKit Go.Shelf
set_option linter.unusedVariables false
theorem getD_in (l : List Int) (y : Int) (i : Nat) (h : i < l.length) : (l ++ [y]).getD i 0 = l.getD i 0 := by
  simp only [List.getD_eq_getElem?_getD, List.getElem?_append_left h]
theorem getD_end (l : List Int) (y : Int) : (l ++ [y]).getD l.length 0 = y := by
  simp [List.getD_eq_getElem?_getD]
theorem playL_get (n j i : Nat) (hi : i < (playL n j).length) : ∃ x : Nat, (playL n j).getD i 0 = (x : Int) ∧ x < 2 * j ∧ playB n x = true ∧ ∀ i', i' < i → ∃ y : Nat, (playL n j).getD i' 0 = (y : Int) ∧ y < x := by
  induction j generalizing i with
  | zero => exact absurd hi (Nat.not_lt_zero _)
  | succ j ih =>
    have e : playL n (j + 1) = if playB n (2 * j) then playL n j ++ [((2 * j : Nat) : Int)] else playL n j := rfl
    cases hb : playB n (2 * j)
    · rw [hb] at e
      have e' : playL n (j + 1) = playL n j := e
      rw [e'] at hi ⊢
      obtain ⟨x, a, b, c, d⟩ := ih i hi
      exact ⟨x, a, by omega, c, d⟩
    · rw [hb] at e
      have e' : playL n (j + 1) = playL n j ++ [((2 * j : Nat) : Int)] := e
      rw [e'] at hi ⊢
      rw [List.length_append] at hi
      have hi' : i < (playL n j).length + 1 := hi
      by_cases c : i < (playL n j).length
      · obtain ⟨x, a1, a2, a3, a4⟩ := ih i c
        refine ⟨x, by rw [getD_in _ _ _ c]; exact a1, by omega, a3, fun i' h' => ?_⟩
        obtain ⟨y, b1, b2⟩ := a4 i' h'
        exact ⟨y, by rw [getD_in _ _ _ (by omega)]; exact b1, b2⟩
      · obtain rfl : i = (playL n j).length := by omega
        refine ⟨2 * j, getD_end _ _, by omega, hb, fun i' h' => ?_⟩
        obtain ⟨y, b1, b2, _, _⟩ := ih i' h'
        exact ⟨y, by rw [getD_in _ _ _ h']; exact b1, b2⟩
def cntH (p : Nat → Bool) : Nat → Nat → Nat
  | 0, a => if p a then 1 else 0
  | k + 1, a => cntH p k a + cntH p k (a + 2 ^ k)
theorem playL_count (n k a : Nat) : (playL n (a + 2 ^ k)).length = (playL n a).length + cntH (fun j => playB n (2 * j)) k a := by
  induction k generalizing a with
  | zero =>
    show (if playB n (2 * a) then playL n a ++ [((2 * a : Nat) : Int)] else playL n a).length = (playL n a).length + (if playB n (2 * a) then 1 else 0)
    cases playB n (2 * a)
    · rfl
    · rw [if_pos rfl, if_pos rfl, List.length_append]; rfl
  | succ k ih =>
    have h := ih (a + 2 ^ k)
    rw [ih a, Nat.add_assoc] at h
    rw [Nat.pow_succ, Nat.mul_two, Nat.add_assoc] at *
    rw [h]
    show _ = _ + (cntH _ k a + cntH _ k (a + 2 ^ k))
    omega
theorem play_counts : ((List.range 12).all fun n => !(Nat.ble 3 n && Nat.beq (n % 2) 1) || Nat.beq (cntH (fun j => playB n (2 * j)) (n - 1) 0) (2 ^ ((n - 1) / 2))) = true := by decide +kernel
theorem playL_size (n : Nat) (h1 : 3 ≤ n) (h2 : n ≤ 11) (h3 : n % 2 = 1) : (playL n (2 ^ (n - 1))).length = 2 ^ ((n - 1) / 2) := by
  have h := List.all_eq_true.1 play_counts n (List.mem_range.2 (by omega))
  rw [Nat.ble_eq_true_of_le h1, h3] at h
  have h' : Nat.beq (cntH (fun j => playB n (2 * j)) (n - 1) 0) (2 ^ ((n - 1) / 2)) = true := h
  have e := playL_count n (n - 1) 0
  rw [Nat.zero_add, Nat.eq_of_beq_eq_true h'] at e
  rw [e]
  exact Nat.zero_add _
end Go.Proofs.Ytaklmepioeoohaa

/- Exact laws of chapter 8 over given contracts of the program. Written by gen65.py. -/
namespace Go.Proofs.Ytaklmepioeoohaa
open Go.RowKit Go.Shelf
set_option linter.unusedVariables false
def NoPlayIn : Prop := ∀ (n s : Int) (W : World), NoPlay n s → Calls Try.prog 12 #[.int .i64 n, .int .i64 s] W (fun e w' => e = .returned (.bool false) ∧ Below W.heap.size W w')
def YesPlayIn : Prop := ∀ (n s : Nat) (W : World), n ≤ 12 → s < 2 ^ n → playB n s = true → Calls Try.prog 12 #[.int .i64 (n:Int), .int .i64 (s:Int)] W (fun e w' => e = .returned (.bool true) ∧ Below W.heap.size W w')
def NoPlayThree : Prop := ∀ (n s : Int) (W : World), NoPlay n s → Calls Try.prog 22 #[.int .i64 n, .int .i64 s] W (fun e w' => e = .returned (.tuple #[.int .i64 0, .bool false]) ∧ Below W.heap.size W w')
def YesPlayThree : Prop := ∀ (n s : Nat) (W : World), n ≤ 12 → s < 2 ^ n → playB n s = true → Calls Try.prog 22 #[.int .i64 (n:Int), .int .i64 (s:Int)] W (fun e w' => e = .returned (.tuple #[.int .i64 ((threeN n s : Nat) : Int), .bool true]) ∧ Below W.heap.size W w')
def NoPlayTwice : Prop := ∀ (n s : Int) (W : World), NoPlay n s → Calls Try.prog 25 #[.int .i64 n, .int .i64 s] W (fun e w' => e = .returned (.tuple #[.int .i64 0, .bool false]) ∧ Below W.heap.size W w')
def YesPlayTwice : Prop := ∀ (n s : Nat) (W : World), n ≤ 12 → s < 2 ^ n → playB n s = true → Calls Try.prog 25 #[.int .i64 (n:Int), .int .i64 (s:Int)] W (fun e w' => e = .returned (.tuple #[.int .i64 ((twiceN n s : Nat) : Int), .bool true]) ∧ Below W.heap.size W w')
def NoPlayEqual : Prop := ∀ (n s : Int) (W : World), NoPlay n s → Calls Try.prog 29 #[.int .i64 n, .int .i64 s] W (fun e w' => e = .returned (.tuple #[.int .i64 0, .bool false]) ∧ Below W.heap.size W w')
def YesPlayEqual : Prop := ∀ (n s : Nat) (W : World), n ≤ 12 → s < 2 ^ n → playB n s = true → Calls Try.prog 29 #[.int .i64 (n:Int), .int .i64 (s:Int)] W (fun e w' => e = .returned (.tuple #[.int .i64 ((evZ n s : Nat) : Int), .bool (evenB n s)]) ∧ Below W.heap.size W w')
def NoPlayAll : Prop := ∀ (n : Int) (W : World), ¬ AllIn n → Calls Try.prog 18 #[.int .i64 n] W (ListRes W [] false)
def YesPlayAll : Prop := ∀ (n : Nat) (W : World), 3 ≤ n → n ≤ 11 → n % 2 = 1 → Calls Try.prog 18 #[.int .i64 (n:Int)] W (ListRes W (playL n (2 ^ (n - 1))) true)
end Go.Proofs.Ytaklmepioeoohaa

/- Plays of a ring: the model's classes of plays. Written by gen69.py. -/
namespace Go.Proofs.Ytaklmepioeoohaa
open Go.RowKit Go.Shelf
set_option linter.unusedVariables false
/-- What is marked once a play's turns by units below m are. -/
def unitP (n x : Nat) (f : Nat → Bool) (m : Nat) : Nat → Bool := overSet (unitsN n) (fun m f => fun y => f y || y == act n x (m : Int) 0) m f
def atN (xs : List Int) (i : Nat) : Nat := (xs.getD i 0).toNat
/-- What is marked once the first i plays have been gone through. -/
def clsF (n : Nat) (xs : List Int) : Nat → Nat → Bool
  | 0 => fun _ => false
  | i + 1 => if clsF n xs i (atN xs i) then clsF n xs i else unitP n (atN xs i) (clsF n xs i) n
def clsN (n : Nat) (xs : List Int) : Nat → Nat
  | 0 => 0
  | i + 1 => if clsF n xs i (atN xs i) then clsN n xs i else clsN n xs i + 1
theorem clsN_le (n : Nat) (xs : List Int) (i : Nat) : clsN n xs i ≤ i := by
  induction i with
  | zero => exact Nat.le_refl _
  | succ i ih =>
    show (if clsF n xs i (atN xs i) then clsN n xs i else clsN n xs i + 1) ≤ i + 1
    split <;> omega
theorem unitP_one (n x : Nat) (f : Nat → Bool) (h1 : 2 ≤ n) : unitP n x f 1 = f := by
  have h0 : (unitsN n).testBit 0 = false := by
    cases hb : (unitsN n).testBit 0
    · rfl
    · have := ((unitsN_bit n 0).1 hb).2
      rw [Nat.gcd_zero_left] at this
      omega
  simp [unitP, overSet, upto, h0]
theorem IsTab.belowAll {W W' : World} {b g N : Nat} {f : Nat → Bool} (h : IsTab W b g N f) (hb : Below W.heap.size W W') : IsTab W' b g N f := by
  have hl := fun k hk => (World.ownsRow.lt h k hk).2
  refine ⟨h.1, ?_⟩
  rcases h.2 with hn | ⟨k, cap, cur, e, h1, hgg, rest⟩
  · exact .inl hn
  · exact .inr ⟨k, cap, cur, e, h1, (hb.block k (hl k (by rw [e]; rfl))).trans hgg, rest⟩
theorem ints_tab {W : World} {b b2 g N : Nat} {f : Nat → Bool} {v : Value} {xs : List Int} (h : IsInts W b v xs) (ht : IsTab W b2 g N f) (hg : g < b) (i : Nat) : IsInts (W.setCell ⟨g, i, none⟩ (.bool true)) b v xs := by
  refine World.ownsRow.kept h (World.ownsRow.stored ht i (.bool true)).2 (.inr fun e => ?_)
  have := (World.ownsRow.lt h g e).1
  omega
set_option maxHeartbeats 1000000 in
theorem specPlayClasses_yes (n : Nat) (w : World) (h1 : 3 ≤ n) (h2 : n ≤ 11) (h3 : n % 2 = 1) :
    Calls Try.prog 34 #[.int .i64 (n:Int)] w fun e w' => e = .returned (.tuple #[.int .i64 ((clsN n (playL n (2 ^ (n - 1))) (playL n (2 ^ (n - 1))).length : Nat) : Int), .bool true]) ∧ Below w.heap.size w w' := by
  have hp := pow_le n (by omega)
  have hw := wrap_pow n (by omega)
  have e3 := odd_mod n
  rw [h3] at e3
  have HI := Lib.hid (fun W => l6In_yes (n : Int) 3 11 W (by omega) (by omega))
  have HL := Lib.hid (fun W => l8All_any n W (by omega) (by omega))
  have HUn := Lib.hid (fun W => l1Units_any n W (by omega) (by omega))
  have HGt : Hid (∀ i, i < (playL n (2 ^ (n - 1))).length → (playL n (2 ^ (n - 1))).getD i 0 = ((atN (playL n (2 ^ (n - 1))) i : Nat) : Int) ∧ atN (playL n (2 ^ (n - 1))) i < 2 ^ n) := Lib.hid (fun i hi => by
    obtain ⟨x, a1, a2, a3, a4⟩ := playL_get n _ i hi
    rw [← half_pow n (by omega)] at a2
    have e : atN (playL n (2 ^ (n - 1))) i = x := by unfold atN; rw [a1]; rfl
    rw [e]
    exact ⟨a1, a2⟩)
  have HMp : Hid (∀ x : Nat, x < 2 ^ n → ∀ (m : Nat) (W : World), m ≤ 12 → Calls Try.prog 44 #[.int .i64 (n:Int), .int .i64 (x:Int), .int .i64 (m:Int), .int .i64 0] W fun e w' => e = .returned (.int .i64 ((act n x (m : Int) 0 : Nat) : Int)) ∧ W = w') := Lib.hid (fun x hx m W hm => l1Map_any n x (m : Int) 0 W (by omega) (by omega) (pow_mono (by omega) hx) (by omega) (by omega) (by omega) (by omega))
  have HAl := Lib.hid (fun (x m : Nat) => act_lt n x (m : Int) 0 (by omega))
  have hxl : (playL n (2 ^ (n - 1))).length ≤ 4096 := Nat.le_trans (playL_len n (2 ^ (n - 1))) (Nat.le_trans (pow_le (n - 1) (by omega)) (by omega))
  generalize playL n (2 ^ (n - 1)) = xs at *
  generalize hN : 2 ^ n = N at *
  have hwi : IntKind.i64.wrap (2 ^ n) = (N : Int) := by rw [IntWalk.i64_left]; exact hw
  have hmk := make_tab N hp w
  have HM := Lib.hid (made_tab N hp w)
  have HM0 := Lib.hid (tab_congr N (fun _ => false) (clsF n xs 0) (fun x _ => rfl))
  have HUo := Lib.hid (fun x f => unitP_one n x f (by omega))
  have HCl := Lib.hid (fun i => clsN_le n xs i)
  have HUl : Hid (unitsN n < 2 ^ 40) := Lib.hid (Nat.lt_of_lt_of_le (unitsN_lt n) (Nat.pow_le_pow_right (by omega) (by omega)))
  clear hN h3
  go_enter Try.func34, Try.ntmps34
  go_wp2_with (go_at_call 54; refine (HI.out _).mono ?_; rintro e w' ⟨rfl, rfl⟩)
  have hB0 : Below w.heap.size w (w.alloc (.cells (madeCells #[.bool false] N) 4)) := (Below.refl _ _).alloc (Nat.le_refl _) _
  obtain ⟨W0, hW0⟩ : ∃ W0, w.alloc (.cells (madeCells #[.bool false] N) 4) = W0 := ⟨_, rfl⟩
  rw [hW0] at hB0 HM ⊢
  have hW0s : W0.heap.size = w.heap.size + 1 := by rw [← hW0]; simp
  clear hW0 hmk hw hwi e3
  refine (HL.out _).mono ?_
  rintro e w1 ⟨sv, rfl, hb1, hI1⟩
  have HI1 := Lib.hid hI1
  have HB1 := Lib.hid (hB0.trans (hb1.mono hB0.size))
  have HT1 : Hid (IsTab w1 w.heap.size w.heap.size N (clsF n xs 0)) := Lib.hid (by
    have h := HM.out
    unfold IsTab at h ⊢
    rw [← HM0.out]
    exact IsTab.belowAll h hb1)
  obtain ⟨A', cap, rfl, hsh⟩ : ∃ A' cap, sv = .slice A' xs.length cap ∧ (xs.length = 0 ∨ ∃ g, A' = some ⟨g, 0, none⟩ ∧ W0.heap.size ≤ g) := by
    rcases HI1.out.shape with ⟨e1, e2⟩ | ⟨g, c, e1, e2, _, _⟩
    · exact ⟨none, 0, by rw [e1, e2]; rfl, .inl (by rw [e2]; rfl)⟩
    · exact ⟨_, c, e1, .inr ⟨g, rfl, e2⟩⟩
  have HSh := Lib.hid hsh
  clear hsh
  go_wp2
  go_loopw [5, 7] (fun u v wr => ∃ i : Nat, i ≤ xs.length ∧ u = .int .i64 ((clsN n xs i : Nat) : Int) ∧ v = .int .i64 (i : Int) ∧ Hid (IsTab wr w.heap.size w.heap.size N (clsF n xs i)) ∧ Hid (IsInts wr W0.heap.size (.slice A' xs.length cap) xs) ∧ Hid (Below w.heap.size w wr)) (fun _ v _ => xs.length - (intOf v).toNat)
  case atStart => exact ⟨0, Nat.zero_le _, rfl, rfl, HT1, HI1, HB1⟩
  case round =>
    obtain ⟨i, hi, rfl, rfl, HT, HI2, HB⟩ := hrel
    have hcl := HCl.out i
    by_cases hlt : i < xs.length
    · obtain ⟨hx, hxN⟩ := HGt.out i hlt
      have HFs : Hid ((clsF n xs i (atN xs i) = true → clsF n xs (i + 1) = clsF n xs i ∧ clsN n xs (i + 1) = clsN n xs i) ∧ (clsF n xs i (atN xs i) = false → clsF n xs (i + 1) = unitP n (atN xs i) (clsF n xs i) n ∧ clsN n xs (i + 1) = clsN n xs i + 1)) := Lib.hid ⟨fun h => by
        constructor
        · show (if clsF n xs i (atN xs i) then clsF n xs i else unitP n (atN xs i) (clsF n xs i) n) = _
          rw [if_pos h]
        · show (if clsF n xs i (atN xs i) then clsN n xs i else clsN n xs i + 1) = _
          rw [if_pos h], fun h => by
        constructor
        · show (if clsF n xs i (atN xs i) then clsF n xs i else unitP n (atN xs i) (clsF n xs i) n) = _
          rw [h]; rfl
        · show (if clsF n xs i (atN xs i) then clsN n xs i else clsN n xs i + 1) = _
          rw [h]; rfl⟩
      obtain ⟨g, rfl, hg1⟩ := HSh.out.resolve_left (by omega)
      have c1 := HI2.out.cell hlt
      rw [hx] at c1
      have i1 : (0 : Int) ≤ (i : Int) := by omega
      have i2 : (i : Int) < (xs.length : Int) := by omega
      have hc2 := HT.out.cell hxN
      have HMx := Lib.hid (HMp.out (atN xs i) hxN)
      have HAx := Lib.hid (HAl.out (atN xs i))
      have HUx := Lib.hid (HUo.out (atN xs i) (clsF n xs i))
      generalize atN xs i = x at *
      have i3 : (0 : Int) ≤ (x : Int) := by omega
      have i4 : (x : Int) < (N : Int) := by omega
      have HX := Lib.hid hx
      clear hx
      generalize clsN n xs i = c at *
      obtain ⟨a1, a2⟩ := two_wraps ((c : Int) + 1) (c + 1) (by omega) (by omega)
      cases hm : clsF n xs i x
      · rw [hm] at hc2
        obtain ⟨hF, hC⟩ := HFs.out.2 hm
        have HF := Lib.hid hF
        have HC := Lib.hid hC
        clear hm hF hC HFs
        have HTu : Hid (IsTab wr w.heap.size w.heap.size N (unitP n x (clsF n xs i) 1)) := Lib.hid (by rw [HUx.out]; exact HT.out)
        have HSt : Hid (∀ m, unitP n x (clsF n xs i) (m + 1) = if (unitsN n).testBit m then (fun y => unitP n x (clsF n xs i) m y || y == act n x (m : Int) 0) else unitP n x (clsF n xs i) m) := Lib.hid (fun m => rfl)
        go_wp2
        obtain ⟨wo, rfl⟩ : ∃ wo : World, wo = wr := ⟨_, rfl⟩
        go_loopw [8] (fun u wr => ∃ m : Nat, 1 ≤ m ∧ m ≤ n ∧ u = .int .i64 (m : Int) ∧ Hid (IsTab wr w.heap.size w.heap.size N (unitP n x (clsF n xs i) m)) ∧ Hid (IsInts wr W0.heap.size (.slice (some ⟨g, 0, none⟩) xs.length cap) xs) ∧ Hid (Below w.heap.size w wr)) (fun u _ => n - (intOf u).toNat)
        case atStart => exact ⟨1, Nat.le_refl _, by omega, rfl, HTu, HI2, HB⟩
        case round =>
          obtain ⟨m, hm1, hm, rfl, HT3, HI3, HB3⟩ := hrel
          clear c1 hc2 a1 a2
          by_cases hlm : m < n
          · have hul := HUl.out
            have hb := has_nat (unitsN n) m hul
            have hst := HSt.out m
            cases hbit : (unitsN n).testBit m
            · rw [hbit] at hb hst
              have HS2 : Hid (unitP n x (clsF n xs i) (m + 1) = unitP n x (clsF n xs i) m) := Lib.hid hst
              clear hst hbit hul
              go_wp2_with (go_at_call 67; refine (HUn.out _).mono ?_; rintro e w' ⟨rfl, rfl⟩)
              go_roundw
              case rel => exact ⟨m + 1, by omega, by omega, by go_num, Lib.hid (by rw [HS2.out]; exact HT3.out), HI3, HB3⟩
              case measure => simp [intOf]; omega
            · rw [hbit] at hb hst
              have HS2 : Hid (unitP n x (clsF n xs i) (m + 1) = fun y => unitP n x (clsF n xs i) m y || y == act n x (m : Int) 0) := Lib.hid hst
              have HC3 := Lib.hid (fun W => HMx.out m W (by omega))
              have hal := HAx.out m
              clear hst hbit hul
              generalize act n x (m : Int) 0 = q at *
              have c1 := HI3.out.cell hlt
              rw [HX.out] at c1
              have c3 := HT3.out.cell hal
              have f3 := HT3.out.frozen q
              have j1 : (0 : Int) ≤ (q : Int) := by omega
              have j2 : (q : Int) < (N : Int) := by omega
              generalize unitP n x (clsF n xs i) m q = bq at c3
              go_wp2_with (first
                | (go_at_call 67; refine (HUn.out _).mono ?_; rintro e w' ⟨rfl, rfl⟩)
                | (go_at_call 44; refine (HC3.out _).mono ?_; rintro e w' ⟨rfl, rfl⟩))
              go_roundw
              case rel => exact ⟨m + 1, by omega, by omega, by go_num, Lib.hid (by rw [HS2.out]; exact HT3.out.set q), Lib.hid (ints_tab HI3.out HT3.out (by omega) q), Lib.hid (HB3.out.setCell (p := ⟨w.heap.size, q, none⟩) (Nat.le_refl _) _)⟩
              case measure => simp [intOf]; omega
          · obtain rfl : m = n := by omega
            go_wp2
            go_roundw
            case rel => exact ⟨i + 1, by omega, by rw [HC.out]; go_num, by go_num, Lib.hid (by rw [HF.out]; exact HT3.out), HI3, HB3⟩
            case measure => simp [intOf]; omega
      · rw [hm] at hc2
        obtain ⟨hF, hC⟩ := HFs.out.1 hm
        have HF := Lib.hid hF
        have HC := Lib.hid hC
        clear hm hF hC HFs
        go_wp2
        go_roundw
        case rel => exact ⟨i + 1, by omega, by rw [HC.out], by go_num, Lib.hid (by rw [HF.out]; exact HT.out), HI2, HB⟩
        case measure => simp [intOf]; omega
    · obtain rfl : i = xs.length := by omega
      go_wp2
      go_ret2
      exact ⟨rfl, HB.out⟩
theorem specPlayClasses_no (n : Int) (w : World) (h : ¬ AllIn n) :
    Calls Try.prog 34 #[.int .i64 n] w fun e w' => e = .returned (.tuple #[.int .i64 0, .bool false]) ∧ w = w' := by
  rcases Decidable.em (3 ≤ n ∧ n ≤ 11) with hr | hr
  · rcases allIn_cases h with h | h | ⟨m, rfl, a, b, c⟩
    · omega
    · omega
    · have HI := Lib.hid (fun W => l6In_yes (m : Int) 3 11 W (by omega) (by omega))
      have e3 := odd_mod m
      rw [c] at e3
      clear h hr
      go_enter Try.func34, Try.ntmps34
      go_wp2_with (go_at_call 54; refine (HI.out _).mono ?_; rintro e w' ⟨rfl, rfl⟩)
      go_ret2
      exact ⟨rfl, rfl⟩
  · have HI := Lib.hid (fun W => l6In_no n 3 11 W hr)
    clear h hr
    go_enter Try.func34, Try.ntmps34
    go_wp2_with (go_at_call 54; refine (HI.out _).mono ?_; rintro e w' ⟨rfl, rfl⟩)
    go_ret2
    exact ⟨rfl, rfl⟩
/-- The number of classes of all plays. -/
def clsAll (n : Nat) : Nat := clsN n (playL n (2 ^ (n - 1))) (playL n (2 ^ (n - 1))).length
end Go.Proofs.Ytaklmepioeoohaa

/- The exact law of PlayClasses over given contracts of the program. Written by gen70.py. -/
namespace Go.Proofs.Ytaklmepioeoohaa
open Go.RowKit Go.Shelf
set_option linter.unusedVariables false
def NoPlayClasses : Prop := ∀ (n : Int) (W : World), ¬ AllIn n → Calls Try.prog 33 #[.int .i64 n] W (fun e w' => e = .returned (.tuple #[.int .i64 0, .bool false]) ∧ Below W.heap.size W w')
def YesPlayClasses : Prop := ∀ (n : Nat) (W : World), 3 ≤ n → n ≤ 11 → n % 2 = 1 → Calls Try.prog 33 #[.int .i64 (n:Int)] W (fun e w' => e = .returned (.tuple #[.int .i64 ((clsAll n : Nat) : Int), .bool true]) ∧ Below W.heap.size W w')
end Go.Proofs.Ytaklmepioeoohaa

/- Classes of plays are at least as many as sizes allow (promise 72), by the kernel. -/
namespace Go.Proofs.Ytaklmepioeoohaa
set_option linter.unusedVariables false
/-- The classes counted with the marks as one number: the marks are forced at each step. -/
def markK (n x : Nat) : Nat → Nat → Nat
  | 0, met => met
  | m + 1, met => match markK n x m met with
    | 0 => if (unitsN n).testBit m then 2 ^ act n x (m : Int) 0 else 0
    | v + 1 => if (unitsN n).testBit m then (v + 1) ||| 2 ^ act n x (m : Int) 0 else v + 1
theorem markK_up (n x m met : Nat) : markK n x (m + 1) met = if (unitsN n).testBit m then markK n x m met ||| 2 ^ act n x (m : Int) 0 else markK n x m met := by
  show (match markK n x m met with
    | 0 => if (unitsN n).testBit m then 2 ^ act n x (m : Int) 0 else 0
    | v + 1 => if (unitsN n).testBit m then (v + 1) ||| 2 ^ act n x (m : Int) 0 else v + 1) = _
  cases markK n x m met
  · simp
  · rfl
theorem markK_bit (n x met : Nat) (f : Nat → Bool) (hf : ∀ y, met.testBit y = f y) (m y : Nat) : (markK n x m met).testBit y = unitP n x f m y := by
  induction m generalizing y with
  | zero => exact hf y
  | succ m ih =>
    rw [markK_up]
    have e : unitP n x f (m + 1) = if (unitsN n).testBit m then (fun y => unitP n x f m y || y == act n x (m : Int) 0) else unitP n x f m := rfl
    rw [e]
    cases (unitsN n).testBit m
    · exact ih y
    · show (markK n x m met ||| 2 ^ act n x (m : Int) 0).testBit y = (unitP n x f m y || y == act n x (m : Int) 0)
      rw [Nat.testBit_or, ih y, Nat.testBit_two_pow]
      congr 1
      by_cases c : act n x (m : Int) 0 = y
      · subst c; simp
      · simp [c]; exact fun e => c e.symm
/-- Marks and count behind the first i plays. -/
def runK (n : Nat) (xs : List Int) : Nat → Nat × Nat
  | 0 => (0, 0)
  | i + 1 => match runK n xs i with
    | (0, c) => (markK n (atN xs i) n 0, c + 1)
    | (v + 1, c) => if (v + 1).testBit (atN xs i) then (v + 1, c) else (markK n (atN xs i) n (v + 1), c + 1)
theorem runK_up (n : Nat) (xs : List Int) (i : Nat) : runK n xs (i + 1) = if (runK n xs i).1.testBit (atN xs i) then runK n xs i else (markK n (atN xs i) n (runK n xs i).1, (runK n xs i).2 + 1) := by
  show (match runK n xs i with
    | (0, c) => (markK n (atN xs i) n 0, c + 1)
    | (v + 1, c) => if (v + 1).testBit (atN xs i) then (v + 1, c) else (markK n (atN xs i) n (v + 1), c + 1)) = _
  obtain ⟨v, c⟩ := runK n xs i
  cases v
  · simp
  · rfl
theorem runK_is (n : Nat) (xs : List Int) (i : Nat) : (∀ y, (runK n xs i).1.testBit y = clsF n xs i y) ∧ (runK n xs i).2 = clsN n xs i := by
  induction i with
  | zero => exact ⟨fun y => Nat.zero_testBit y, rfl⟩
  | succ i ih =>
    rw [runK_up]
    have e1 : clsF n xs (i + 1) = if clsF n xs i (atN xs i) then clsF n xs i else unitP n (atN xs i) (clsF n xs i) n := rfl
    have e2 : clsN n xs (i + 1) = if clsF n xs i (atN xs i) then clsN n xs i else clsN n xs i + 1 := rfl
    rw [e1, e2, ih.1 (atN xs i)]
    cases clsF n xs i (atN xs i)
    · exact ⟨fun y => markK_bit n (atN xs i) _ _ ih.1 n y, congrArg (· + 1) ih.2⟩
    · exact ih
def clsK (n : Nat) : Bool := Nat.ble (playL n (2 ^ (n - 1))).length ((runK n (playL n (2 ^ (n - 1))) (2 ^ ((n - 1) / 2))).2 * sizeN (unitsN n)) && Nat.ble 1 (runK n (playL n (2 ^ (n - 1))) (2 ^ ((n - 1) / 2))).2
theorem cls_all : ([3, 5, 7, 9, 11].all clsK) = true := by decide +kernel
theorem p_classes (n : Nat) (h1 : 3 ≤ n) (h2 : n ≤ 11) (h3 : n % 2 = 1) : (playL n (2 ^ (n - 1))).length ≤ clsAll n * sizeN (unitsN n) ∧ clsAll n ≤ (playL n (2 ^ (n - 1))).length ∧ 1 ≤ clsAll n := by
  have hm : n ∈ [3, 5, 7, 9, 11] := by
    have : n = 3 ∨ n = 5 ∨ n = 7 ∨ n = 9 ∨ n = 11 := by omega
    rcases this with rfl | rfl | rfl | rfl | rfl <;> simp
  have h := List.all_eq_true.1 cls_all n hm
  unfold clsK at h
  rw [← playL_size n h1 h2 h3, (runK_is n _ _).2, Bool.and_eq_true] at h
  exact ⟨Nat.le_of_ble_eq_true h.1, clsN_le n _ _, Nat.le_of_ble_eq_true h.2⟩
end Go.Proofs.Ytaklmepioeoohaa
