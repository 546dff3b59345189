/- Differences of sets: the model's even and thin sets, and sets that are found. Written by gen53.py. -/
import Derived.Test.YtaomjhkodohkcaaDifA
import Derived.Test.YtaomjhkodohkcaaDifP
namespace Go.Proofs.Ytaomjhkodohkcaa
open Go.RowKit Go.Shelf
set_option linter.unusedVariables false
/-- The number of ways of an even set, 0 for others. -/
def evZ (n s : Nat) : Nat := if evenB n s then difN n s 1 else 0
theorem neg_one_wrap : IntKind.i64.wrap (-1) = -1 := by decide
theorem bne_cast {a b : Nat} (h : a ≠ b) : ((a : Int) != (b : Int)) = true := by simp; omega
theorem bne_same {a b : Nat} (h : a = b) : ((a : Int) != (b : Int)) = false := by simp [h]
theorem beq_same {a b : Nat} (h : a = b) : ((a : Int) == (b : Int)) = true := by simp [h]
theorem beq_other {a b : Nat} (h : a ≠ b) : ((a : Int) == (b : Int)) = false := by simp; omega
set_option maxHeartbeats 1000000 in
theorem l7Even_any (n s : Nat) (w : World) (h1 : 2 ≤ n) (h2 : n ≤ 12) (hs : s < 2 ^ n) :
    Calls Try.prog 46 #[.int .i64 (n:Int), .int .i64 (s:Int)] w fun e w' => e = .returned (.int .i64 (evV n s)) ∧ Below w.heap.size w w' := by
  have HT := Lib.hid (fun W => l7Table_any n s W (by omega) h2 hs)
  have HG := Lib.hid (fun i hi => difL_get n s i hi)
  have HLen := Lib.hid (difL_len n s)
  have HYes : Hid ((∀ i, 2 ≤ i → i < n → difN n s i = difN n s 1) → evV n s = ((difN n s 1 : Nat) : Int)) := Lib.hid (fun h => by
    unfold evV evenB
    rw [ev_of n s n h, if_pos rfl])
  have HNo : Hid (∀ i, 2 ≤ i → i < n → difN n s i ≠ difN n s 1 → evV n s = -1) := Lib.hid (fun i h1 h2 h3 => by
    unfold evV evenB
    rw [ev_not n s n i h1 h2 h3]; rfl)
  clear hs
  go_enter Try.func46, Try.ntmps46
  go_wp2_with fail
  refine (HT.out _).mono ?_
  rintro e w1 ⟨rfl, hb1, hI1⟩
  have HI1 := Lib.hid hI1
  have HB1 := Lib.hid hb1
  clear hI1 hb1
  go_wp2
  go_loopw [6] (fun u wr => ∃ v : Nat, 2 ≤ v ∧ v ≤ n ∧ u = .int .i64 (v : Int) ∧ Hid (∀ i, 2 ≤ i → i < v → difN n s i = difN n s 1) ∧ Hid (IsInts wr w.heap.size (.slice (some ⟨w.heap.size, 0, none⟩) n n) (difL n s)) ∧ Hid (Below w.heap.size w wr)) (fun u _ => n - (intOf u).toNat)
  case atStart => exact ⟨2, Nat.le_refl _, h1, rfl, Lib.hid (fun i a b => absurd b (by omega)), HI1, HB1⟩
  case round =>
    obtain ⟨v, hv1, hv, rfl, HAll, HI, HB⟩ := hrel
    have c1 := HI.out.cell (i := 1) (by rw [HLen.out]; omega)
    rw [HG.out 1 (by omega)] at c1
    have i0 : (1 : Int) < (n : Int) := by omega
    by_cases hlt : v < n
    · have cv := HI.out.cell (i := v) (by rw [HLen.out]; exact hlt)
      rw [HG.out v hlt] at cv
      have i1 : (0 : Int) ≤ (v : Int) := by omega
      have i2 : (v : Int) < (n : Int) := by omega
      by_cases he : difN n s v = difN n s 1
      · have HAll2 : Hid (∀ i, 2 ≤ i → i < v + 1 → difN n s i = difN n s 1) := Lib.hid (fun i a b => by
          by_cases c : i = v
          · subst c; exact he
          · exact HAll.out i a (by omega))
        have e1 := beq_same he
        have e2 := bne_same he
        generalize difN n s v = x at *
        clear he HAll
        go_wp2
        go_region
        go_wp2
        go_roundw
        case rel => exact ⟨v + 1, by omega, by omega, by go_num, HAll2, HI, Lib.hid HB.out.drew⟩
        case measure => simp [intOf]; omega
      · have HF := Lib.hid (HNo.out v hv1 hlt he)
        have e1 := beq_other he
        have e2 := bne_cast he
        generalize difN n s v = x at *
        clear he HAll
        go_wp2
        go_region
        go_wp2
        go_ret
        exact ⟨ret_int HF.out.symm, HB.out.drew⟩
    · obtain rfl : v = n := by omega
      have HF := Lib.hid (HYes.out HAll.out)
      generalize difN v s 1 = x at *
      go_wp2
      go_ret
      exact ⟨ret_int HF.out.symm, HB.out⟩
set_option maxHeartbeats 1000000 in
theorem l7Thin_any (n s : Nat) (w : World) (h1 : 1 ≤ n) (h2 : n ≤ 12) (hs : s < 2 ^ n) :
    Calls Try.prog 53 #[.int .i64 (n:Int), .int .i64 (s:Int)] w fun e w' => e = .returned (.bool (thinB n s)) ∧ Below w.heap.size w w' := by
  have HT := Lib.hid (fun W => l7Table_any n s W h1 h2 hs)
  have HG := Lib.hid (fun i hi => difL_get n s i hi)
  have HLen := Lib.hid (difL_len n s)
  have HYes : Hid ((∀ i, 1 ≤ i → i < n → difN n s i ≤ 1) → thinB n s = true) := Lib.hid (fun h => th_of n s n h)
  have HNo : Hid (∀ i, 1 ≤ i → i < n → ¬ difN n s i ≤ 1 → thinB n s = false) := Lib.hid (fun i h1 h2 h3 => th_not n s n i h1 h2 h3)
  clear hs
  generalize thinB n s = b at *
  go_enter Try.func53, Try.ntmps53
  go_wp2_with fail
  refine (HT.out _).mono ?_
  rintro e w1 ⟨rfl, hb1, hI1⟩
  have HI1 := Lib.hid hI1
  have HB1 := Lib.hid hb1
  clear hI1 hb1
  go_wp2
  go_loopw [6] (fun u wr => ∃ v : Nat, 1 ≤ v ∧ v ≤ n ∧ u = .int .i64 (v : Int) ∧ Hid (∀ i, 1 ≤ i → i < v → difN n s i ≤ 1) ∧ Hid (IsInts wr w.heap.size (.slice (some ⟨w.heap.size, 0, none⟩) n n) (difL n s)) ∧ Hid (Below w.heap.size w wr)) (fun u _ => n - (intOf u).toNat)
  case atStart => exact ⟨1, Nat.le_refl _, h1, rfl, Lib.hid (fun i a b => absurd b (by omega)), HI1, HB1⟩
  case round =>
    obtain ⟨v, hv1, hv, rfl, HAll, HI, HB⟩ := hrel
    by_cases hlt : v < n
    · have cv := HI.out.cell (i := v) (by rw [HLen.out]; exact hlt)
      rw [HG.out v hlt] at cv
      have i1 : (0 : Int) ≤ (v : Int) := by omega
      have i2 : (v : Int) < (n : Int) := by omega
      by_cases he : difN n s v ≤ 1
      · have HAll2 : Hid (∀ i, 1 ≤ i → i < v + 1 → difN n s i ≤ 1) := Lib.hid (fun i a b => by
          by_cases c : i = v
          · subst c; exact he
          · exact HAll.out i a (by omega))
        have e1 : ¬ (1 : Int) < ((difN n s v : Nat) : Int) := by omega
        generalize difN n s v = x at *
        clear he HAll
        go_wp2
        go_roundw
        case rel => exact ⟨v + 1, by omega, by omega, by go_num, HAll2, HI, HB⟩
        case measure => simp [intOf]; omega
      · have HF := Lib.hid (HNo.out v hv1 hlt he)
        have e1 : (1 : Int) < ((difN n s v : Nat) : Int) := by omega
        generalize difN n s v = x at *
        clear he HAll
        go_wp2
        go_ret
        exact ⟨ret_bool HF.out.symm, HB.out⟩
    · obtain rfl : v = n := by omega
      have HF := Lib.hid (HYes.out HAll.out)
      go_wp2
      go_ret
      exact ⟨ret_bool HF.out.symm, HB.out⟩
theorem specDiffTable_yes (n s : Nat) (w : World) (h1 : 1 ≤ n) (h2 : n ≤ 12) (hs : s < 2 ^ n) :
    Calls Try.prog 13 #[.int .i64 (n:Int), .int .i64 (s:Int)] w (ListRes w (difL n s) true) := by
  have HI := Lib.hid (fun W => specIn_yes n s W h1 h2 hs)
  have HT := Lib.hid (fun W => l7Table_any n s W h1 h2 hs)
  clear hs
  go_enter Try.func13, Try.ntmps13
  go_wp2_with (first
    | (go_at_call 41; refine (HI.out _).mono ?_; rintro e w' ⟨rfl, rfl⟩)
    | (go_at_call 42; refine (HT.out _).mono ?_; rintro e w2 ⟨rfl, hb2, hI2⟩; have HB2 := Lib.hid hb2; have HI2 := Lib.hid hI2; clear hb2 hI2))
  go_ret2
  exact ⟨_, rfl, HB2.out, HI2.out⟩
theorem specDiffTable_no (n s : Int) (w : World) (h : NotIn n s) :
    Calls Try.prog 13 #[.int .i64 n, .int .i64 s] w (ListRes w [] false) := by
  have HI := Lib.hid (fun W => specIn_no n s W h)
  clear h
  go_enter Try.func13, Try.ntmps13
  go_wp2_with (go_at_call 41; refine (HI.out _).mono ?_; rintro e w' ⟨rfl, rfl⟩)
  go_ret2
  exact ⟨_, rfl, (Below.refl _ _).alloc (Nat.le_refl _) _, World.ownsRow_made w #[] 0 (Nat.le_refl _) (by simp [maxLen]) rfl⟩
theorem specDiffEven_any (n s : Nat) (w : World) (h1 : 2 ≤ n) (h2 : n ≤ 12) (hs : s < 2 ^ n) :
    Calls Try.prog 20 #[.int .i64 (n:Int), .int .i64 (s:Int)] w fun e w' => e = .returned (.tuple #[.int .i64 ((evZ n s : Nat) : Int), .bool (evenB n s)]) ∧ Below w.heap.size w w' := by
  have HI := Lib.hid (fun W => specIn_yes n s W (by omega) h2 hs)
  have he := fun W => l7Even_any n s W h1 h2 hs
  have k1 : ¬ (n : Int) < 2 := by omega
  have k2 : decide ((n : Int) < 2) = false := decide_eq_false k1
  unfold evZ
  unfold evV at he
  generalize difN n s 1 = x at *
  cases hb : evenB n s
  · rw [hb] at he
    have HE := Lib.hid he
    clear he hs hb
    go_enter Try.func20, Try.ntmps20
    go_wp2_with (first
      | (go_at_call 41; refine (HI.out _).mono ?_; rintro e w' ⟨rfl, rfl⟩)
      | (go_at_call 46; refine (HE.out _).mono ?_; rintro e w2 ⟨rfl, hb2⟩))
    go_ret2
    exact ⟨rfl, hb2⟩
  · rw [hb] at he
    have HE := Lib.hid he
    have k3 : ¬ ((x : Nat) : Int) < 0 := by omega
    clear he hs hb
    go_enter Try.func20, Try.ntmps20
    go_wp2_with (first
      | (go_at_call 41; refine (HI.out _).mono ?_; rintro e w' ⟨rfl, rfl⟩)
      | fail)
    refine (HE.out _).mono ?_
    rintro e w2 ⟨rfl, hb2⟩
    have HB2 := Lib.hid hb2
    clear hb2
    simp only [if_true]
    go_wp2_with fail
    refine (HE.out _).mono ?_
    rintro e w3 ⟨rfl, hb3⟩
    have HB3 := Lib.hid (HB2.out.trans (hb3.mono HB2.out.size))
    clear hb3
    go_wp2
    go_ret2
    exact ⟨rfl, HB3.out⟩
theorem specDiffEven_no (n s : Int) (w : World) (h : NotIn n s ∨ n < 2) :
    Calls Try.prog 20 #[.int .i64 n, .int .i64 s] w fun e w' => e = .returned (.tuple #[.int .i64 0, .bool false]) ∧ w = w' := by
  by_cases hn : NotIn n s
  · have HI := Lib.hid (fun W => specIn_no n s W hn)
    clear h hn
    go_enter Try.func20, Try.ntmps20
    go_wp2_with (go_at_call 41; refine (HI.out _).mono ?_; rintro e w' ⟨rfl, rfl⟩)
    go_ret2
    exact ⟨rfl, rfl⟩
  · obtain ⟨m, t, rfl, rfl, h1, h2, h3⟩ := not_notIn hn
    have HI := Lib.hid (fun W => specIn_yes m t W h1 h2 h3)
    have k1 : (m : Int) < 2 := h.resolve_left hn
    have k2 : decide ((m : Int) < 2) = true := decide_eq_true k1
    clear h hn
    go_enter Try.func20, Try.ntmps20
    go_wp2_with (go_at_call 41; refine (HI.out _).mono ?_; rintro e w' ⟨rfl, rfl⟩)
    go_ret2
    exact ⟨rfl, rfl⟩
theorem specDiffThin_yes (n s : Nat) (w : World) (h1 : 1 ≤ n) (h2 : n ≤ 12) (hs : s < 2 ^ n) :
    Calls Try.prog 26 #[.int .i64 (n:Int), .int .i64 (s:Int)] w fun e w' => e = .returned (.bool (thinB n s)) ∧ Below w.heap.size w w' := by
  have HI := Lib.hid (fun W => specIn_yes n s W h1 h2 hs)
  have HT := Lib.hid (fun W => l7Thin_any n s W h1 h2 hs)
  clear hs
  go_enter Try.func26, Try.ntmps26
  go_wp2_with (first
    | (go_at_call 41; refine (HI.out _).mono ?_; rintro e w' ⟨rfl, rfl⟩)
    | (go_at_call 53; refine (HT.out _).mono ?_; rintro e w2 ⟨rfl, hb2⟩))
  go_ret
  exact ⟨rfl, hb2⟩
theorem specDiffThin_no (n s : Int) (w : World) (h : NotIn n s) :
    Calls Try.prog 26 #[.int .i64 n, .int .i64 s] w fun e w' => e = .returned (.bool false) ∧ w = w' := by
  have HI := Lib.hid (fun W => specIn_no n s W h)
  clear h
  go_enter Try.func26, Try.ntmps26
  go_wp2_with (go_at_call 41; refine (HI.out _).mono ?_; rintro e w' ⟨rfl, rfl⟩)
  go_ret
  exact ⟨rfl, rfl⟩
theorem firstP_hit (p : Nat → Bool) (i N : Nat) (h0 : firstP p i = 0) (hp : p i = true) (hi : i ≠ 0) (hN : i < N) : firstP p N = i := by
  obtain ⟨d, rfl⟩ : ∃ d, N = i + 1 + d := ⟨N - (i + 1), by omega⟩
  clear hN
  induction d with
  | zero =>
    show (if firstP p i = 0 then (if p i then i else 0) else firstP p i) = i
    rw [if_pos h0, if_pos hp]
  | succ d ih =>
    show (if firstP p (i + 1 + d) = 0 then (if p (i + 1 + d) then i + 1 + d else 0) else firstP p (i + 1 + d)) = i
    rw [ih, if_neg hi]
theorem firstP_miss (p : Nat → Bool) (i : Nat) (h0 : firstP p i = 0) (hp : p i = false) : firstP p (i + 1) = 0 := by
  show (if firstP p i = 0 then (if p i then i else 0) else firstP p i) = 0
  rw [if_pos h0, hp]
  rfl
theorem firstP_one (p : Nat → Bool) : firstP p 1 = 0 := by
  show (if (0 : Nat) = 0 then (if p 0 then 0 else 0) else 0) = 0
  cases p 0 <;> rfl
set_option maxHeartbeats 1000000 in
theorem specDiffFind_any (n k : Nat) (w : World) (h1 : 2 ≤ n) (h2 : n ≤ 12) (hk1 : 1 ≤ k) (hk2 : k ≤ n - 1) :
    Calls Try.prog 23 #[.int .i64 (n:Int), .int .i64 (k:Int)] w fun e w' => e = .returned (.tuple #[.int .i64 ((findN n k : Nat) : Int), .bool (decide (findN n k ≠ 0))]) ∧ Below w.heap.size w w' := by
  have hp := pow_le n h2
  have hp1 := Nat.two_pow_pos n
  have HI := Lib.hid (fun W => specIn_yes n 0 W (by omega) h2 hp1)
  have HK := Lib.hid (fun W => l6In_yes (k : Int) 1 ((n : Int) - 1) W (by omega) (by omega))
  have HSz := Lib.hid (fun (x : Nat) (hx : x < 2 ^ n) W => l1Size_any x W (by omega))
  have HEv := Lib.hid (fun x hx W => l7Even_any n x W h1 h2 hx)
  have hwp := wrap_pow n (by omega)
  obtain ⟨s1, s2⟩ := sub_wraps n 1 (by omega) (by omega)
  have HIf := Lib.hid (fun i => evk_iff n k i)
  have HHit := Lib.hid (fun i h0 hp hi hN => firstP_hit (evkP n k) i (2 ^ n) h0 hp hi hN)
  have HMis := Lib.hid (fun i h0 hp => firstP_miss (evkP n k) i h0 hp)
  have HOne := Lib.hid (firstP_one (evkP n k))
  have HFn : Hid (firstP (evkP n k) (2 ^ n) = findN n k) := Lib.hid rfl
  generalize findN n k = F at *
  obtain ⟨N, hN⟩ : ∃ N, 2 ^ n = N := ⟨_, rfl⟩
  rw [hN] at hp hp1 HSz HEv hwp HHit HFn
  have hwi : IntKind.i64.wrap (2 ^ n) = (N : Int) := by rw [IntWalk.i64_left]; exact hwp
  clear hN
  go_enter Try.func23, Try.ntmps23
  go_wp2_with (first
    | (go_at_call 41; refine (HI.out _).mono ?_; rintro e w' ⟨rfl, rfl⟩)
    | (go_at_call 50; refine (HK.out _).mono ?_; rintro e w' ⟨rfl, rfl⟩))
  go_loopw [6] (fun u wr => ∃ i : Nat, 1 ≤ i ∧ i ≤ N ∧ u = .int .i64 (i : Int) ∧ Hid (firstP (evkP n k) i = 0) ∧ Hid (Below w.heap.size w wr)) (fun u _ => N - (intOf u).toNat)
  case atStart => exact ⟨1, Nat.le_refl _, hp1, rfl, HOne, Lib.hid (Below.refl _ _)⟩
  case round =>
    obtain ⟨i, hi1, hi, rfl, HF0, HB⟩ := hrel
    by_cases hlt : i < N
    · have k1 : (i : Int) < (N : Int) := by omega
      have HSz1 := Lib.hid (HSz.out i hlt)
      have hev := HEv.out i hlt
      have HIf1 := Lib.hid (HIf.out i)
      by_cases hz : sizeN i = k
      · have e1 := beq_same hz
        generalize sizeN i = z at *
        unfold evV at hev
        generalize difN n i 1 = x at *
        cases hb : evenB n i
        · rw [hb] at hev
          have HEv1 := Lib.hid hev
          have HM := Lib.hid (HMis.out i HF0.out (by
            cases hc : evkP n k i
            · rfl
            · rw [hb] at HIf1
              exact absurd (HIf1.out.1 hc).2 (by simp)))
          clear hev hb HIf1 hz
          go_wp2_with (first
            | (go_at_call 51; refine (HSz1.out _).mono ?_; rintro e w' ⟨rfl, rfl⟩)
            | (go_at_call 46; refine (HEv1.out _).mono ?_; rintro e w2 ⟨rfl, hb2⟩))
          go_roundw
          case rel => exact ⟨i + 1, by omega, by omega, by go_num, HM, Lib.hid (HB.out.trans (hb2.mono HB.out.size))⟩
          case measure => simp [intOf]; omega
        · rw [hb] at hev
          have HEv1 := Lib.hid hev
          have HH := Lib.hid (HHit.out i HF0.out (HIf1.out.2 ⟨hz, hb⟩) (by omega) hlt)
          have hne : i ≠ 0 := by omega
          have k3 : (0 : Int) ≤ ((x : Nat) : Int) := by omega
          clear hev hb HIf1 hz
          go_wp2_with (first
            | (go_at_call 51; refine (HSz1.out _).mono ?_; rintro e w' ⟨rfl, rfl⟩)
            | fail)
          refine (HEv1.out _).mono ?_
          rintro e w2 ⟨rfl, hb2⟩
          simp only [if_true]
          go_wp2
          go_ret2
          have hF : F = i := HFn.out.symm.trans HH.out
          exact ⟨by rw [hF, decide_eq_true hne]; rfl, HB.out.trans (hb2.mono HB.out.size)⟩
      · have e1 := beq_other hz
        have HM := Lib.hid (HMis.out i HF0.out (by
            cases hc : evkP n k i
            · rfl
            · exact absurd (HIf1.out.1 hc).1 hz))
        generalize sizeN i = z at *
        clear hev HIf1 hz
        go_wp2_with (go_at_call 51; refine (HSz1.out _).mono ?_; rintro e w' ⟨rfl, rfl⟩)
        go_roundw
        case rel => exact ⟨i + 1, by omega, by omega, by go_num, HM, HB⟩
        case measure => simp [intOf]; omega
    · obtain rfl : i = N := by omega
      have hF : F = 0 := HFn.out.symm.trans HF0.out
      subst hF
      go_wp2
      go_ret2
      exact ⟨rfl, HB.out⟩
set_option maxHeartbeats 400000 in
theorem specDiffFind_no (n k : Int) (w : World) (h : ¬ (1 ≤ n ∧ n ≤ 12 ∧ 1 ≤ k ∧ k ≤ n - 1)) :
    Calls Try.prog 23 #[.int .i64 n, .int .i64 k] w fun e w' => e = .returned (.tuple #[.int .i64 0, .bool false]) ∧ w = w' := by
  by_cases hn : 1 ≤ n ∧ n ≤ 12
  · obtain ⟨m, rfl⟩ : ∃ m : Nat, n = (m : Int) := ⟨n.toNat, by omega⟩
    have HI := Lib.hid (fun W => specIn_yes m 0 W (by omega) (by omega) (Nat.two_pow_pos m))
    have HK := Lib.hid (fun W => l6In_no k 1 ((m : Int) - 1) W (fun c => h ⟨hn.1, hn.2, c.1, c.2⟩))
    have s1 := IntWalk.i64_in ((m:Int) - 1) ⟨by omega, by omega⟩
    have s2 := IntWalk.wrap64_in ((m:Int) - 1) (by omega)
    clear h hn
    go_enter Try.func23, Try.ntmps23
    go_wp2_with (first
      | (go_at_call 41; refine (HI.out _).mono ?_; rintro e w' ⟨rfl, rfl⟩)
      | (go_at_call 50; refine (HK.out _).mono ?_; rintro e w' ⟨rfl, rfl⟩))
    go_ret2
    exact ⟨rfl, rfl⟩
  · have HI := Lib.hid (fun W => specIn_no n 0 W (fun hh => hn ⟨hh.1, hh.2.1⟩))
    clear h hn
    go_enter Try.func23, Try.ntmps23
    go_wp2_with (go_at_call 41; refine (HI.out _).mono ?_; rintro e w' ⟨rfl, rfl⟩)
    go_ret2
    exact ⟨rfl, rfl⟩
end Go.Proofs.Ytaomjhkodohkcaa
