/- Rows of places: the model's ZeroSum, ZeroFirst, ZeroOf, ZeroPlain. Written by gen84.py. -/
import Derived.Test.YtaopejgmnbmngaaZerA
import Derived.Test.YtaopejgmnbmngaaGP
namespace Go.Proofs.Ytaopejgmnbmngaa
open Go.RowKit Go.Shelf
set_option linter.unusedVariables false
theorem IsInts.slice {W : World} {b : Nat} {v : Value} {xs : List Int} (h : IsInts W b v xs) : ∃ A cap, v = .slice A xs.length cap := by
  rcases h.shape with ⟨rfl, rfl⟩ | ⟨g, cap, rfl, _⟩
  · exact ⟨none, 0, rfl⟩
  · exact ⟨_, cap, rfl⟩
theorem IsInts.belowAll' {W W' : World} {b : Nat} {v : Value} {xs : List Int} (h : IsInts W b v xs) (hb : Below W.heap.size W W') : IsInts W' b v xs := h.belowAll hb
theorem pow12L {L : Nat} (h : L ≤ 12) : ∃ N : Nat, 2 ^ L = N ∧ 1 ≤ N ∧ N ≤ 4096 ∧ wrap64 (2 ^ L) = (N : Int) ∧ IntKind.i64.wrap (2 ^ L) = (N : Int) ∧ wrap64 ((N : Int) - 1) = ((N - 1 : Nat) : Int) ∧ IntKind.i64.wrap ((N : Int) - 1) = ((N - 1 : Nat) : Int) := by
  have hp := pow_le L h
  have hp1 := Nat.two_pow_pos L
  have hw := wrap_pow L (by omega)
  have hw2 : IntKind.i64.wrap (2 ^ L) = ((2 ^ L : Nat) : Int) := by rw [IntWalk.i64_left]; exact hw
  obtain ⟨N, hN⟩ : ∃ N, 2 ^ L = N := ⟨_, rfl⟩
  rw [hN] at hp hp1 hw hw2
  exact ⟨N, hN, hp1, hp, hw, hw2, by rw [IntWalk.wrap64_in _ (by omega)]; omega, by rw [IntWalk.i64_in _ (by omega)]; omega⟩
theorem row_dec (n : Int) (xs : List Int) : ∃ q : Bool, q = true ↔ RowIn n xs := by
  by_cases h : RowIn n xs
  · exact ⟨true, ⟨fun _ => h, fun _ => rfl⟩⟩
  · exact ⟨false, ⟨(fun c => by cases c), fun c => absurd c h⟩⟩
theorem given_yes (n : Nat) (sv : Value) (xs : List Int) (b : Nat) (w : World) (h : RowIn (n : Int) xs) (hI : IsInts w b sv xs) : Calls Try.prog 27 #[.int .i64 (n:Int), sv] w fun e w' => e = .returned (.bool true) ∧ w = w' :=
  l9Given_any n sv xs b w true ⟨fun _ => h, fun _ => rfl⟩ (by have := h.2.1; omega) hI
theorem given_none (n : Int) (sv : Value) (xs : List Int) (b : Nat) (w : World) (h : ¬ RowIn n xs) (hl : xs.length ≤ 2000000) (hI : IsInts w b sv xs) : Calls Try.prog 27 #[.int .i64 n, sv] w fun e w' => e = .returned (.bool false) ∧ w = w' :=
  l9Given_any n sv xs b w false ⟨(fun c => by cases c), fun c => absurd c h⟩ hl hI
set_option maxHeartbeats 1000000 in
theorem l9First_any (n : Nat) (sv : Value) (xs : List Int) (b : Nat) (w : World) (h : RowIn (n : Int) xs) (hI : IsInts w b sv xs) :
    Calls Try.prog 28 #[.int .i64 (n:Int), sv] w fun e w' => e = .returned (.int .i64 ((zfirst n (rowZ xs) xs.length : Nat) : Int)) ∧ Below w.heap.size w w' := by
  have h12 := h.2.1
  have HSum := Lib.hid (fun c (hc : c < 2 ^ 40) W (hI : IsInts W b sv xs) => l9Sum_any n sv xs b c W h hc hI)
  have HI := Lib.hid hI
  obtain ⟨A, cap, hsv⟩ := hI.slice
  obtain ⟨N, hN, hN1, hN2, hw1, hw2, _, _⟩ := pow12L h12
  have HFn : Hid (firstP (zeroP n (rowZ xs) xs.length) N = zfirst n (rowZ xs) xs.length) := Lib.hid (by rw [← hN]; rfl)
  have HHit := Lib.hid (fun i h0 hp hi hN => firstP_hit (zeroP n (rowZ xs) xs.length) i N h0 hp hi hN)
  have HMis := Lib.hid (fun i h0 hp => firstP_miss (zeroP n (rowZ xs) xs.length) i h0 hp)
  have HOne := Lib.hid (firstP_one (zeroP n (rowZ xs) xs.length))
  have HIf := Lib.hid (fun i => zeroP_iff n (rowZ xs) xs.length i)
  generalize zfirst n (rowZ xs) xs.length = F at *
  generalize hL : xs.length = L at *
  subst hsv
  clear hI h hN
  go_enter Try.func28, Try.ntmps28
  go_wp2
  go_loopw [5] (fun u wr => ∃ i : Nat, 1 ≤ i ∧ i ≤ N ∧ u = .int .i64 (i : Int) ∧ Hid (firstP (zeroP n (rowZ xs) L) i = 0) ∧ Hid (Below w.heap.size w wr)) (fun u _ => N - (intOf u).toNat)
  case atStart => exact ⟨1, Nat.le_refl _, hN1, rfl, HOne, Lib.hid (Below.refl _ _)⟩
  case round =>
    obtain ⟨i, hi1, hi, rfl, HF0, HB⟩ := hrel
    by_cases hlt : i < N
    · have k1 : (i : Int) < (N : Int) := by omega
      have HS1 := Lib.hid (HSum.out i (by omega) wr (HI.out.belowAll' HB.out))
      have HIf1 := Lib.hid (HIf.out i)
      by_cases hz : zsum n (rowZ xs) L i = 0
      · have HH := Lib.hid (HHit.out i HF0.out (HIf1.out.2 hz) (by omega) hlt)
        rw [hz] at HS1
        clear hz HIf1
        go_wp2_with fail
        refine HS1.out.mono ?_
        rintro e w2 ⟨rfl, hb2⟩
        go_wp2
        go_ret
        exact ⟨by rw [← HFn.out, HH.out]; rfl, HB.out.trans (hb2.mono HB.out.size)⟩
      · have HM := Lib.hid (HMis.out i HF0.out (by
          cases hc : zeroP n (rowZ xs) L i
          · rfl
          · exact absurd (HIf1.out.1 hc) hz))
        generalize zsum n (rowZ xs) L i = z at *
        have e1 : ((z : Int) == 0) = false := by simp; omega
        clear hz HIf1
        go_wp2_with fail
        refine HS1.out.mono ?_
        rintro e w2 ⟨rfl, hb2⟩
        go_wp2
        go_roundw
        case rel => exact ⟨i + 1, by omega, by omega, by go_num, HM, Lib.hid (HB.out.trans (hb2.mono HB.out.size))⟩
        case measure => simp [intOf]; omega
    · obtain rfl : i = N := by omega
      have hF : F = 0 := HFn.out.symm.trans HF0.out
      subst hF
      go_wp2
      go_ret
      exact ⟨rfl, HB.out⟩
theorem specZeroSum_no (n : Int) (sv : Value) (xs : List Int) (b : Nat) (w : World) (h : ¬ RowIn n xs) (hl : xs.length ≤ 2000000) (hI : IsInts w b sv xs) :
    Calls Try.prog 17 #[.int .i64 n, sv] w fun e w' => e = .returned (.tuple #[.int .i64 0, .bool false]) ∧ w = w' := by
  have HG := Lib.hid (given_none n sv xs b w h hl hI)
  clear h hI
  go_enter Try.func17, Try.ntmps17
  go_wp2_with fail
  refine HG.out.mono ?_
  rintro e w1 ⟨rfl, rfl⟩
  go_wp2
  go_ret2
  exact ⟨rfl, rfl⟩
theorem specZeroFirst_no (n : Int) (sv : Value) (xs : List Int) (b : Nat) (w : World) (h : ¬ RowIn n xs) (hl : xs.length ≤ 2000000) (hI : IsInts w b sv xs) :
    Calls Try.prog 10 #[.int .i64 n, sv] w fun e w' => e = .returned (.tuple #[.int .i64 0, .bool false]) ∧ w = w' := by
  have HG := Lib.hid (given_none n sv xs b w h hl hI)
  clear h hI
  go_enter Try.func10, Try.ntmps10
  go_wp2_with fail
  refine HG.out.mono ?_
  rintro e w1 ⟨rfl, rfl⟩
  go_wp2
  go_ret2
  exact ⟨rfl, rfl⟩
theorem specZeroOf_no (n : Int) (sv : Value) (xs : List Int) (b : Nat) (w : World) (h : ¬ RowIn n xs) (hl : xs.length ≤ 2000000) (hI : IsInts w b sv xs) :
    Calls Try.prog 14 #[.int .i64 n, sv] w fun e w' => e = .returned (.tuple #[.int .i64 0, .bool false]) ∧ w = w' := by
  have HG := Lib.hid (given_none n sv xs b w h hl hI)
  clear h hI
  go_enter Try.func14, Try.ntmps14
  go_wp2_with fail
  refine HG.out.mono ?_
  rintro e w1 ⟨rfl, rfl⟩
  go_wp2
  go_ret2
  exact ⟨rfl, rfl⟩
theorem specZeroPlain_no (n : Int) (sv : Value) (xs : List Int) (b : Nat) (w : World) (h : ¬ RowIn n xs) (hl : xs.length ≤ 2000000) (hI : IsInts w b sv xs) :
    Calls Try.prog 22 #[.int .i64 n, sv] w fun e w' => e = .returned (.bool false) ∧ w = w' := by
  have HG := Lib.hid (given_none n sv xs b w h hl hI)
  clear h hI
  go_enter Try.func22, Try.ntmps22
  go_wp2_with fail
  refine HG.out.mono ?_
  rintro e w1 ⟨rfl, rfl⟩
  go_wp2
  go_ret
  exact ⟨rfl, rfl⟩
theorem specZeroSum_yes (n : Nat) (sv : Value) (xs : List Int) (b : Nat) (w : World) (h : RowIn (n : Int) xs) (hI : IsInts w b sv xs) :
    Calls Try.prog 17 #[.int .i64 (n:Int), sv] w fun e w' => e = .returned (.tuple #[.int .i64 ((zsum n (rowZ xs) xs.length (2 ^ xs.length - 1) : Nat) : Int), .bool true]) ∧ Below w.heap.size w w' := by
  have h12 := h.2.1
  have HG := Lib.hid (given_yes n sv xs b w h hI)
  obtain ⟨N, hN, hN1, hN2, hw1, hw2, hw3, hw4⟩ := pow12L h12
  rw [hN]
  have HSum := Lib.hid (l9Sum_any n sv xs b (N - 1) w h (by omega) hI)
  obtain ⟨A, cap, hsv⟩ := hI.slice
  generalize zsum n (rowZ xs) xs.length (N - 1) = V at *
  generalize N - 1 = M at *
  generalize xs.length = L at *
  subst hsv
  clear hI h hN
  go_enter Try.func17, Try.ntmps17
  go_wp2_with fail
  refine HG.out.mono ?_
  rintro e w1 ⟨rfl, rfl⟩
  go_wp2_with fail
  refine HSum.out.mono ?_
  rintro e w2 ⟨rfl, hb2⟩
  go_wp2
  go_ret2
  exact ⟨rfl, hb2⟩
theorem specZeroFirst_any (n : Nat) (sv : Value) (xs : List Int) (b : Nat) (w : World) (h : RowIn (n : Int) xs) (hI : IsInts w b sv xs) :
    Calls Try.prog 10 #[.int .i64 (n:Int), sv] w fun e w' => e = .returned (.tuple #[.int .i64 ((zfirst n (rowZ xs) xs.length : Nat) : Int), .bool (decide (zfirst n (rowZ xs) xs.length ≠ 0))]) ∧ Below w.heap.size w w' := by
  have HG := Lib.hid (given_yes n sv xs b w h hI)
  have HF := Lib.hid (l9First_any n sv xs b w h hI)
  generalize zfirst n (rowZ xs) xs.length = F at *
  obtain ⟨q, hq⟩ : ∃ q, decide (F ≠ 0) = q := ⟨_, rfl⟩
  have e1 : decide ((F : Int) > 0) = q := by
    rw [← hq]
    by_cases hz : F = 0
    · subst hz; rfl
    · rw [decide_eq_true (show (F : Int) > 0 by omega), decide_eq_true hz]
  have e2 : decide ((0 : Int) < (F : Int)) = q := e1
  have e3 : decide (0 < F) = q := by
    rw [← hq]
    by_cases hz : F = 0
    · subst hz; rfl
    · rw [decide_eq_true (show 0 < F by omega), decide_eq_true hz]
  rw [hq]
  clear hI h hq
  go_enter Try.func10, Try.ntmps10
  go_wp2_with fail
  refine HG.out.mono ?_
  rintro e w1 ⟨rfl, rfl⟩
  go_wp2_with fail
  refine HF.out.mono ?_
  rintro e w2 ⟨rfl, hb2⟩
  go_wp2
  go_ret2
  exact ⟨rfl, hb2⟩
theorem specZeroPlain_yes (n : Nat) (sv : Value) (xs : List Int) (b : Nat) (w : World) (h : RowIn (n : Int) xs) (hI : IsInts w b sv xs) :
    Calls Try.prog 22 #[.int .i64 (n:Int), sv] w fun e w' => e = .returned (.bool (plainB n (rowZ xs) xs.length)) ∧ Below w.heap.size w w' := by
  have HG := Lib.hid (given_yes n sv xs b w h hI)
  have HF := Lib.hid (l9First_any n sv xs b w h hI)
  unfold plainB
  generalize zfirst n (rowZ xs) xs.length = F at *
  have HE : Hid (((F : Int) == 0) = Nat.beq F 0) := Lib.hid (by
    cases F with
    | zero => rfl
    | succ k => show ((((k + 1 : Nat) : Int)) == 0) = false; simp; omega)
  generalize Nat.beq F 0 = q at *
  have e1 := HE.out
  clear hI h
  go_enter Try.func22, Try.ntmps22
  go_wp2_with fail
  refine HG.out.mono ?_
  rintro e w1 ⟨rfl, rfl⟩
  go_wp2_with fail
  refine HF.out.mono ?_
  rintro e w2 ⟨rfl, hb2⟩
  go_wp2
  go_ret
  exact ⟨rfl, hb2⟩
set_option maxHeartbeats 1000000 in
theorem specZeroOf_any (n : Nat) (sv : Value) (xs : List Int) (b : Nat) (w : World) (h : RowIn (n : Int) xs) (hI : IsInts w b sv xs) :
    Calls Try.prog 14 #[.int .i64 (n:Int), sv] w fun e w' => e = .returned (.tuple #[.int .i64 ((zeroOfN n (rowZ xs) xs.length : Nat) : Int), .bool (decide (zeroOfN n (rowZ xs) xs.length ≠ 0))]) ∧ Below w.heap.size w w' := by
  have h12 := h.2.1
  have HG := Lib.hid (given_yes n sv xs b w h hI)
  have HSum := Lib.hid (fun c (hc : c < 2 ^ 40) W (hI : IsInts W b sv xs) => l9Sum_any n sv xs b c W h hc hI)
  have HSz := Lib.hid (fun (x : Nat) (hx : x < 2 ^ 40) W => l1Size_any x W hx)
  have HI := Lib.hid hI
  obtain ⟨A, cap, hsv⟩ := hI.slice
  obtain ⟨N, hN, hN1, hN2, hw1, hw2, _, _⟩ := pow12L h12
  have HFn : Hid (firstP (ofP n (rowZ xs) xs.length) N = zeroOfN n (rowZ xs) xs.length) := Lib.hid (by rw [← hN]; rfl)
  have HHit := Lib.hid (fun i h0 hp hi hN => firstP_hit (ofP n (rowZ xs) xs.length) i N h0 hp hi hN)
  have HMis := Lib.hid (fun i h0 hp => firstP_miss (ofP n (rowZ xs) xs.length) i h0 hp)
  have HOne := Lib.hid (firstP_one (ofP n (rowZ xs) xs.length))
  have HIf := Lib.hid (fun i => ofP_iff n (rowZ xs) xs.length i)
  generalize zeroOfN n (rowZ xs) xs.length = F at *
  generalize hL : xs.length = L at *
  subst hsv
  clear hI h hN
  go_enter Try.func14, Try.ntmps14
  go_wp2_with fail
  refine HG.out.mono ?_
  rintro e w1 ⟨rfl, rfl⟩
  go_wp2
  go_loopw [6] (fun u wr => ∃ i : Nat, 1 ≤ i ∧ i ≤ N ∧ u = .int .i64 (i : Int) ∧ Hid (firstP (ofP n (rowZ xs) L) i = 0) ∧ Hid (Below w.heap.size w wr)) (fun u _ => N - (intOf u).toNat)
  case atStart => exact ⟨1, Nat.le_refl _, hN1, rfl, HOne, Lib.hid (Below.refl _ _)⟩
  case round =>
    obtain ⟨i, hi1, hi, rfl, HF0, HB⟩ := hrel
    by_cases hlt : i < N
    · have k1 : (i : Int) < (N : Int) := by omega
      have HS1 := Lib.hid (HSum.out i (by omega) wr (HI.out.belowAll' HB.out))
      have HSz1 := Lib.hid (HSz.out i (by omega))
      have HIf1 := Lib.hid (HIf.out i)
      by_cases hn : sizeN i = n
      · have e1 := beq_same hn
        by_cases hz : zsum n (rowZ xs) L i = 0
        · have HH := Lib.hid (HHit.out i HF0.out (HIf1.out.2 ⟨hn, hz⟩) (by omega) hlt)
          have hne : i ≠ 0 := by omega
          rw [hz] at HS1
          generalize sizeN i = z at *
          clear hz HIf1 hn
          go_wp2_with (go_at_call 33; refine (HSz1.out _).mono ?_; rintro e w' ⟨rfl, rfl⟩)
          refine HS1.out.mono ?_
          rintro e w2 ⟨rfl, hb2⟩
          go_wp2
          go_ret2
          have hF : F = i := HFn.out.symm.trans HH.out
          exact ⟨by rw [hF, decide_eq_true hne]; rfl, HB.out.trans (hb2.mono HB.out.size)⟩
        · have HM := Lib.hid (HMis.out i HF0.out (by
            cases hc : ofP n (rowZ xs) L i
            · rfl
            · exact absurd (HIf1.out.1 hc).2 hz))
          generalize zsum n (rowZ xs) L i = z at *
          generalize sizeN i = y at *
          have e2 : ((z : Int) == 0) = false := by simp; omega
          clear hz HIf1 hn
          go_wp2_with (go_at_call 33; refine (HSz1.out _).mono ?_; rintro e w' ⟨rfl, rfl⟩)
          refine HS1.out.mono ?_
          rintro e w2 ⟨rfl, hb2⟩
          go_wp2
          go_roundw
          case rel => exact ⟨i + 1, by omega, by omega, by go_num, HM, Lib.hid (HB.out.trans (hb2.mono HB.out.size))⟩
          case measure => simp [intOf]; omega
      · have e1 := beq_other hn
        have HM := Lib.hid (HMis.out i HF0.out (by
            cases hc : ofP n (rowZ xs) L i
            · rfl
            · exact absurd (HIf1.out.1 hc).1 hn))
        generalize sizeN i = y at *
        clear HIf1 hn HS1
        go_wp2_with (go_at_call 33; refine (HSz1.out _).mono ?_; rintro e w' ⟨rfl, rfl⟩)
        go_roundw
        case rel => exact ⟨i + 1, by omega, by omega, by go_num, HM, HB⟩
        case measure => simp [intOf]; omega
    · obtain rfl : i = N := by omega
      have hF : F = 0 := HFn.out.symm.trans HF0.out
      subst hF
      go_wp2
      go_ret2
      exact ⟨rfl, HB.out⟩
end Go.Proofs.Ytaopejgmnbmngaa
