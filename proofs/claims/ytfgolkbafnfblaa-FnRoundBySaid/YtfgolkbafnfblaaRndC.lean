/- Rounds: the model's test of a list. -/
import Derived.Test.YtfgolkbafnfblaaRndB
import Derived.Test.YtfgolkbafnfblaaGC
namespace Go.Proofs.Ytfgolkbafnfblaa
open Go.RowKit
set_option linter.unusedVariables false
theorem l1Rest_all (n : Nat) (v : Int) (w : World) (h1 : 1 ≤ n) (h2 : n ≤ 12) (hv : -9223372036854775808 ≤ v ∧ v ≤ 9223372036854775807) :
    Calls Try.prog 45 #[.int .i64 v, .int .i64 (n:Int)] w fun e w' => e = .returned (.int .i64 ((rest n v : Nat) : Int)) ∧ w = w' := by
  have hr := rest_eq n v h1
  have hb := rest_in n v h1 h2
  have H := Lib.hid hr
  clear hr
  obtain ⟨hb1, hb2⟩ := hb
  obtain ⟨hv1, hv2⟩ := hv
  go_enter Try.func45, Try.ntmps45
  go_wp2
  go_ret
  exact ⟨ret_int H.out, rfl⟩
theorem wrap64_range (x : Int) : -9223372036854775808 ≤ wrap64 x ∧ wrap64 x ≤ 9223372036854775807 := by unfold wrap64; omega
set_option maxHeartbeats 1000000 in
theorem l5Is_any (n s : Nat) (sv : Value) (xs : List Int) (b : Nat) (w : World) (h1 : 1 ≤ n) (h2 : n ≤ 12) (hs : s < 2 ^ n) (hI : IsInts w b sv xs) :
    Calls Try.prog 36 #[.int .i64 (n:Int), .int .i64 (s:Int), sv] w fun e w' => e = .returned (.bool (isRndB n s xs)) ∧ Below w.heap.size w w' := by
  have hpw := pow_le n h2
  by_cases hlen : xs.length = n
  · rcases hI.shape with ⟨_, rfl⟩ | ⟨g, cap, rfl, hg1, hg2, hg3⟩
    · simp at hlen; omega
    by_cases hn2 : n < 2
    · have hno : ¬ IsRnd n s xs := fun h => by have := h.two; omega
      have HF := Lib.hid (isRnd_no hno)
      have k1 : (n : Int) < 2 := by omega
      have k2 : decide ((n : Int) < 2) = true := decide_eq_true k1
      rw [hlen] at *
      clear hno hI
      go_enter Try.func36, Try.ntmps36
      go_wp2
      go_ret
      exact ⟨ret_bool HF.out.symm, Below.refl _ _⟩
    have c0 := hI.cell (i := 0) (by omega)
    by_cases hz : xs.getD 0 0 = 0
    · rw [hz] at c0
      have HI := Lib.hid hI
      have HZ := Lib.hid hz
      have HL := Lib.hid hlen
      rw [hlen] at HI hg3 ⊢
      have k1 : ¬ (n : Int) < 2 := by omega
      have k2 : decide ((n : Int) < 2) = false := decide_eq_false k1
      have HRe := Lib.hid (fun x hx W => l1Rest_all n x W h1 h2 hx)
      have HIn := Lib.hid (fun z W => l6In_any z 0 ((n : Int) - 1) W)
      have E := IntWalk.i64_in ((n:Int) - 1) ⟨by omega, by omega⟩
      have HAr : Hid (∀ i, arcD n xs i = wrap64 (xs.getD ((i + 1) % n) 0 - xs.getD i 0)) := Lib.hid (fun i => rfl)
      have hwp := wrap_pow n (by omega)
      have h12 : 2 ≤ n := by omega
      clear hI hz hlen hn2
      go_enter Try.func36, Try.ntmps36
      go_wp2
      go_loopw [7, 8] (fun a u wr => ∃ i : Nat, i ≤ n ∧ Hid (Ahead n s xs i) ∧ a = .int .i64 ((seenN xs i : Nat) : Int) ∧ u = .int .i64 (i : Int) ∧ Below w.heap.size w wr) (fun _ u _ => n - (intOf u).toNat)
      case atStart => exact ⟨0, Nat.zero_le _, Lib.hid (ahead_zero n s xs), rfl, rfl, Below.refl _ _⟩
      case round =>
        obtain ⟨i, hi, HA, rfl, rfl, hB⟩ := hrel
        have HB := Lib.hid hB
        have HIr := Lib.hid (HI.out.belowAll hB)
        clear hB
        have hsn := seen_lt n xs i HA.out.inn
        by_cases hlt : i < n
        · have ci := HIr.out.cell (i := i) (by rw [HL.out]; exact hlt)
          have HAd := Lib.hid (HAr.out i)
          have HAs := Lib.hid (fun a b c => ahead_succ HA.out (i := i) a b c)
          have HNo := Lib.hid (fun hb => rnd_arc (s := s) (xs := xs) h2 hlt hb)
          have HSn : Hid (seenN xs i ||| 2 ^ (xs.getD i 0).toNat = seenN xs (i + 1)) := Lib.hid rfl
          have HOut : Hid (¬ (0 ≤ xs.getD i 0 ∧ xs.getD i 0 ≤ (n : Int) - 1) → ¬ IsRnd n s xs) := Lib.hid (fun h hr => h ⟨hr.lo i hlt, by have := hr.hi i hlt; omega⟩)
          have hJ : (i + 1) % n < n := Nat.mod_lt _ (by omega)
          have eJ : Int.tmod ((i : Int) + 1) (n : Int) = (((i + 1) % n : Nat) : Int) := by rw [Int.ofNat_tmod]; rfl
          have cj := HIr.out.cell (i := (i + 1) % n) (by rw [HL.out]; exact hJ)
          generalize (i + 1) % n = J at *
          generalize xs.getD J 0 = zj at *
          generalize xs.getD i 0 = z at *
          generalize seenN xs i = S at *
          have i1 : (0 : Int) ≤ (i : Int) := by omega
          have i2 : (i : Int) < (n : Int) := by omega
          have i3 : (0 : Int) ≤ (J : Int) := by omega
          have i4 : (J : Int) < (n : Int) := by omega
          have i5 : ((n : Int) = 0) = False := by simp; omega
          have i6 : ((n : Int) == 0) = false := by simp; omega
          have HIz := Lib.hid (HIn.out z)
          by_cases hz : 0 ≤ z ∧ z ≤ (n : Int) - 1
          · rw [decide_eq_true hz] at HIz
            obtain ⟨v, rfl⟩ : ∃ v : Nat, z = (v : Int) := ⟨z.toNat, by omega⟩
            have hv : v < n := by omega
            have hwi := with_nat S v (by omega) (by omega)
            obtain ⟨D, hD⟩ : ∃ D, wrap64 (zj - (v : Int)) = D := ⟨_, rfl⟩
            have hDr := wrap64_range (zj - (v : Int))
            rw [hD] at HAd hDr
            have hD2 : IntKind.i64.wrap (zj - (v : Int)) = D := (by rw [IntWalk.i64_left]; exact hD)
            have HRr := Lib.hid (HRe.out D hDr)
            rw [HAd.out] at HAs HNo
            have hrl := rest_lt n D h1
            have hbt := has_nat0 s (rest n D) (by omega)
            generalize rest n D = r at *
            have hr64 : min r 64 = r := by omega
            cases hb : s.testBit r
            · rw [hb] at hbt
              have HF := Lib.hid (isRnd_no (HNo.out hb))
              clear HNo HAs HOut hb hz
              go_wp2_with (go_at_call 43; refine (HIz.out _).mono ?_; rintro e w' ⟨rfl, rfl⟩)
              go_quiet ((go_at_call 45; exact Calls.quiet_of_same ((HRr.out _).mono fun _ _ h => ⟨h.1, h.2.symm⟩)))
              go_wp2
              go_ret
              exact ⟨ret_bool HF.out.symm, below_drewN HB.out _⟩
            · rw [hb] at hbt
              have HA2 := Lib.hid (HAs.out hz.1 (by omega) hb)
              clear HNo HAs HOut hb hz
              go_wp2_with (go_at_call 43; refine (HIz.out _).mono ?_; rintro e w' ⟨rfl, rfl⟩)
              go_quiet ((go_at_call 45; exact Calls.quiet_of_same ((HRr.out _).mono fun _ _ h => ⟨h.1, h.2.symm⟩)))
              go_wp2
              go_roundw
              case rel => exact ⟨i + 1, by omega, HA2.out, by rw [← HSn.out]; rfl, by go_num, below_drewN HB.out _⟩
              case measure => simp [intOf]; omega
          · rw [decide_eq_false hz] at HIz
            have HF := Lib.hid (isRnd_no (HOut.out hz))
            clear HNo HAs HOut hz
            go_wp2_with (go_at_call 43; refine (HIz.out _).mono ?_; rintro e w' ⟨rfl, rfl⟩)
            go_ret
            exact ⟨ret_bool HF.out.symm, HB.out⟩
        · obtain rfl : i = n := by omega
          have hend := rnd_end (s := s) h2 HL.out h12 HZ.out HA.out
          have hp1 := Nat.two_pow_pos i
          generalize seenN xs i = S at *
          generalize 2 ^ i = N at *
          have hw1 : IntKind.i64.wrap ((N : Int) - 1) = (N : Int) - 1 := IntWalk.i64_in _ ⟨by omega, by omega⟩
          have hw2 : wrap64 ((N : Int) - 1) = (N : Int) - 1 := IntWalk.wrap64_in _ ⟨by omega, by omega⟩
          by_cases hS : S = N - 1
          · have HF := Lib.hid (isRnd_yes (hend.2 hS))
            have e1 : ((S : Int) == (N : Int) - 1) = true := by simp; omega
            clear hend hS
            go_wp2
            go_ret
            exact ⟨ret_bool HF.out.symm, HB.out⟩
          · have HF := Lib.hid (isRnd_no (fun h => hS (hend.1 h)))
            have e1 : ((S : Int) == (N : Int) - 1) = false := by simp; omega
            clear hend hS
            go_wp2
            go_ret
            exact ⟨ret_bool HF.out.symm, HB.out⟩
    · have hno : ¬ IsRnd n s xs := fun h => hz h.zero
      have HF := Lib.hid (isRnd_no hno)
      have k1 : ¬ (n : Int) < 2 := by omega
      have k2 : decide ((n : Int) < 2) = false := decide_eq_false k1
      rw [hlen] at hg3 ⊢
      generalize xs.getD 0 0 = z at *
      have e1 : (z == 0) = false := by simpa using hz
      have e2 : (z != 0) = true := by simpa using hz
      have e3 : (0 : Int) < (n : Int) := by omega
      clear hno hI hz hlen
      go_enter Try.func36, Try.ntmps36
      go_wp2
      go_ret
      exact ⟨ret_bool HF.out.symm, Below.refl _ _⟩
  · have hno : ¬ IsRnd n s xs := fun h => hlen h.len
    have HF := Lib.hid (isRnd_no hno)
    rcases hI.shape with ⟨rfl, rfl⟩ | ⟨g, cap, rfl, hg1, hg2, hg3⟩
    · have e1 : ((0 : Int) == (n : Int)) = false := by simp; omega
      have e2 : ((0 : Int) != (n : Int)) = true := by simp; omega
      clear hno hI hlen
      go_enter Try.func36, Try.ntmps36
      go_wp2
      go_ret
      exact ⟨ret_bool HF.out.symm, Below.refl _ _⟩
    · generalize xs.length = L at *
      have e1 : ((L : Int) == (n : Int)) = false := by simp; omega
      have e2 : ((L : Int) != (n : Int)) = true := by simp; omega
      clear hno hI hlen
      go_enter Try.func36, Try.ntmps36
      go_wp2
      go_ret
      exact ⟨ret_bool HF.out.symm, Below.refl _ _⟩
end Go.Proofs.Ytfgolkbafnfblaa
