/- Rows of places: the model's test of a row, its sums and first choices. Written by gen83.py. -/
import Derived.Test.YtkddaecfljiehaaZerR
import Derived.Test.YtkddaecfljiehaaGG
import Derived.Test.YtkddaecfljiehaaGP
namespace Go.Proofs.Ytkddaecfljiehaa
open Go.RowKit Go.Shelf
set_option linter.unusedVariables false
theorem ringIn_dec (n : Int) (W : World) : Calls Try.prog 37 #[.int .i64 n, .int .i64 0] W fun e w' => e = .returned (.bool (decide (1 ≤ n ∧ n ≤ 12))) ∧ W = w' := by
  by_cases h : 1 ≤ n ∧ n ≤ 12
  · obtain ⟨m, rfl⟩ : ∃ m : Nat, n = (m : Int) := ⟨n.toNat, by omega⟩
    rw [decide_eq_true h]
    exact specIn_yes m 0 W (by omega) (by omega) (Nat.two_pow_pos m)
  · rw [decide_eq_false h]
    exact specIn_no n 0 W (fun hh => h ⟨hh.1, hh.2.1⟩)
theorem given_no {n : Int} {xs : List Int} {q : Bool} (hq : q = true ↔ RowIn n xs) (h : ¬ RowIn n xs) : q = false := by
  cases hc : q
  · rfl
  · exact absurd (hq.1 hc) h
set_option maxHeartbeats 1000000 in
/-- Whether there is a row. -/
theorem l9Given_any (n : Int) (sv : Value) (xs : List Int) (b : Nat) (w : World) (q : Bool) (hq : q = true ↔ RowIn n xs) (hl : xs.length ≤ 2000000) (hI : IsInts w b sv xs) :
    Calls Try.prog 25 #[.int .i64 n, sv] w fun e w' => e = .returned (.bool q) ∧ w = w' := by
  obtain ⟨m, hm⟩ : ∃ m, wrap64 (n - 1) = m := ⟨_, rfl⟩
  have hm2 : IntKind.i64.wrap (n - 1) = m := by rw [IntWalk.i64_left]; exact hm
  have HMn : Hid (1 ≤ n ∧ n ≤ 12 → m = n - 1) := Lib.hid (fun h => by rw [← hm]; exact IntWalk.wrap64_in _ (by omega))
  have HIn := Lib.hid (fun z W => l6In_any z 0 m W)
  have HR := Lib.hid (fun W => ringIn_dec n W)
  have HQ := Lib.hid hq
  rcases hI.shape with ⟨rfl, rfl⟩ | ⟨g, cap, rfl, hg1, hg2, hg3⟩
  · clear hI hq hl
    by_cases hn : 1 ≤ n ∧ n ≤ 12
    · have HV : Hid (q = true) := Lib.hid (HQ.out.2 ⟨hn, by simp, fun i hi => by simp at hi⟩)
      rw [decide_eq_true hn] at HR
      clear hn
      go_enter Try.func25, Try.ntmps25
      go_wp2
      go_loopw [5] (fun u wr => u = .int .i64 0 ∧ w = wr) (fun _ _ => 0)
      case atStart => exact ⟨rfl, rfl⟩
      obtain ⟨rfl, hw⟩ := hrel
      go_wp2_with (go_at_call 37; refine (HR.out _).mono ?_; rintro e w' ⟨rfl, rfl⟩)
      go_ret
      exact ⟨ret_bool HV.out.symm, hw⟩
    · have HV : Hid (q = false) := Lib.hid (given_no HQ.out fun h => hn h.1)
      rw [decide_eq_false hn] at HR
      clear hn
      go_enter Try.func25, Try.ntmps25
      go_wp2
      go_loopw [5] (fun u wr => u = .int .i64 0 ∧ w = wr) (fun _ _ => 0)
      case atStart => exact ⟨rfl, rfl⟩
      obtain ⟨rfl, hw⟩ := hrel
      go_wp2_with (go_at_call 37; refine (HR.out _).mono ?_; rintro e w' ⟨rfl, rfl⟩)
      go_ret
      exact ⟨ret_bool HV.out.symm, hw⟩
  · have HI := Lib.hid hI
    generalize hL : xs.length = L at *
    have HL := Lib.hid hL
    clear hI hL hg3 hq
    go_enter Try.func25, Try.ntmps25
    go_wp2
    go_loopw [5] (fun u wr => ∃ i : Nat, i ≤ L ∧ u = .int .i64 (i : Int) ∧ w = wr ∧ Hid (∀ j, j < i → 0 ≤ xs.getD j 0 ∧ xs.getD j 0 ≤ m)) (fun u _ => L - (intOf u).toNat)
    case atStart => exact ⟨0, Nat.zero_le _, rfl, rfl, Lib.hid (fun j hj => absurd hj (by omega))⟩
    case round =>
      obtain ⟨i, hi, rfl, hw, HA⟩ := hrel
      subst hw
      by_cases hlt : i < L
      · have ci := HI.out.cell (i := i) (by rw [HL.out]; exact hlt)
        have HOut : Hid (¬ (0 ≤ xs.getD i 0 ∧ xs.getD i 0 ≤ m) → ¬ RowIn n xs) := Lib.hid (fun h hr => h (by
          have a := hr.2.2 i (by rw [HL.out]; exact hlt)
          have b := HMn.out hr.1
          omega))
        have HIz := Lib.hid (HIn.out (xs.getD i 0))
        have HAn : Hid ((0 ≤ xs.getD i 0 ∧ xs.getD i 0 ≤ m) → ∀ j, j < i + 1 → 0 ≤ xs.getD j 0 ∧ xs.getD j 0 ≤ m) := Lib.hid (fun h j hj => by
          by_cases e : j = i
          · subst e; exact h
          · exact HA.out j (by omega))
        generalize xs.getD i 0 = z at *
        have i1 : (0 : Int) ≤ (i : Int) := by omega
        have i2 : (i : Int) < (L : Int) := by omega
        by_cases hz : 0 ≤ z ∧ z ≤ m
        · rw [decide_eq_true hz] at HIz
          have HA2 := Lib.hid (HAn.out hz)
          clear HAn HOut hz
          go_wp2_with (go_at_call 36; refine (HIz.out _).mono ?_; rintro e w' ⟨rfl, rfl⟩)
          go_roundw
          case rel => exact ⟨i + 1, by omega, by go_num, by first | rfl | trivial, HA2⟩
          case measure => simp [intOf]; omega
        · rw [decide_eq_false hz] at HIz
          have HV : Hid (q = false) := Lib.hid (given_no HQ.out (HOut.out hz))
          clear HAn HOut hz
          go_wp2_with (go_at_call 36; refine (HIz.out _).mono ?_; rintro e w' ⟨rfl, rfl⟩)
          go_ret
          exact ⟨ret_bool HV.out.symm, by first | rfl | trivial⟩
      · obtain rfl : i = L := by omega
        by_cases hn : 1 ≤ n ∧ n ≤ 12
        · rw [decide_eq_true hn] at HR
          have hmn := HMn.out hn
          by_cases h12 : i ≤ 12
          · have HV : Hid (q = true) := Lib.hid (HQ.out.2 ⟨hn, by rw [HL.out]; exact h12, fun j hj => by
              rw [HL.out] at hj
              have := HA.out j hj
              omega⟩)
            have k1 : (i : Int) ≤ 12 := by omega
            have k2 : decide ((i : Int) ≤ 12) = true := decide_eq_true k1
            clear hmn hn h12
            go_wp2_with (go_at_call 37; refine (HR.out _).mono ?_; rintro e w' ⟨rfl, rfl⟩)
            go_ret
            exact ⟨ret_bool HV.out.symm, by first | rfl | trivial⟩
          · have HV : Hid (q = false) := Lib.hid (given_no HQ.out fun h => h12 (by rw [← HL.out]; exact h.2.1))
            have k1 : ¬ (i : Int) ≤ 12 := by omega
            have k2 : decide ((i : Int) ≤ 12) = false := decide_eq_false k1
            clear hmn hn h12
            go_wp2_with (go_at_call 37; refine (HR.out _).mono ?_; rintro e w' ⟨rfl, rfl⟩)
            go_ret
            exact ⟨ret_bool HV.out.symm, by first | rfl | trivial⟩
        · rw [decide_eq_false hn] at HR
          have HV : Hid (q = false) := Lib.hid (given_no HQ.out fun h => hn h.1)
          clear hn
          go_wp2_with (go_at_call 37; refine (HR.out _).mono ?_; rintro e w' ⟨rfl, rfl⟩)
          go_ret
          exact ⟨ret_bool HV.out.symm, by first | rfl | trivial⟩
theorem tmod_nat (a n : Nat) : Int.tmod (a : Int) (n : Int) = ((a % n : Nat) : Int) := (Int.ofNat_tmod a n).symm
set_option maxHeartbeats 1000000 in
/-- The sum of a choice. -/
theorem l9Sum_any (n : Nat) (sv : Value) (xs : List Int) (b c : Nat) (w : World) (h : RowIn (n : Int) xs) (hc : c < 2 ^ 40) (hI : IsInts w b sv xs) :
    Calls Try.prog 28 #[.int .i64 (n:Int), sv, .int .i64 (c:Int)] w fun e w' => e = .returned (.int .i64 ((zsum n (rowZ xs) xs.length c : Nat) : Int)) ∧ Below w.heap.size w w' := by
  have hn := h.1
  have h12 := h.2.1
  have i5 : ((n : Int) = 0) = False := by simp; omega
  have i6 : ((n : Int) == 0) = false := by simp; omega
  have i7 : (n = 0) = False := by simp; omega
  rcases hI.shape with ⟨rfl, rfl⟩ | ⟨g, cap, rfl, hg1, hg2, hg3⟩
  · have HV : Hid (zsum n (rowZ []) 0 c = 0) := Lib.hid (Nat.zero_mod n)
    have t0 : Int.tmod 0 (n : Int) = 0 := Int.zero_tmod _
    clear hI h hn h12 hc
    go_enter Try.func28, Try.ntmps28
    go_wp2
    go_loopw [7, 8] (fun a u wr => a = .int .i64 0 ∧ u = .int .i64 0 ∧ w = wr) (fun _ _ _ => 0)
    case atStart => exact ⟨rfl, rfl, rfl⟩
    case round =>
      obtain ⟨rfl, rfl, hw⟩ := hrel
      subst hw
      go_wp2
      go_ret
      exact ⟨by
        show _ = Ending.returned (.int .i64 ((zsum n (rowZ []) 0 c : Nat) : Int))
        rw [HV.out]; rfl, Below.refl _ _⟩
  · have HI := Lib.hid hI
    have HVal := Lib.hid (fun i hi => row_val h i hi)
    have HLt := Lib.hid (fun i => row_lt h i)
    have HLe := Lib.hid (fun i => sumC_le (rowZ xs) c i 11 (fun i => by have := row_lt h i; omega))
    have HSt := Lib.hid (fun i => sumC_step (rowZ xs) c i)
    have HBit := Lib.hid (fun v => bit_val c v hc)
    have HZ : Hid (zsum n (rowZ xs) xs.length c = sumC (rowZ xs) c xs.length % n) := Lib.hid rfl
    generalize zsum n (rowZ xs) xs.length c = V at *
    generalize hL : xs.length = L at *
    have HL := Lib.hid hL
    clear hI hL hg3 h hc
    go_enter Try.func28, Try.ntmps28
    go_wp2
    go_loopw [7, 8] (fun a u wr => ∃ i : Nat, i ≤ L ∧ a = .int .i64 ((sumC (rowZ xs) c i : Nat) : Int) ∧ u = .int .i64 (i : Int) ∧ Hid (Below w.heap.size w wr)) (fun _ u _ => L - (intOf u).toNat)
    case atStart => exact ⟨0, Nat.zero_le _, rfl, rfl, Lib.hid (Below.refl _ _)⟩
    case round =>
      obtain ⟨i, hi, rfl, rfl, HB⟩ := hrel
      by_cases hlt : i < L
      · have ci := (HB.out.cell (p := ⟨g, i, none⟩) hg2).trans (HI.out.cell (i := i) (by rw [HL.out]; exact hlt))
        rw [HVal.out i hlt] at ci
        have e1 := HBit.out i
        have hb1 : b2n (c.testBit i) ≤ 1 := by cases c.testBit i <;> simp [b2n]
        have HSt1 := Lib.hid (HSt.out i)
        have hz := HLt.out i
        have hs := HLe.out i
        generalize sumC (rowZ xs) c i = s at *
        generalize rowZ xs i = z at *
        generalize b2n (c.testBit i) = p at *
        have hz11 : z ≤ 11 := by omega
        have hs132 : s ≤ 132 := by omega
        have hpq : p * z ≤ 1 * 11 := Nat.mul_le_mul hb1 hz11
        have hb2 : p * z ≤ 1000000 := Nat.le_trans hpq (by decide)
        have hb3 : s + p * z ≤ 1000000 := Nat.le_trans (Nat.add_le_add hs132 hpq) (by decide)
        obtain ⟨m1, m2⟩ := two_wraps ((p : Int) * (z : Int)) (p * z) (Int.natCast_mul p z).symm hb2
        obtain ⟨m3, m4⟩ := two_wraps ((s : Int) + ((p * z : Nat) : Int)) (s + p * z) (Int.natCast_add s (p * z)).symm hb3
        have i1 : (0 : Int) ≤ (i : Int) := by omega
        have i2 : (i : Int) < (L : Int) := by omega
        have i3 : min i 64 = i := by omega
        generalize s + p * z = y at *
        generalize p * z = pq at *
        clear hb1 hpq hz hs hz11 hs132 hb2 hb3
        go_wp2
        go_region
        go_wp2
        go_roundw
        case rel => exact ⟨i + 1, by omega, by rw [HSt1.out], by go_num, Lib.hid HB.out.drew⟩
        case measure => simp [intOf]; omega
      · obtain rfl : i = L := by omega
        have hs := HLe.out i
        have e2 := tmod_nat (sumC (rowZ xs) c i) n
        rw [← HZ.out] at e2
        have hv : V ≤ 2000000 := by
          have := HZ.out
          have := Nat.mod_le (sumC (rowZ xs) c i) n
          omega
        generalize sumC (rowZ xs) c i = s at *
        clear hlt hs
        go_wp2
        go_ret
        exact ⟨rfl, HB.out⟩
end Go.Proofs.Ytkddaecfljiehaa
