/- The law FnUnits: units turned by units are units. -/
import Derived.Test.YthccchelemnnfaaPTurn
import Derived.Test.YthccchelemnnfaaSpecB
import Derived.Test.YthccchelemnnfaaOrbit
namespace Go.Proofs.Ythccchelemnnfaa
open Go.RowKit Go.Shelf
set_option linter.unusedVariables false
def NumPost (W : World) (b : Nat) (e : Ending) (w' : World) : Prop :=
  ∃ n : Nat, e = .returned (.int .i64 (n : Int)) ∧ n < b ∧ Below W.heap.size W w'
theorem drawUnits_any (W : World) (B len cap : Nat) (A : Option Addr) (f : Nat → Nat) (hC : Code W B A len f) (hB : B ≤ W.heap.size) (hlc : len ≤ cap) (hcap : cap ≤ 9223372036854775807) :
    Calls Try.prog 23 #[.slice A len cap] W (NumPost W 14) := by
  have HC := Lib.hid (open_any W B len cap A f hC hB hlc hcap)
  clear hC
  go_enter Try.func23, Try.ntmps23
  go_wp2_with fail
  refine HC.out.mono ?_
  rintro e w1 ⟨R, A', len', cap', rfl, hR, hl, hRd, hCd, hb1⟩
  have z1 := hb1.size
  have HRd : Hid (Reader w1 B R 0) := Lib.hid ⟨⟨A', len', cap', f, hRd, hCd, hl⟩, by omega⟩
  clear hRd hCd
  go_wp2_with fail
  refine (draw_any w1 B R 0 14 HRd.out (by omega) (by omega) (by omega)).mono ?_
  rintro e w2 ⟨d, rfl, hd, hR2, hA2⟩
  have hd2 := hd (by omega)
  have HB2 := Lib.hid (hb1.trans (hA2.below (m := W.heap.size) hR z1))
  clear hR2 hA2 hd
  go_wp2
  go_ret
  exact ⟨d, rfl, by omega, HB2.out⟩
def unitTurnB : Bool := (List.range 13).all fun n => (List.range n).all fun m => Nat.gcd m n != 1 || (turnN n (unitsN n) (m : Int) == unitsN n)
theorem unit_turn_all : unitTurnB = true := by decide +kernel
theorem unit_turn (n m : Nat) (hn : n ≤ 12) (hm : m < n) (hg : Nat.gcd m n = 1) : turnN n (unitsN n) (m : Int) = unitsN n := by
  have h := unit_turn_all
  unfold unitTurnB at h
  have h' := List.all_eq_true.1 h n (List.mem_range.2 (by omega))
  have h'' := List.all_eq_true.1 h' m (List.mem_range.2 hm)
  simpa [hg] using h''
def unitPosB : Bool := (List.range 13).all fun n => n == 0 || decide (0 < unitsN n)
theorem unit_pos_all : unitPosB = true := by decide +kernel
theorem unit_pos (n : Nat) (h1 : 1 ≤ n) (hn : n ≤ 12) : 0 < unitsN n := by
  have h := unit_pos_all
  unfold unitPosB at h
  have h' := List.all_eq_true.1 h n (List.mem_range.2 (by omega))
  have hne : n ≠ 0 := by omega
  simpa [hne] using h'
theorem law_Units (W : World) (B len cap : Nat) (A : Option Addr) (f : Nat → Nat) (hC : Code W B A len f) (hB : B ≤ W.heap.size) (hlc : len ≤ cap) (hcap : cap ≤ 9223372036854775807) :
    Calls Try.prog 6 #[.slice A len cap] W fun e w' => e = .returned (.bool true) ∧ Below W.heap.size W w' := by
  have HC := Lib.hid (drawUnits_any W B len cap A f hC hB hlc hcap)
  clear hC
  by_cases hlen : (1048576 : Int) < (len : Int)
  · go_enter Try.func6, Try.ntmps6
    go_wp2
    go_ret
    exact ⟨rfl, Below.refl _ _⟩
  · go_enter Try.func6, Try.ntmps6
    go_wp2_with fail
    refine HC.out.mono ?_
    rintro e w1 ⟨n, rfl, hn, hb1⟩
    have z1 := hb1.size
    by_cases hno : 1 ≤ (n : Int) ∧ (n : Int) ≤ 12
    · have h1 : 1 ≤ n := by omega
      have h2 : n ≤ 12 := by omega
      have hul := unitsN_lt n
      have hpw := pow_le n h2
      have hpos := unit_pos n h1 h2
      have him := fun W => implUnits_yes n W h1 h2
      have hsp := fun W => specUnits_yes n W h1 h2
      have HT : Hid (∀ m : Nat, m < n → (unitsN n).testBit m = true → ∀ W, Calls Try.prog 26 #[.int .i64 (n:Int), .int .i64 ((unitsN n : Nat):Int), .int .i64 (m:Int)] W fun e w' => e = .returned (.tuple #[.int .i64 ((unitsN n : Nat) : Int), .bool true]) ∧ Below W.heap.size W w') :=
        Lib.hid (fun m hm hb W => by
          have h := implTurn_yes n (unitsN n) (m : Int) W h1 h2 hul (by omega) (by omega)
          rw [unit_turn n m h2 hm ((unitsN_bit n m).1 hb).2] at h
          exact h)
      have HD : Hid (∀ m : Nat, m < n → (unitsN n).testBit m = true → ∀ W, Calls Try.prog 27 #[.int .i64 (m:Int), .int .i64 (n:Int)] W fun e w' => e = .returned (.int .i64 1) ∧ W = w') :=
        Lib.hid (fun m hm hb W => by
          have h := divisor_any m n W (by omega) (by omega)
          rw [((unitsN_bit n m).1 hb).2] at h
          exact h)
      generalize unitsN n = o at *
      have HIm := Lib.hid him
      have HSp := Lib.hid hsp
      clear him hsp hno
      go_wp2_with fail
      refine (HIm.out _).mono ?_
      rintro e w2 ⟨rfl, hb2⟩
      have hB2 := hb1.trans (hb2.mono z1)
      clear hb1 hb2
      go_wp2_with fail
      refine (HSp.out _).mono ?_
      rintro e w3 ⟨rfl, rfl⟩
      have HB2 := Lib.hid hB2
      clear hB2
      go_wp2
      go_loopw [8, 9, 10] (fun v x y wr => ∃ k : Nat, k ≤ n ∧ v = .int .i64 (k : Int) ∧ Below W.heap.size W wr) (fun v _ _ _ => n - (intOf v).toNat)
      case atStart => exact ⟨0, Nat.zero_le _, rfl, HB2.out⟩
      case round =>
        obtain ⟨k, hk, rfl, hB3⟩ := hrel
        have HB3 := Lib.hid hB3
        have z3 := hB3.size
        clear hB3
        by_cases hlt : k < n
        · have hb0 := has_nat0 o k (by omega)
          by_cases hbit : o.testBit k = true
          · have hT := HT.out k hlt hbit
            have hD := HD.out k hlt hbit
            go_wp2_with fail
            refine (hT _).mono ?_
            rintro e w4 ⟨rfl, hb4⟩
            have HB4 := Lib.hid (HB3.out.trans (hb4.mono z3))
            clear hb4
            go_wp2_with fail
            refine (hD _).mono ?_
            rintro e w5 ⟨rfl, rfl⟩
            go_wp2
            go_roundw
            case rel => exact ⟨k + 1, by omega, by go_num, HB4.out⟩
            case measure => simp [intOf]; omega
          · have hbit' : o.testBit k = false := by simpa using hbit
            go_wp2
            go_roundw
            case rel => exact ⟨k + 1, by omega, by go_num, HB3.out⟩
            case measure => simp [intOf]; omega
        · have e : k = n := by omega
          subst e
          have hpos' : (0 : Int) < (o : Int) := by omega
          go_wp2
          go_ret
          exact ⟨rfl, HB3.out⟩
    · have HN := Lib.hid hno
      clear hno
      go_wp2_with fail
      refine (implUnits_no n _ HN.out).mono ?_
      rintro e w2 ⟨rfl, hb2⟩
      go_wp2_with fail
      refine (specUnits_no n _ HN.out).mono ?_
      rintro e w3 ⟨rfl, rfl⟩
      go_wp2
      go_ret
      exact ⟨rfl, hb1.trans (hb2.mono z1)⟩
end Go.Proofs.Ythccchelemnnfaa
