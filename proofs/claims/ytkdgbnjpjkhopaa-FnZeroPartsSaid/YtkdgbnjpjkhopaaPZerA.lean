/- Promises of chapter 9 over given contracts: rows that have what is asked. Written by gen90.py. -/
import Derived.Test.YtkdgbnjpjkhopaaZerX
import Derived.Test.YtkdgbnjpjkhopaaDrawN
import Derived.Test.YtkdgbnjpjkhopaaGM
namespace Go.Proofs.Ytkdgbnjpjkhopaa
open Go.RowKit Go.Shelf
set_option linter.unusedVariables false
theorem two_fit (n : Nat) (h1 : 1 ≤ n) (h : n ≤ 12) : ∃ y m : Nat, m = 2 * n - 1 ∧ IntKind.i64.wrap (2 * (n : Int)) = (y : Int) ∧ wrap64 (2 * (n : Int)) = (y : Int) ∧ IntKind.i64.wrap ((y : Int) - 1) = (m : Int) ∧ wrap64 ((y : Int) - 1) = (m : Int) := by
  refine ⟨2 * n, 2 * n - 1, rfl, ?_, ?_, ?_, ?_⟩
  · rw [IntWalk.i64_in _ (by omega)]; omega
  · rw [IntWalk.wrap64_in _ (by omega)]; omega
  · rw [IntWalk.i64_in _ (by omega)]; omega
  · rw [IntWalk.wrap64_in _ (by omega)]; omega
theorem part_fit (n P : Nat) (h : n ≤ 12) (h1 : 1 ≤ n) (hP : P ≤ 256) : ∃ y z t : Nat, t = n * P + (n - 1) ∧ Hid (IntKind.i64.wrap ((n : Int) * (P : Int)) = (y : Int) ∧ wrap64 ((n : Int) * (P : Int)) = (y : Int) ∧ IntKind.i64.wrap ((y : Int) + (n : Int)) = (z : Int) ∧ wrap64 ((y : Int) + (n : Int)) = (z : Int) ∧ IntKind.i64.wrap ((z : Int) - 1) = (t : Int) ∧ wrap64 ((z : Int) - 1) = (t : Int)) := by
  have hq : n * P ≤ 12 * 256 := Nat.mul_le_mul h hP
  have e : (n : Int) * (P : Int) = ((n * P : Nat) : Int) := (Int.natCast_mul n P).symm
  obtain ⟨y, hy⟩ : ∃ y, n * P = y := ⟨_, rfl⟩
  rw [e, hy]
  rw [hy] at hq
  refine ⟨y, y + n, y + (n - 1), rfl, IntWalk.i64_in _ (by omega), IntWalk.wrap64_in _ (by omega), ?_, ?_, ?_, ?_⟩
  · rw [IntWalk.i64_in _ (by omega)]; rfl
  · rw [IntWalk.wrap64_in _ (by omega)]; rfl
  · rw [IntWalk.i64_in _ (by omega)]; omega
  · rw [IntWalk.wrap64_in _ (by omega)]; omega
theorem cast_beq0n (a : Nat) : ((a : Int) == 0) = Nat.beq a 0 := by
  cases a with
  | zero => rfl
  | succ k => show ((((k + 1 : Nat) : Int)) == 0) = false; simp; omega
set_option maxHeartbeats 2000000 in
set_option maxRecDepth 4000 in
theorem lawP_FnZeroParts (W : World) (B len cap : Nat) (A : Option Addr) (f : Nat → Nat) (hC : Code W B A len f) (hB : B ≤ W.heap.size) (hlc : len ≤ cap) (hcap : cap ≤ 9223372036854775807)
    (hN : NoZeroParts) (hY : YesZeroParts) (hP : YesZeroPlain) :
    Calls Try.prog 4 #[.slice A len cap] W fun e w' => e = .returned (.bool true) ∧ Below W.heap.size W w' := by
  have HC := Lib.hid (drawZeroParts_any W B len cap A f hC hB hlc hcap)
  clear hC
  by_cases hlen : (1048576 : Int) < (len : Int)
  · go_enter Try.func4, Try.ntmps4
    go_wp2
    go_ret
    exact ⟨rfl, Below.refl _ _⟩
  go_enter Try.func4, Try.ntmps4
  go_wp2_with fail
  refine HC.out.mono ?_
  rintro e w1 ⟨n, sv, xs, rfl, hx, hbl, hI0⟩
  have HB := Lib.hid hbl
  have HV := Lib.hid hI0
  have hx2 : xs.length ≤ 2000000 := Nat.le_trans hx (by decide)
  clear hbl hI0 hB hlc hcap HC
  by_cases hno : ¬ (RowIn n xs ∧ xs.length ≤ 8)
  · skip
    go_wp2_with fail
    refine (hN n sv xs _ _ hno hx2 HV.out).mono ?_
    rintro e w2 ⟨rfl, hb2⟩
    have HV := Lib.hid (HV.out.belowAll hb2)
    have HB := Lib.hid (HB.out.trans (hb2.mono HB.out.size))
    clear hb2
    go_wp2_with fail
    refine (specZeroParts_no n sv xs _ _ hno hx2 HV.out).mono ?_
    rintro e w3 ⟨rfl, rfl⟩
    go_wp2
    go_ret
    exact ⟨rfl, HB.out⟩
  have hrow0 : RowIn n xs ∧ xs.length ≤ 8 := Classical.byContradiction hno
  clear hno
  obtain ⟨hrow, h8⟩ := hrow0
  obtain ⟨m, rfl, h1, h2⟩ := row_nat hrow
  have h12 := hrow.2.1
  have hr := row_lt hrow
  have HYs := Lib.hid (fun W1 b h => hY m sv xs b W1 hrow h8 h)
  have HSs := Lib.hid (fun W1 b h => specZeroParts_yes m sv xs b W1 hrow h8 h)
  have HPs := Lib.hid (fun W1 b h => hP m sv xs b W1 hrow h)
  obtain ⟨hp1, hp2⟩ := p_parts m (rowZ xs) xs.length h1 h2 hr
  have hP8 : partsZ m (rowZ xs) xs.length ≤ 256 := Nat.le_trans (bestF_le m (rowZ xs) xs.length _ _) (Nat.le_trans (Nat.sub_le _ _) (Nat.pow_le_pow_right (n := 2) (by omega) h8))
  have HPl : Hid (plainB m (rowZ xs) xs.length = Nat.beq (partsZ m (rowZ xs) xs.length) 0) := Lib.hid (by
    unfold plainB
    exact bool_iff ⟨fun h => by rw [hp2.2 (Nat.eq_of_beq_eq_true h)]; rfl, fun h => by rw [hp2.1 (Nat.eq_of_beq_eq_true h)]; rfl⟩)
  rw [HPl.out] at HPs
  generalize partsZ m (rowZ xs) xs.length = P at *
  obtain ⟨A, cp, hsv⟩ := HV.out.slice
  clear hN hY hP HPl hrow hr hp2
  generalize xs.length = L at *
  subst hsv
  obtain ⟨y, z, t, ht, HF⟩ := part_fit m P h2 h1 hP8
  have HK := Lib.hid (show (t : Int) ≥ (L : Int) by omega)
  have HEq := Lib.hid (cast_beq0n P)
  generalize Nat.beq P 0 = q at *
  clear hp1 ht
  go_wp2_with fail
  refine (HYs.out _ _ HV.out).mono ?_
  rintro e w2 ⟨rfl, hb2⟩
  have HV := Lib.hid (HV.out.belowAll hb2)
  have HB := Lib.hid (HB.out.trans (hb2.mono HB.out.size))
  clear hb2
  go_wp2_with fail
  refine (HSs.out _ _ HV.out).mono ?_
  rintro e w3 ⟨rfl, hb3⟩
  have HV := Lib.hid (HV.out.belowAll hb3)
  have HB := Lib.hid (HB.out.trans (hb3.mono HB.out.size))
  clear hb3
  have k1 := HK.out
  have k2 : decide ((t : Int) ≥ (L : Int)) = true := decide_eq_true k1
  obtain ⟨f1, f2, f3, f4, f5, f6⟩ := HF.out
  have e1 := HEq.out
  go_wp2_with fail
  refine (HPs.out _ _ HV.out).mono ?_
  rintro e w4 ⟨rfl, hb4⟩
  have HB := Lib.hid (HB.out.trans (hb4.mono HB.out.size))
  clear hb4
  cases q
  all_goals
    go_wp2
    go_ret
    exact ⟨rfl, HB.out⟩
end Go.Proofs.Ytkdgbnjpjkhopaa
