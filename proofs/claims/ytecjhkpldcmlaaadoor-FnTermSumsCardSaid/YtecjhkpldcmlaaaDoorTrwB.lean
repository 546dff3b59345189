/- Terms: the model writes a set. -/
import Derived.Test.YtecjhkpldcmlaaaDoorTrwA
import Derived.Test.YtecjhkpldcmlaaaDoorTrpN
namespace Go.Proofs.YtecjhkpldcmlaaaDoor
open Go.RowKit Go.Shelf
set_option linter.unusedVariables false
attribute [local go_sem] Oper.semAt_some
set_option maxRecDepth 20000 in
set_option maxHeartbeats 2000000 in
theorem l11Write_any (s : Nat) (h : s < 4096) : ∀ w : World, Calls Tryd.prog 46 #[.int .i64 (s : Int)] w fun e w' => e = .returned (.string (toB (showT (setS s)))) ∧ Below w.heap.size w w' := by
  induction s using Nat.strongRecOn with
  | _ s ih =>
  intro w
  by_cases h0 : s = 0
  · subst h0
    rw [setS_zero]
    show Calls Tryd.prog 46 #[.int .i64 0] w fun e w' => e = .returned (.string ⟨#[101]⟩) ∧ Below w.heap.size w w'
    go_enter Tryd.func46, Tryd.ntmps46
    go_wp2
    go_ret
    exact ⟨rfl, Below.refl _ _⟩
  obtain ⟨hv, hb1, hb2, hpl, hlt, hif⟩ := tz_facts s h h0
  have HS := Lib.hid (fun W => l11Sign_any (tzN s) hv W)
  have HIH := Lib.hid (fun (hl : lessN s (2 ^ tzN s) ≠ 0) W => ih (lessN s (2 ^ tzN s)) hlt (by omega) W)
  have HOne := Lib.hid (fun hl => setS_one s h h0 hl)
  have HMore := Lib.hid (fun hl => setS_more s h h0 hl)
  have HPt := Lib.hid (pair_text 43 (.leaf (signB (tzN s))) (setS (lessN s (2 ^ tzN s))) (by show 1 ≤ 1000; omega) (by have := setS_len (lessN s (2 ^ tzN s)); omega))
  have HBt := Lib.hid (fun W => byteT (signB (tzN s)) W)
  have HBit := Lib.hid (fun v => has_nat0 s v (by omega))
  have HB1 := Lib.hid hb1
  have HB2 := Lib.hid hb2
  have HAn := Lib.hid (less_nat s (2 ^ tzN s) (by omega) (by have := two_pow_lt (tzN s) (by omega); omega))
  have HW := Lib.hid (pow_wraps (tzN s) (by omega))
  have HEq := Lib.hid (nat_eql s (2 ^ tzN s))
  have HIf := Lib.hid hif
  have hL : Hid (tzN s < 12) := Lib.hid hv
  have hs0 : ((s : Int) == 0) = false := by rw [beq_eq_false_iff_ne]; omega
  clear ih hb1 hb2 hif hlt hv h0 h hpl
  have HV1 := Lib.hid (show lessN s (2 ^ tzN s) = 0 → toB (showT (setS s)) = toB [signB (tzN s)] from fun hl => by rw [HOne.out hl]; rfl)
  have HV2 := Lib.hid (show lessN s (2 ^ tzN s) ≠ 0 → toB (showT (setS s)) = toB (showT (.two 43 (.leaf (signB (tzN s))) (setS (lessN s (2 ^ tzN s))))) from fun hl => by rw [HMore.out hl])
  have HLen : Hid ((toB [signB (tzN s)]).size = 1 ∧ (toB (showT (setS (lessN s (2 ^ tzN s))))).size ≤ 49) := Lib.hid ⟨rfl, by rw [toB_size]; exact setS_len _⟩
  have HPt2 : Hid ((⟨#[40]⟩ : ByteArray) ++ toB [signB (tzN s)] ++ ⟨#[43]⟩ ++ toB (showT (setS (lessN s (2 ^ tzN s)))) ++ ⟨#[41]⟩ = toB (showT (.two 43 (.leaf (signB (tzN s))) (setS (lessN s (2 ^ tzN s)))))) := Lib.hid HPt.out.2.2.2.2
  clear HPt HOne HMore
  generalize toB (showT (setS s)) = R at *
  generalize toB (showT (.two 43 (.leaf (signB (tzN s))) (setS (lessN s (2 ^ tzN s))))) = Y at *
  generalize toB (showT (setS (lessN s (2 ^ tzN s)))) = Z at *
  generalize toB [signB (tzN s)] = P at *
  generalize (signB (tzN s)).toNat = x at *
  generalize lessN s (2 ^ tzN s) = L at *
  generalize tzN s = z at *
  go_enter Tryd.func46, Tryd.ntmps46
  go_wp2
  go_loopw [3] (fun u wr => ∃ v : Nat, v ≤ z ∧ u = .int .i64 (v : Int) ∧ wr = w) (fun u _ => z - (intOf u).toNat)
  case atStart => exact ⟨0, Nat.zero_le _, rfl, rfl⟩
  case round =>
    obtain ⟨v, hvz, rfl, rfl⟩ := hrel
    by_cases hlt : v < z
    · have hbt := HBit.out v
      rw [HB2.out v hlt] at hbt
      obtain ⟨m1, m2⟩ := mil_up v (by have := hL.out; omega)
      have q0 : (0 : Int) ≤ (v : Int) := by omega
      have q1 : v < 64 := by have := hL.out; omega
      go_wp2
      go_roundw
      case rel => exact ⟨v + 1, by omega, by go_num, by first | rfl | trivial⟩
      case measure => simp [intOf]; omega
    · obtain rfl : v = z := by omega
      have hbt := HBit.out v
      rw [HB1.out] at hbt
      have q0 : (0 : Int) ≤ (v : Int) := by omega
      have q1 : v < 64 := by have := hL.out; omega
      obtain ⟨p1, p2⟩ := HW.out
      have hq := HEq.out
      have hbb := HBt.out wr
      have hB0 : Below wr.heap.size wr (wr.alloc (.cells #[.int .u8 (x : Int)] 5)) := (Below.refl _ _).alloc (Nat.le_refl _) _
      have e1 : ¬ 9223372036854775807 < 1 + P.size := by have := HLen.out; omega
      have e2 : ¬ 9223372036854775807 < 1 + P.size + 1 := by have := HLen.out; omega
      have e3 : ¬ 9223372036854775807 < 1 + P.size + 1 + Z.size := by have := HLen.out; omega
      have e4 : ¬ 9223372036854775807 < 1 + P.size + 1 + Z.size + 1 := by have := HLen.out; omega
      by_cases hz : L = 0
      · have hse := HIf.out.2 hz
        have hv := HV1.out hz
        subst hv
        rw [decide_eq_true hse, cast_pow] at hq
        clear hlt HIf HV1 HV2 HIH hz hse HPt2 HAn
        go_wp2_with fail
        refine (HS.out _).mono ?_
        rintro e w2 ⟨rfl, rfl⟩
        have hB1 := hB0
        have hbb1 := hbb
        go_wp2
        go_ret
        exact ⟨rfl, hB0⟩
      · have hse : ¬ s = 2 ^ v := fun h => hz (HIf.out.1 h)
        have hv := HV2.out hz
        subst hv
        rw [decide_eq_false hse, cast_pow] at hq
        have HI2 := Lib.hid (HIH.out hz)
        have han := HAn.out
        rw [cast_pow] at han
        have HPt3 := HPt2.out
        clear hlt HIf HV1 HV2 HIH hz hse HPt2
        go_wp2_with fail
        refine (HS.out _).mono ?_
        rintro e w2 ⟨rfl, rfl⟩
        go_wp2_with fail
        refine (HI2.out _).mono ?_
        rintro e w3 ⟨rfl, hb3⟩
        go_wp2
        go_ret
        exact ⟨rfl, hB0.trans (hb3.mono hB0.size)⟩
end Go.Proofs.YtecjhkpldcmlaaaDoor
