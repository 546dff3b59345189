/- Differences of sets: the model's tables. -/
import Derived.Test.YtaomjhkodohkcaaGD
import Derived.Test.YtaomjhkodohkcaaDifM
import Derived.Test.YtaomjhkodohkcaaGG
namespace Go.Proofs.Ytaomjhkodohkcaa
open Go.RowKit Go.Shelf
set_option linter.unusedVariables false
def tabD (n s v w : Nat) : List Int := tabI n fun d => ((difTo n s v w d : Nat) : Int)
/-- How often each difference comes. -/
def difL (n s : Nat) : List Int := tabI n fun d => ((difN n s d : Nat) : Int)
theorem tabD_len (n s v w : Nat) : (tabD n s v w).length = n := tabI_len n _
theorem difL_len (n s : Nat) : (difL n s).length = n := tabI_len n _
theorem tabD_get (n s v w i : Nat) (hi : i < n) : (tabD n s v w).getD i 0 = ((difTo n s v w i : Nat) : Int) := tabI_get n _ i hi
theorem difL_get (n s i : Nat) (hi : i < n) : (difL n s).getD i 0 = ((difN n s i : Nat) : Int) := tabI_get n _ i hi
theorem tabD_zero (n s : Nat) : tabD n s 0 0 = List.replicate n 0 := by
  refine List.ext_getElem (by simp [tabD, tabI]) fun k h1 h2 => ?_
  simp [tabD, tabI, difTo_zero]
theorem tabD_up (n s v : Nat) : tabD n s v n = tabD n s (v + 1) 0 := tabI_congr n _ _ fun d _ => by rw [difTo_up]
theorem tabD_end (n s : Nat) (h1 : 1 ≤ n) (h2 : n ≤ 12) (hs : s < 2 ^ n) : tabD n s n 0 = difL n s := tabI_congr n _ _ fun d hd => by rw [dif_all n s d h1 h2 hs hd]
theorem tabD_step (n s v w : Nat) : tabD n s v (w + 1) = (tabD n s v w).set (rest n ((v : Int) - (w : Int))) ((difTo n s v w (rest n ((v : Int) - (w : Int))) + b2n (s.testBit v) * b2n (s.testBit w) : Nat) : Int) := by
  unfold tabD
  rw [tabI_set]
  refine tabI_congr n _ _ fun d hd => ?_
  rw [difTo_step]
  unfold eD
  by_cases hx : d = rest n ((v : Int) - (w : Int))
  · rw [if_pos hx, ← hx]
    cases s.testBit v <;> cases s.testBit w <;> simp [b2n]
  · rw [if_neg hx]
    have : (rest n ((v : Int) - (w : Int)) == d) = false := by simp; exact fun c => hx c.symm
    rw [this, Bool.and_false]
    rfl
theorem bit_val (s v : Nat) (hs : s < 2 ^ 40) : bits .and .i64 ((s : Int) / 2 ^ v) 1 = ((b2n (s.testBit v) : Nat) : Int) := by
  cases hb : s.testBit v
  · exact bit_none hs hb
  · exact bit_one hs hb
theorem two_wraps (x : Int) (y : Nat) (h : x = (y : Int)) (hy : y ≤ 1000000) : IntKind.i64.wrap x = (y : Int) ∧ wrap64 x = (y : Int) := by
  subst h
  exact ⟨IntWalk.i64_in _ ⟨by omega, by omega⟩, IntWalk.wrap64_in _ ⟨by omega, by omega⟩⟩
theorem sub_wraps (v k : Nat) (hv : v ≤ 1000000) (hk : k ≤ 1000000) : IntKind.i64.wrap ((v : Int) - (k : Int)) = (v : Int) - (k : Int) ∧ wrap64 ((v : Int) - (k : Int)) = (v : Int) - (k : Int) :=
  ⟨IntWalk.i64_in _ ⟨by omega, by omega⟩, IntWalk.wrap64_in _ ⟨by omega, by omega⟩⟩
set_option maxHeartbeats 1000000 in
theorem l7Table_any (n s : Nat) (w : World) (h1 : 1 ≤ n) (h2 : n ≤ 12) (hs : s < 2 ^ n) :
    Calls Try.prog 42 #[.int .i64 (n:Int), .int .i64 (s:Int)] w fun e w' => e = .returned (.slice (some ⟨w.heap.size, 0, none⟩) n n) ∧ Below w.heap.size w w' ∧ IsInts w' w.heap.size (.slice (some ⟨w.heap.size, 0, none⟩) n n) (difL n s) := by
  have hp := pow_le n h2
  have hmk := make_ints n (by omega) w
  have HM := Lib.hid (made_ints n (by omega) w)
  rw [← tabD_zero n s] at HM
  have HRe := Lib.hid (fun x hx W => l1Rest_any n x W h1 h2 hx)
  have HEnd := Lib.hid (tabD_end n s h1 h2 hs)
  have HLe := Lib.hid (fun v w d hv hw => difTo_le n s v w d h2 hv hw)
  have HSt := Lib.hid (fun v w => tabD_step n s v w)
  have HUp := Lib.hid (fun v => tabD_up n s v)
  have HG := Lib.hid (fun v w i hi => tabD_get n s v w i hi)
  have HLen := Lib.hid (fun v w => tabD_len n s v w)
  have HBit := Lib.hid (fun v => bit_val s v (by omega))
  have HRl := Lib.hid (fun x => rest_lt n x h1)
  go_enter Try.func42, Try.ntmps42
  go_wp2
  have hB0 : Below w.heap.size w (w.alloc (.cells (madeCells #[.int .i64 0] n) 3)) := (Below.refl _ _).alloc (Nat.le_refl _) _
  obtain ⟨W0, hW0⟩ : ∃ W0, w.alloc (.cells (madeCells #[.int .i64 0] n) 3) = W0 := ⟨_, rfl⟩
  rw [hW0] at hB0 HM ⊢
  clear hW0 hmk hs
  go_loopw [6] (fun u wr => ∃ v : Nat, v ≤ n ∧ u = .int .i64 (v : Int) ∧ IsInts wr w.heap.size (.slice (some ⟨w.heap.size, 0, none⟩) n n) (tabD n s v 0) ∧ Below w.heap.size w wr) (fun u _ => n - (intOf u).toNat)
  case atStart => exact ⟨0, Nat.zero_le _, rfl, HM.out, hB0⟩
  case round =>
    obtain ⟨v, hv, rfl, hI, hB⟩ := hrel
    have HI2 := Lib.hid hI
    clear hI HM hB0
    by_cases hlt : v < n
    · go_wp2
      obtain ⟨wo, rfl⟩ : ∃ wo : World, wo = wr := ⟨_, rfl⟩
      go_loopw [7] (fun u wi => ∃ k : Nat, k ≤ n ∧ u = .int .i64 (k : Int) ∧ IsInts wi w.heap.size (.slice (some ⟨w.heap.size, 0, none⟩) n n) (tabD n s v k) ∧ Below w.heap.size w wi) (fun u _ => n - (intOf u).toNat)
      case atStart => exact ⟨0, Nat.zero_le _, rfl, HI2.out, hB⟩
      case round =>
        obtain ⟨k, hk, rfl, hI, hB2⟩ := hrel
        have HI3 := Lib.hid hI
        clear hI
        by_cases hlk : k < n
        · have HRe1 := Lib.hid (HRe.out ((v : Int) - (k : Int)) ⟨by omega, by omega⟩)
          have hr := HRl.out ((v : Int) - (k : Int))
          have HSt1 := Lib.hid (HSt.out v k)
          have hz := HLe.out v k (rest n ((v : Int) - (k : Int))) (by omega) (by omega)
          have HG1 := Lib.hid (HG.out v k (rest n ((v : Int) - (k : Int))) hr)
          generalize rest n ((v : Int) - (k : Int)) = r at *
          have HI4 : Hid (IsInts wr w.heap.size (.slice (some ⟨w.heap.size, 0, none⟩) (tabD n s v k).length n) (tabD n s v k)) := Lib.hid (by rw [HLen.out]; exact HI3.out)
          have c1 := HI4.out.cell (i := r) (by rw [HLen.out]; exact hr)
          have f1 := HI4.out.frozen r
          rw [HG1.out] at c1
          have hsz : w.heap.size < wr.heap.size := World.block_lt_of_cell? wr _ c1
          have e1 := HBit.out v
          have e2 := HBit.out k
          have hb1 : b2n (s.testBit v) ≤ 1 := by cases s.testBit v <;> simp [b2n]
          have hb2 : b2n (s.testBit k) ≤ 1 := by cases s.testBit k <;> simp [b2n]
          generalize difTo n s v k r = z at *
          generalize b2n (s.testBit v) = p at *
          generalize b2n (s.testBit k) = q at *
          have hpq : p * q ≤ 1 := Nat.mul_le_mul hb1 hb2
          obtain ⟨m1, m2⟩ := two_wraps ((p : Int) * (q : Int)) (p * q) (Int.natCast_mul p q).symm (Nat.le_trans hpq (by omega))
          have hzp : z + p * q ≤ 1000000 := Nat.le_trans (Nat.add_le_add hz hpq) (by omega)
          obtain ⟨m3, m4⟩ := two_wraps ((z : Int) + ((p * q : Nat) : Int)) (z + p * q) (Int.natCast_add z (p * q)).symm hzp
          obtain ⟨s1, s2⟩ := sub_wraps v k (by omega) (by omega)
          have i1 : (0 : Int) ≤ (r : Int) := Int.natCast_nonneg r
          have i2 : (r : Int) < (n : Int) := Int.ofNat_lt.2 hr
          generalize z + p * q = y at *
          generalize p * q = pq at *
          clear hb1 hb2 hz hpq hzp
          go_wp2_with (go_at_call 68; refine (HRe1.out _).mono ?_; rintro e w3 ⟨rfl, rfl⟩)
          go_region
          go_wp2
          go_roundw
          case rel =>
            refine ⟨k + 1, by omega, by go_num, ?_, ?_⟩
            · have h3 := HI4.out.set r (y : Int)
              rw [List.length_set, HLen.out] at h3
              rw [HSt1.out]
              exact h3
            · exact hB2.trans ⟨rfl, rfl, rfl, by simp [World.setCell], fun q hq => Below.heap_setCell wr ⟨w.heap.size, r, none⟩ _ q (by simp; omega)⟩
          case measure => simp [intOf]; omega
        · obtain rfl : k = n := by omega
          go_wp2
          go_roundw
          case rel => exact ⟨v + 1, by omega, by go_num, by rw [← HUp.out]; exact HI3.out, hB2⟩
          case measure => simp [intOf]; omega
    · obtain rfl : v = n := by omega
      go_wp2
      go_ret
      exact ⟨rfl, hB, by rw [← HEnd.out]; exact HI2.out⟩
end Go.Proofs.Ytaomjhkodohkcaa
