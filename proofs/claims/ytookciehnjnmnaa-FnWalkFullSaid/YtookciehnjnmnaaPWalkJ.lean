/- The law FnWalkFull: full sets stay full. -/
import Derived.Test.YtookciehnjnmnaaDrawV
import Derived.Test.YtookciehnjnmnaaArrG
import Derived.Test.YtookciehnjnmnaaArrM
import Derived.Test.YtookciehnjnmnaaWalkC
import Derived.Test.YtookciehnjnmnaaWalkG
import Derived.Test.YtookciehnjnmnaaWalkW
import Derived.Test.YtookciehnjnmnaaFarH
namespace Go.Proofs.Ytookciehnjnmnaa
open Go.RowKit Go.Shelf
set_option linter.unusedVariables false
theorem most_cap (n s d k : Nat) (h : ∀ v, v < k → (distN n s v).toNat ≤ d) : mostN n s k ≤ d := by
  induction k with
  | zero => exact Nat.zero_le _
  | succ k ih =>
    have a := ih fun v hv => h v (by omega)
    have b := h k (by omega)
    show max (mostN n s k) (distN n s k).toNat ≤ d
    omega
/-- What a full set tells of distances and of the next one. -/
theorem full_says (n s k : Nat) (h1 : 1 ≤ n) (h2 : n ≤ 12) (hs : s < 2 ^ n) (hk : k < n) (hf : wsetN n s k = 2 ^ n - 1) : partsN n s = 1 ∧ mostN n s n ≤ k ∧ (s ≠ 0 → wsetN n s (k + 1) = 2 ^ n - 1) := by
  have hbit : ∀ x, x < n → (wsetN n s k).testBit x = true := fun x hx => by rw [hf, Nat.testBit_two_pow_sub_one]; exact decide_eq_true hx
  have hit : ∀ x, x < n → (iterN n s k).testBit x = true := fun x hx => wset_iter n s k x h1 hs (hbit x hx)
  refine ⟨?_, most_cap n s k n fun v hv => ?_, fun hs0 => ?_⟩
  · by_cases h : n = 1
    · have := partsN_pos n s h1
      omega
    · exact Nat.dvd_one.1 (iter_dvd n s k 1 h1 hs (hit 1 (by omega)))
  · have a := (far_iff n s v k hk).1 (hit v hv)
    unfold distN
    split
    · omega
    · exact Nat.zero_le k
  · refine Nat.eq_of_testBit_eq fun i => ?_
    rw [Nat.testBit_two_pow_sub_one]
    by_cases hi : i < n
    · rw [decide_eq_true hi]
      obtain ⟨d, hd⟩ : ∃ d, s.testBit d = true := by
        refine Classical.byContradiction fun h => hs0 (Nat.eq_of_testBit_eq fun j => ?_)
        rw [Nat.zero_testBit]
        cases hb : s.testBit j
        · rfl
        · exact absurd ⟨j, hb⟩ h
      have hdn : d < n := by
        refine Decidable.byContradiction fun h => ?_
        rw [Nat.testBit_lt_two_pow (Nat.lt_of_lt_of_le hs (Nat.pow_le_pow_right (by omega) (by omega)))] at hd
        cases hd
      refine (sumN_bit n s (wsetN n s k) i h1 hs).2 ⟨(i + n - d) % n, d, Nat.mod_lt _ (by omega), hbit _ (Nat.mod_lt _ (by omega)), hdn, hd, ?_⟩
      rcases twelve h1 h2 with rfl | rfl | rfl | rfl | rfl | rfl | rfl | rfl | rfl | rfl | rfl | rfl <;> omega
    · rw [decide_eq_false hi]
      exact Nat.testBit_lt_two_pow (Nat.lt_of_lt_of_le (wset_lt n s (k + 1) h1) (Nat.pow_le_pow_right (by omega) (by omega)))
set_option maxHeartbeats 2000000 in
theorem law_PWalkFull (W : World) (B len cap : Nat) (A : Option Addr) (f : Nat → Nat) (hC : Code W B A len f) (hB : B ≤ W.heap.size) (hlc : len ≤ cap) (hcap : cap ≤ 9223372036854775807) :
    Calls Try.prog 8 #[.slice A len cap] W fun e w' => e = .returned (.bool true) ∧ Below W.heap.size W w' := by
  have HC := Lib.hid (drawWalkFull_any W B len cap A f hC hB hlc hcap)
  clear hC
  by_cases hlen : (1048576 : Int) < (len : Int)
  · go_enter Try.func8, Try.ntmps8
    go_wp2
    go_ret
    exact ⟨rfl, Below.refl _ _⟩
  go_enter Try.func8, Try.ntmps8
  go_wp2_with fail
  refine HC.out.mono ?_
  rintro e w1 ⟨n, s, rfl, h1, h2, h3, hb1⟩
  have HB := Lib.hid hb1
  clear hb1 hB hlc hcap
  by_cases hno : NoStep (n : Int) (s : Int)
  · have HI := Lib.hid (fun W => implWalkFull_no n s W hno)
    have HS := Lib.hid (fun W => specWalkFull_no n s W hno)
    clear hno
    go_wp2_with fail
    refine (HI.out _).mono ?_
    rintro e w2 ⟨rfl, hb2⟩
    have HB := Lib.hid (HB.out.trans (hb2.mono HB.out.size))
    clear hb2
    go_wp2_with fail
    refine (HS.out _).mono ?_
    rintro e w3 ⟨rfl, rfl⟩
    go_wp2
    go_ret
    exact ⟨rfl, HB.out⟩
  have h4 : s.testBit 0 = false := by
    obtain ⟨n', s', hn', hs', _, _, _, h4⟩ := not_noStep hno
    obtain rfl : s = s' := by omega
    exact h4
  have hwf := (walk_facts n s h1 h2 h3 h4).2.1
  rcases fst_facts n s (2 * n) (by omega) with ⟨fa, fb⟩ | ⟨fa, fb, fc⟩
  · have HI := Lib.hid (fun W => implFull_none n s W h1 h2 h3 h4 fb)
    have HS := Lib.hid (fun W => specWalkFull_none n s W h1 h2 h3 h4 fb)
    clear hno hwf fa fb
    go_wp2_with fail
    refine (HI.out _).mono ?_
    rintro e w2 ⟨rfl, hb2⟩
    have HB := Lib.hid (HB.out.trans (hb2.mono HB.out.size))
    clear hb2
    go_wp2_with fail
    refine (HS.out _).mono ?_
    rintro e w3 ⟨rfl, rfl⟩
    go_wp2
    go_ret
    exact ⟨rfl, HB.out⟩
  · have hkn := hwf (by omega)
    clear hwf
    generalize fstN n s (2 * n) = k at *
    obtain ⟨hpt, hmo, hst⟩ := full_says n s k h1 h2 h3 hkn fb
    have HI := Lib.hid (fun W => implFull_some n s k W h1 h2 h3 h4 hkn fb fc)
    have HS := Lib.hid (fun W => specWalkFull_yes n s k W h1 h2 h3 h4 fa fb fc)
    have HX := Lib.hid (fun W => implWalkSet_yes n s (k + 1) W h1 h2 h3 h4 (by omega))
    have HF := Lib.hid (fun W => implFarMost_yes n s W h1 h2 h3 h4 hpt)
    generalize mostN n s n = f9 at *
    have hwp := wrap_pow n (by omega)
    have hpw := pow_le n h2
    have hp1 := Nat.two_pow_pos n
    generalize wsetN n s (k + 1) = X at *
    generalize 2 ^ n = N at *
    have k1 : (k : Int) < (n : Int) := by omega
    have k2 := decide_eq_true k1
    have k3 : (f9 : Int) ≤ (k : Int) := by omega
    have k4 := decide_eq_true k3
    obtain ⟨K, hK⟩ : ∃ K, k + 1 = K := ⟨_, rfl⟩
    rw [hK] at HX
    have m1 : (k : Int) + 1 = (K : Int) := by omega
    have m2 : IntKind.i64.wrap ((k : Int) + 1) = (K : Int) := by rw [m1]; exact IntWalk.i64_in _ ⟨by omega, by omega⟩
    have m3 : wrap64 ((k : Int) + 1) = (K : Int) := by rw [m1]; exact IntWalk.wrap64_in _ ⟨by omega, by omega⟩
    have hw1 : IntKind.i64.wrap ((N : Int) - 1) = (N : Int) - 1 := IntWalk.i64_in _ ⟨by omega, by omega⟩
    have hw2 : wrap64 ((N : Int) - 1) = (N : Int) - 1 := IntWalk.wrap64_in _ ⟨by omega, by omega⟩
    clear hK m1 fa fb fc hno h3 h4 hpt hmo
    by_cases hs : s = 0
    · have s1 : ((s : Int) == 0) = true := by simp [hs]
      clear hs hst
      go_wp2_with fail
      refine (HI.out _).mono ?_
      rintro e w2 ⟨rfl, hb2⟩
      have HB := Lib.hid (HB.out.trans (hb2.mono HB.out.size))
      clear hb2
      go_wp2_with fail
      refine (HS.out _).mono ?_
      rintro e w3 ⟨rfl, rfl⟩
      go_wp2_with fail
      refine (HX.out _).mono ?_
      rintro e w4 ⟨rfl, hb4⟩
      have HB := Lib.hid (HB.out.trans (hb4.mono HB.out.size))
      clear hb4
      go_wp2_with fail
      refine (HF.out _).mono ?_
      rintro e w5 ⟨rfl, hb5⟩
      have HB := Lib.hid (HB.out.trans (hb5.mono HB.out.size))
      clear hb5
      go_wp2
      go_ret
      exact ⟨rfl, HB.out⟩
    · have s1 : ((s : Int) == 0) = false := by simp; omega
      have x1 : ((X : Int) == (N : Int) - 1) = true := by have := hst hs; simp; omega
      clear hs hst
      go_wp2_with fail
      refine (HI.out _).mono ?_
      rintro e w2 ⟨rfl, hb2⟩
      have HB := Lib.hid (HB.out.trans (hb2.mono HB.out.size))
      clear hb2
      go_wp2_with fail
      refine (HS.out _).mono ?_
      rintro e w3 ⟨rfl, rfl⟩
      go_wp2_with fail
      refine (HX.out _).mono ?_
      rintro e w4 ⟨rfl, hb4⟩
      have HB := Lib.hid (HB.out.trans (hb4.mono HB.out.size))
      clear hb4
      go_wp2_with fail
      refine (HF.out _).mono ?_
      rintro e w5 ⟨rfl, hb5⟩
      have HB := Lib.hid (HB.out.trans (hb5.mono HB.out.size))
      clear hb5
      go_wp2
      go_ret
      exact ⟨rfl, HB.out⟩
end Go.Proofs.Ytookciehnjnmnaa
