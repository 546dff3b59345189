/- The law FnMinus: differences turned are differences exchanged; the place 0 is among them where the sets share a place. -/
import Derived.Test.YtodiliabjaiecaaPSum
import Derived.Test.YtodiliabjaiecaaDavenport
namespace Go.Proofs.Ytodiliabjaiecaa
open Go.RowKit Go.Shelf
set_option linter.unusedVariables false
theorem drawMinus_any (W : World) (B len cap : Nat) (A : Option Addr) (f : Nat → Nat) (hC : Code W B A len f) (hB : B ≤ W.heap.size) (hlc : len ≤ cap) (hcap : cap ≤ 9223372036854775807) :
    Calls Try.prog 37 #[.slice A len cap] W (TwoPost W) := by
  have HC := Lib.hid (two_any W B len cap A f hC hB hlc hcap)
  clear hC
  go_enter Try.func37, Try.ntmps37
  go_wp2_with fail
  refine HC.out.mono ?_
  rintro e w1 ⟨n, s, t, rfl, hn1, hn2, hs, ht, hb⟩
  go_wp2
  go_ret3
  exact ⟨n, s, t, rfl, hn1, hn2, hs, ht, hb⟩
theorem turnN_bit (n b : Nat) (i : Nat) : (turnN n b (-1)).testBit i = true ↔ ∃ v, v < n ∧ b.testBit v = true ∧ rest n (-(v : Int)) = i := by
  rw [turn_map, mapN_bit]
  have e : ∀ v : Nat, (-1 : Int) * (v : Int) + 0 = -(v : Int) := fun v => by omega
  simp only [e]
theorem minus_bit (n a b i : Nat) (h1 : 1 ≤ n) (ha : a < 2 ^ n) : (sumN n a (turnN n b (-1))).testBit i = true ↔ ∃ v w, v < n ∧ b.testBit v = true ∧ w < n ∧ a.testBit w = true ∧ rest n ((w : Int) - (v : Int)) = i := by
  rw [sumN_bit n a _ i h1 ha]
  have e : ∀ v w : Nat, rest n ((w : Int) - (v : Int)) = (rest n (-(v : Int)) + w) % n := fun v w => by
    rw [Nat.add_comm, ← rest_add n w (-(v : Int)) h1, Int.sub_eq_add_neg]
  constructor
  · rintro ⟨u, w, hu, hb, hw, h5, h6⟩
    obtain ⟨v, hv, hbv, rfl⟩ := (turnN_bit n b u).1 hb
    exact ⟨v, w, hv, hbv, hw, h5, by rw [e]; exact h6⟩
  · rintro ⟨v, w, hv, hbv, hw, h5, h6⟩
    exact ⟨rest n (-(v : Int)), w, rest_lt n _ h1, (turnN_bit n b _).2 ⟨v, hv, hbv, rfl⟩, hw, h5, by rw [← e]; exact h6⟩
theorem rest_neg (n : Nat) (x : Int) (h1 : 1 ≤ n) : rest n (-((rest n x : Nat) : Int)) = rest n (-x) := by
  have g : (-((rest n x : Nat) : Int)) % (n : Int) = (-x) % (n : Int) := by
    rw [rest_cast n x h1, ← Int.zero_sub, ← Int.zero_sub, Int.sub_emod, Int.emod_emod, ← Int.sub_emod]
  unfold rest at *
  rw [g]
theorem minus_turn (n a b : Nat) (h1 : 1 ≤ n) (ha : a < 2 ^ n) (hb : b < 2 ^ n) : turnN n (sumN n a (turnN n b (-1))) (-1) = sumN n b (turnN n a (-1)) := by
  refine Nat.eq_of_testBit_eq fun i => ?_
  rw [Bool.eq_iff_iff, turnN_bit, minus_bit n b a i h1 hb]
  constructor
  · rintro ⟨u, hu, hd, rfl⟩
    obtain ⟨v, w, hv, hbv, hw, haw, rfl⟩ := (minus_bit n a b u h1 ha).1 hd
    exact ⟨w, v, hw, haw, hv, hbv, by rw [rest_neg n _ h1, Int.neg_sub]⟩
  · rintro ⟨w, v, hw, haw, hv, hbv, rfl⟩
    exact ⟨rest n ((w : Int) - (v : Int)), rest_lt n _ h1, (minus_bit n a b _ h1 ha).2 ⟨v, w, hv, hbv, hw, haw, rfl⟩, by rw [rest_neg n _ h1, Int.neg_sub]⟩
theorem rest_zero (n v w : Nat) (h1 : 1 ≤ n) (hv : v < n) (hw : w < n) (h : rest n ((w : Int) - (v : Int)) = 0) : w = v := by
  have g := rest_cast n ((w : Int) - (v : Int)) h1
  rw [h] at g
  by_cases hl : v ≤ w
  · rw [Int.emod_eq_of_lt (by omega) (by omega)] at g
    omega
  · rw [← Int.add_emod_right, Int.emod_eq_of_lt (by omega) (by omega)] at g
    omega
theorem minus_zero (n a b : Nat) (h1 : 1 ≤ n) (ha : a < 2 ^ n) (hb : b < 2 ^ n) : sumN n a (turnN n b (-1)) % 2 = 1 ↔ a &&& b ≠ 0 := by
  have h := minus_bit n a b 0 h1 ha
  rw [Nat.testBit_zero, decide_eq_true_eq] at h
  rw [h]
  constructor
  · rintro ⟨v, w, hv, hbv, hw, haw, h6⟩
    obtain rfl := rest_zero n v w h1 hv hw h6
    exact bit_ne (v := w) (by rw [Nat.testBit_and, haw, hbv]; rfl)
  · intro hne
    obtain ⟨v, hv⟩ := some_bit _ hne
    rw [Nat.testBit_and, Bool.and_eq_true] at hv
    have hl := lt_of_bits n b hb v hv.2
    exact ⟨v, v, hl, hv.2, hl, hv.1, by simp [rest]⟩
theorem law_Minus (W : World) (B len cap : Nat) (A : Option Addr) (f : Nat → Nat) (hC : Code W B A len f) (hB : B ≤ W.heap.size) (hlc : len ≤ cap) (hcap : cap ≤ 9223372036854775807) :
    Calls Try.prog 9 #[.slice A len cap] W fun e w' => e = .returned (.bool true) ∧ Below W.heap.size W w' := by
  have HC := Lib.hid (drawMinus_any W B len cap A f hC hB hlc hcap)
  clear hC
  by_cases hlen : (1048576 : Int) < (len : Int)
  · go_enter Try.func9, Try.ntmps9
    go_wp2
    go_ret
    exact ⟨rfl, Below.refl _ _⟩
  · go_enter Try.func9, Try.ntmps9
    go_wp2_with fail
    refine HC.out.mono ?_
    rintro e w1 ⟨n, s, t, rfl, hn1, hn2, hs, ht, hb1⟩
    have z1 := hb1.size
    by_cases hno : NotIn (n : Int) (s : Int) ∨ NotIn (n : Int) (t : Int)
    · have HN := Lib.hid hno
      clear hno
      go_wp2_with fail
      refine (implMinus_no n s t _ HN.out).mono ?_
      rintro e w2 ⟨rfl, hb2⟩
      go_wp2_with fail
      refine (specMinus_no n s t _ HN.out).mono ?_
      rintro e w3 ⟨rfl, rfl⟩
      go_wp2
      go_ret
      exact ⟨rfl, hb1.trans (hb2.mono z1)⟩
    · obtain ⟨m, s', hm, hs', h1, h2, h3⟩ := not_notIn (fun hh => hno (.inl hh))
      obtain ⟨m', t', hm', ht', _, _, h4⟩ := not_notIn (fun hh => hno (.inr hh))
      obtain rfl : n = m := by omega
      obtain rfl : n = m' := by omega
      obtain rfl : s = s' := by omega
      obtain rfl : t = t' := by omega
      clear hno hm hm' hs' ht' hn2
      have htl := turnN_lt n t (-1) h1
      have hcm := sum_comm n s (turnN n t (-1)) h1 h3 htl
      have hsp := fun W => specMinus_yes n s t W h1 h2 h3 h4
      have him := fun W => implMinus_yes n s t W h1 h2 h3 h4
      have hir := fun W => implMinus_yes n t s W h1 h2 h4 h3
      rw [← hcm] at hsp
      have hso := sumN_lt n s (turnN n t (-1))
      have hit := fun W => implTurn_yes n (sumN n s (turnN n t (-1))) (-1) W h1 h2 hso (by omega) (by omega)
      rw [minus_turn n s t h1 h3 h4] at hit
      have hz := minus_zero n s t h1 h3 h4
      have hpw := pow_le n h2
      clear hcm htl
      have HSp := Lib.hid hsp
      have HIm := Lib.hid him
      have HIr := Lib.hid hir
      have HIt := Lib.hid hit
      clear hsp him hir hit
      generalize sumN n s (turnN n t (-1)) = o at *
      generalize sumN n t (turnN n s (-1)) = o' at *
      have hm1 : bits .and .i64 (o : Int) 1 = ((o % 2 : Nat) : Int) := by
        rw [show (1 : Int) = ((1 : Nat) : Int) from rfl, and_nat _ _ (by omega) (by omega), Nat.and_one_is_mod]
      have hm2 : bits .and .i64 (s : Int) (t : Int) = ((s &&& t : Nat) : Int) := and_nat _ _ (by omega) (by omega)
      have M1 := Lib.hid hm1
      have M2 := Lib.hid hm2
      clear hm1 hm2
      have hz2 : o % 2 = 0 ∨ o % 2 = 1 := by omega
      have HZ := Lib.hid hz
      have HZ2 := Lib.hid hz2
      clear hz hz2
      go_wp2_with fail
      refine (HIm.out _).mono ?_
      rintro e w2 ⟨rfl, hb2⟩
      have z2 := hb2.size
      go_wp2_with fail
      refine (HSp.out _).mono ?_
      rintro e w3 ⟨rfl, rfl⟩
      go_wp2_with fail
      refine (HIt.out _).mono ?_
      rintro e w4 ⟨rfl, hb4⟩
      have z4 := hb4.size
      go_wp2_with fail
      refine (HIr.out _).mono ?_
      rintro e w5 ⟨rfl, hb5⟩
      have hB5 : Below W.heap.size W w5 := ((hb1.trans (hb2.mono z1)).trans (hb4.mono (by omega))).trans (hb5.mono (by omega))
      clear hb1 hb2 hb4 hb5
      have hm1 := M1.out
      have hm2 := M2.out
      by_cases hst : s &&& t = 0
      · have ho : o % 2 = 0 := by
          rcases HZ2.out with h | h
          · exact h
          · exact absurd hst (HZ.out.1 h)
        rw [ho] at hm1
        rw [hst] at hm2
        clear ho hst
        go_wp2
        go_ret
        exact ⟨rfl, hB5⟩
      · have ho : o % 2 = 1 := HZ.out.2 hst
        rw [ho] at hm1
        generalize s &&& t = x at *
        have hxq : ((x : Int) == 0) = false := by simp; omega
        have hxn : ((x : Int) != 0) = true := by simp; omega
        clear ho
        go_wp2
        go_ret
        exact ⟨rfl, hB5⟩
end Go.Proofs.Ytodiliabjaiecaa
