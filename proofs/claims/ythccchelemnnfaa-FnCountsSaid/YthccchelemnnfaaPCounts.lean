/- The law FnCounts: counts add up to products, and are positive just at the places of the sum. -/
import Derived.Test.YthccchelemnnfaaStepQ
import Derived.Test.YthccchelemnnfaaPSum
import Derived.Test.YthccchelemnnfaaLaw4
import Derived.Test.YthccchelemnnfaaInts
namespace Go.Proofs.Ythccchelemnnfaa
open Go.RowKit Go.Shelf
set_option linter.unusedVariables false
theorem drawCounts_any (W : World) (B len cap : Nat) (A : Option Addr) (f : Nat → Nat) (hC : Code W B A len f) (hB : B ≤ W.heap.size) (hlc : len ≤ cap) (hcap : cap ≤ 9223372036854775807) :
    Calls Try.prog 16 #[.slice A len cap] W (TwoPost W) := by
  have HC := Lib.hid (two_any W B len cap A f hC hB hlc hcap)
  clear hC
  go_enter Try.func16, Try.ntmps16
  go_wp2_with fail
  refine HC.out.mono ?_
  rintro e w1 ⟨n, s, t, rfl, hn1, hn2, hs, ht, hb⟩
  go_wp2
  go_ret3
  exact ⟨n, s, t, rfl, hn1, hn2, hs, ht, hb⟩
theorem sameInts_any (sa sb : Value) (xs : List Int) (w : World) (ba bb : Nat) (ha : IsInts w ba sa xs) (hb : IsInts w bb sb xs) :
    Calls Try.prog 19 #[sa, sb] w fun e w' => e = .returned (.bool true) ∧ Below w.heap.size w w' := by
  by_cases hx : xs = []
  · subst hx
    rcases ha.shape with ⟨rfl, _⟩ | ⟨g, cap, rfl, hg1, hg2, hg3⟩ <;> rcases hb.shape with ⟨rfl, _⟩ | ⟨g', cap', rfl, hg1', hg2', hg3'⟩
    all_goals
      clear ha hb
      (try simp only [List.length_nil])
      go_enter Try.func19, Try.ntmps19
      go_wp2
      go_loopw [5] (fun u wr => u = .int .i64 0 ∧ wr = w) (fun _ _ => 0)
      case atStart => exact ⟨rfl, rfl⟩
      case round =>
        obtain ⟨rfl, rfl⟩ := hrel
        go_wp2
        go_ret
        exact ⟨rfl, Below.refl _ _⟩
  · rcases ha.shape with ⟨rfl, h0⟩ | ⟨g, cap, rfl, hg1, hg2, hg3⟩
    · exact absurd h0 hx
    · rcases hb.shape with ⟨rfl, h0⟩ | ⟨g', cap', rfl, hg1', hg2', hg3'⟩
      · exact absurd h0 hx
      · unfold maxLen at hg3
        have HA := Lib.hid ha
        have HB := Lib.hid hb
        clear ha hb hg3' hx
        go_enter Try.func19, Try.ntmps19
        go_wp2
        go_loopw [5] (fun u wr => ∃ k : Nat, k ≤ xs.length ∧ u = .int .i64 (k : Int) ∧ Below w.heap.size w wr) (fun u _ => xs.length - (intOf u).toNat)
        case atStart => exact ⟨0, Nat.zero_le _, rfl, Below.refl _ _⟩
        case round =>
          obtain ⟨k, hk, rfl, hB⟩ := hrel
          by_cases hlt : k < xs.length
          · have c1 := (hB.cell (p := ⟨g, k, none⟩) hg2).trans (HA.out.cell hlt)
            have c2 := (hB.cell (p := ⟨g', k, none⟩) hg2').trans (HB.out.cell hlt)
            have i1 : (0 : Int) ≤ (k : Int) := by omega
            have i2 : (k : Int) < (xs.length : Int) := by omega
            generalize xs.getD k 0 = z at c1 c2
            go_wp2
            go_quiet (fail)
            go_wp2
            go_roundw
            case rel => exact ⟨k + 1, by omega, by go_num, below_drewN hB _⟩
            case measure => simp [intOf]; omega
          · have e : k = xs.length := by omega
            subst e
            go_wp2
            go_ret
            exact ⟨rfl, hB⟩
theorem sumTo_le (c : Nat → Nat) (b k : Nat) (h : ∀ i, i < k → c i ≤ b) : sumTo c k ≤ b * k := by
  induction k with
  | zero => exact Nat.le_refl _
  | succ k ih =>
    have := ih (fun i hi => h i (by omega))
    have := h k (by omega)
    show sumTo c k + c k ≤ b * (k + 1)
    rw [Nat.mul_succ]; omega
theorem total_any (g n : Nat) (xs : List Int) (c : Nat → Nat) (w : World) (b : Nat) (h : IsInts w b (.slice (some ⟨g, 0, none⟩) n n) xs) (hl : xs.length = n) (hn : n ≤ 12) (hc : ∀ i, i < n → xs.getD i 0 = (c i : Int)) (hb : ∀ i, i < n → c i ≤ 200) :
    Calls Try.prog 20 #[.slice (some ⟨g, 0, none⟩) n n] w fun e w' => e = .returned (.int .i64 ((sumTo c n : Nat) : Int)) ∧ w = w' := by
  have HA := Lib.hid h
  have HC := Lib.hid hc
  have HB := Lib.hid hb
  clear h hc hb
  go_enter Try.func20, Try.ntmps20
  go_wp2
  go_loop [3, 4] (fun u v => ∃ k : Nat, k ≤ n ∧ u = .int .i64 ((sumTo c k : Nat) : Int) ∧ v = .int .i64 (k : Int)) (fun _ v => n - (intOf v).toNat)
  case atStart => exact ⟨0, Nat.zero_le _, rfl, rfl⟩
  case round =>
    obtain ⟨k, hk, rfl, rfl⟩ := hrel
    by_cases hlt : k < n
    · have c1 := HA.out.cell (i := k) (by omega)
      rw [HC.out k hlt] at c1
      have hle := sumTo_le c 200 k (fun i hi => HB.out i (by omega))
      have hck := HB.out k hlt
      have hkk : 200 * k ≤ 200 * 12 := Nat.mul_le_mul_left _ (by omega)
      have i1 : (0 : Int) ≤ (k : Int) := by omega
      have i2 : (k : Int) < (n : Int) := by omega
      have HU := Lib.hid (show sumTo c (k + 1) = sumTo c k + c k from rfl)
      generalize c k = z at *
      generalize sumTo c k = s at *
      go_wp2
      go_round
      case rel => exact ⟨k + 1, by omega, by rw [HU.out]; go_num, by go_num⟩
      case measure => simp [intOf]; omega
    · have e : k = n := by omega
      subst e
      go_wp2
      go_ret
      exact ⟨rfl, rfl⟩
/-- How often i is a sum of a place of a and one of b. -/
def cval (n a b j i : Nat) : Nat := sumTo (fun v => b2n (a.testBit v) * sumTo (fun w => b2n (b.testBit w) * b2n ((v + w) % n == i)) n) j
theorem rowC_val (n b v k : Nat) (xs : List Int) (i : Nat) (hl : xs.length = n) (hi : i < n) : (rowC n b v k xs).getD i 0 = xs.getD i 0 + ((sumTo (fun w => b2n (b.testBit w) * b2n ((v + w) % n == i)) k : Nat) : Int) := by
  induction k with
  | zero => simp [rowC, overSet, upto, sumTo]
  | succ k ih =>
    have hlen := rowC_len n b v k xs
    show (if b.testBit k then stepC n v k (rowC n b v k xs) else rowC n b v k xs).getD i 0 = xs.getD i 0 + ((sumTo (fun w => b2n (b.testBit w) * b2n ((v + w) % n == i)) k + b2n (b.testBit k) * b2n ((v + k) % n == i) : Nat) : Int)
    cases hb : b.testBit k
    · rw [if_neg (by simp), ih]
      simp [b2n]
    · rw [if_pos rfl]
      unfold stepC
      rw [getD_set_int]
      by_cases e : (v + k) % n = i
      · rw [if_pos ⟨e, by rw [hlen, hl, e]; exact hi⟩, e, ih]
        simp [b2n]
        omega
      · rw [if_neg (fun h => e h.1), ih]
        have e' : ((v + k) % n == i) = false := by simpa using e
        rw [e']
        simp [b2n]
theorem counts_val (n a b j i : Nat) (hi : i < n) : (countsN n a b j).getD i 0 = ((cval n a b j i : Nat) : Int) := by
  induction j with
  | zero => simp [countsN, overSet, upto, cval, sumTo, hi]
  | succ j ih =>
    have e : cval n a b (j + 1) i = cval n a b j i + b2n (a.testBit j) * sumTo (fun w => b2n (b.testBit w) * b2n ((j + w) % n == i)) n := rfl
    rw [countsN_succ, e]
    cases hb : a.testBit j
    · rw [if_neg (by simp), ih]
      simp [b2n]
    · rw [if_pos rfl, rowC_val n b j n _ i (countsN_len n a b j) hi, ih]
      simp [b2n]
theorem sumTo_pos (f : Nat → Nat) (k : Nat) : 0 < sumTo f k ↔ ∃ v, v < k ∧ 0 < f v := by
  induction k with
  | zero => simp [sumTo]
  | succ k ih =>
    show 0 < sumTo f k + f k ↔ _
    constructor
    · intro h
      by_cases hk : 0 < f k
      · exact ⟨k, by omega, hk⟩
      · obtain ⟨v, hv, h'⟩ := ih.1 (by omega)
        exact ⟨v, by omega, h'⟩
    · rintro ⟨v, hv, h⟩
      by_cases e : v = k
      · subst e; omega
      · have := ih.2 ⟨v, by omega, h⟩
        omega
theorem b2n_pos (x : Bool) : 0 < b2n x ↔ x = true := by cases x <;> simp [b2n]
theorem cval_pos (n a b i : Nat) (h1 : 1 ≤ n) (ha : a < 2 ^ n) : 0 < cval n a b n i ↔ (sumN n a b).testBit i = true := by
  rw [sumN_bit n a b i h1 ha]
  unfold cval
  rw [sumTo_pos]
  constructor
  · rintro ⟨v, hv, h⟩
    have h3 := Nat.pos_of_mul_pos_right h
    have h4 := Nat.pos_of_mul_pos_left h
    first
    | (rw [sumTo_pos] at h4
       rw [b2n_pos] at h3
       obtain ⟨w, hw, h5⟩ := h4
       have h6 := Nat.pos_of_mul_pos_right h5
       have h7 := Nat.pos_of_mul_pos_left h5
       rw [b2n_pos] at h6 h7
       exact ⟨w, v, hw, h6, hv, h3, by rw [Nat.add_comm]; exact eq_of_beq h7⟩)
    | (rw [sumTo_pos] at h3
       rw [b2n_pos] at h4
       obtain ⟨w, hw, h5⟩ := h3
       have h6 := Nat.pos_of_mul_pos_right h5
       have h7 := Nat.pos_of_mul_pos_left h5
       rw [b2n_pos] at h6 h7
       exact ⟨w, v, hw, h7, hv, h4, by rw [Nat.add_comm]; exact eq_of_beq h6⟩)
  · rintro ⟨w, v, hw, hb, hv, hav, e⟩
    refine ⟨v, hv, Nat.mul_pos ((b2n_pos _).2 hav) ((sumTo_pos _ _).2 ⟨w, hw, Nat.mul_pos ((b2n_pos _).2 hb) ((b2n_pos _).2 ?_)⟩)⟩
    rw [Nat.add_comm, e]
    exact beq_self_eq_true i
theorem one_hit (n p : Nat) (hp : p < n) : sumTo (fun i => b2n (p == i)) n = 1 := by
  have h : ∀ k, sumTo (fun i => b2n (p == i)) k = if p < k then 1 else 0 := by
    intro k
    induction k with
    | zero => rfl
    | succ k ih =>
      show sumTo (fun i => b2n (p == i)) k + b2n (p == k) = _
      rw [ih]
      by_cases e : p = k
      · subst e
        simp [b2n]
      · have e' : (p == k) = false := by simpa using e
        rw [e']
        by_cases h : p < k
        · rw [if_pos h, if_pos (by omega)]; rfl
        · rw [if_neg h, if_neg (by omega)]; rfl
  rw [h n, if_pos hp]
theorem row_total (n b v : Nat) (h1 : 1 ≤ n) (h2 : n ≤ 12) (hb : b < 2 ^ n) : sumTo (fun i => sumTo (fun w => b2n (b.testBit w) * b2n ((v + w) % n == i)) n) n = sizeN b := by
  have h := sumTo_swap (fun i w => b2n (b.testBit w) * b2n ((v + w) % n == i)) n n
  refine h.trans ?_
  rw [size_sum n b h2 hb]
  refine sumTo_congr _ _ _ fun w hw => ?_
  have e := sumTo_mul (b2n (b.testBit w)) (fun i => b2n ((v + w) % n == i)) n
  rw [one_hit n _ (Nat.mod_lt _ h1), Nat.mul_one] at e
  exact e
theorem cval_total (n a b : Nat) (h1 : 1 ≤ n) (h2 : n ≤ 12) (ha : a < 2 ^ n) (hb : b < 2 ^ n) : sumTo (fun i => cval n a b n i) n = sizeN a * sizeN b := by
  have h := (sumTo_swap (fun v i => b2n (a.testBit v) * sumTo (fun w => b2n (b.testBit w) * b2n ((v + w) % n == i)) n) n n).symm
  have e : sumTo (fun v => sumTo (fun i => b2n (a.testBit v) * sumTo (fun w => b2n (b.testBit w) * b2n ((v + w) % n == i)) n) n) n = sumTo (fun v => sizeN b * b2n (a.testBit v)) n := by
    refine sumTo_congr _ _ _ fun v hv => ?_
    have e2 := sumTo_mul (b2n (a.testBit v)) (fun i => sumTo (fun w => b2n (b.testBit w) * b2n ((v + w) % n == i)) n) n
    rw [row_total n b v h1 h2 hb] at e2
    rw [Nat.mul_comm (sizeN b)]
    exact e2
  have e3 := sumTo_mul (sizeN b) (fun v => b2n (a.testBit v)) n
  rw [← size_sum n a h2 ha] at e3
  rw [Nat.mul_comm (sizeN a)]
  exact h.trans (e.trans e3)
theorem law_Counts (W : World) (B len cap : Nat) (A : Option Addr) (f : Nat → Nat) (hC : Code W B A len f) (hB : B ≤ W.heap.size) (hlc : len ≤ cap) (hcap : cap ≤ 9223372036854775807) :
    Calls Try.prog 4 #[.slice A len cap] W fun e w' => e = .returned (.bool true) ∧ Below W.heap.size W w' := by
  have HC := Lib.hid (drawCounts_any W B len cap A f hC hB hlc hcap)
  clear hC
  by_cases hlen : (1048576 : Int) < (len : Int)
  · go_enter Try.func4, Try.ntmps4
    go_wp2
    go_ret
    exact ⟨rfl, Below.refl _ _⟩
  · go_enter Try.func4, Try.ntmps4
    go_wp2_with fail
    refine HC.out.mono ?_
    rintro e w1 ⟨n, s, t, rfl, hn1, hn2, hs, ht, hb1⟩
    have HB := Lib.hid hb1
    clear hb1 hB hlc hcap
    by_cases hno : NotIn (n : Int) (s : Int) ∨ NotIn (n : Int) (t : Int)
    · have HN := Lib.hid hno
      clear hno
      go_wp2_with fail
      refine (implCounts_no n s t _ HN.out).mono ?_
      rintro e w2 ⟨rfl, hb2⟩
      have HB := Lib.hid (HB.out.trans (hb2.mono HB.out.size))
      clear hb2
      go_wp2_with fail
      refine (specCounts_no n s t _ HN.out).mono ?_
      rintro e w3 ⟨sv, rfl, hb3, hI⟩
      have HI := Lib.hid hI
      have HB := Lib.hid (HB.out.trans (hb3.mono HB.out.size))
      clear hI hb3
      go_wp2_with fail
      refine (sameInts_any _ _ [] _ _ _ (isInts_nil _ 0) HI.out).mono ?_
      rintro e w4 ⟨rfl, hb4⟩
      have HI := Lib.hid (HI.out.belowAll hb4)
      have HB := Lib.hid (HB.out.trans (hb4.mono HB.out.size))
      clear hb4
      go_wp2_with fail
      refine (sameInts_any _ _ [] _ _ _ (isInts_nil _ 0) HI.out).mono ?_
      rintro e w5 ⟨rfl, hb5⟩
      have HB := Lib.hid (HB.out.trans (hb5.mono HB.out.size))
      clear hb5
      go_wp2
      go_ret
      exact ⟨rfl, HB.out⟩
    · obtain ⟨m, s', hm, hs', h1, h2, h3⟩ := not_notIn (fun hh => hno (.inl hh))
      obtain ⟨m', t', hm', ht', _, _, h4⟩ := not_notIn (fun hh => hno (.inr hh))
      obtain rfl : n = m := by omega
      obtain rfl : n = m' := by omega
      obtain rfl : s = s' := by omega
      obtain rfl : t = t' := by omega
      clear hno hm hm' hs' ht' hn2 hs ht
      have hpw := pow_le n h2
      have HLen := Lib.hid (countsN_len n s t n)
      have HVal := Lib.hid (fun i (hi : i < n) => counts_val n s t n i hi)
      have HBd : Hid (∀ i, i < n → cval n s t n i ≤ 200) := Lib.hid (fun i hi => by
        have h := (countsN_bd n s t n i).2
        rw [counts_val n s t n i hi] at h
        have hm : n * n ≤ 12 * 12 := Nat.mul_le_mul h2 h2
        omega)
      have HPos := Lib.hid (fun i => cval_pos n s t i h1 h3)
      have htot := cval_total n s t h1 h2 h3 h4
      have hsl := sumN_lt n s t
      have hza := sizeN_le n s h2 h3
      have hzb := sizeN_le n t h2 h4
      have HIm := Lib.hid (fun W => implCounts_yes n s t W h1 h2 h3 h4)
      have HSp := Lib.hid (fun W => specCounts_yes n s t W h1 h2 h3 h4)
      have HSu := Lib.hid (fun W => implSum_yes n s t W h1 h2 h3 h4)
      have HSa := Lib.hid (fun W => size_any s W (by omega))
      have HSb := Lib.hid (fun W => size_any t W (by omega))
      have HTo := Lib.hid htot
      clear htot
      generalize countsN n s t n = xs at *
      generalize cval n s t n = c at *
      generalize sumN n s t = o at *
      generalize sizeN s = za at *
      generalize sizeN t = zb at *
      have hzz : za * zb ≤ 12 * 12 := Nat.mul_le_mul (by omega) (by omega)
      have hmul : IntKind.i64.wrap ((za : Int) * (zb : Int)) = ((za * zb : Nat) : Int) := by
        rw [← Int.natCast_mul]
        exact IntWalk.i64_in _ (by omega)
      go_wp2_with fail
      refine (HIm.out _).mono ?_
      rintro e w2 ⟨g, rfl, hb2, hI2⟩
      have hgl := (World.ownsRow.lt hI2 g rfl).2
      have HI2 := Lib.hid hI2
      have HB := Lib.hid (HB.out.trans (hb2.mono HB.out.size))
      clear hI2 hb2
      go_wp2_with fail
      refine (HSp.out _).mono ?_
      rintro e w3 ⟨rfl, hb3, hI3⟩
      have HI2 := Lib.hid (HI2.out.belowAll hb3)
      have HI3 := Lib.hid hI3
      have HB := Lib.hid (HB.out.trans (hb3.mono HB.out.size))
      have z3 := hb3.size
      clear hI3 hb3
      go_wp2_with fail
      refine (sameInts_any _ _ xs _ _ _ (by rw [HLen.out] at *; exact HI2.out) (by rw [HLen.out] at *; exact HI3.out)).mono ?_
      rintro e w4 ⟨rfl, hb4⟩
      have HI2 := Lib.hid (HI2.out.belowAll hb4)
      have HB := Lib.hid (HB.out.trans (hb4.mono HB.out.size))
      have z4 := hb4.size
      clear hb4
      go_wp2_with fail
      refine (HSu.out _).mono ?_
      rintro e w5 ⟨rfl, hb5⟩
      have HI2 := Lib.hid (HI2.out.belowAll hb5)
      have HB := Lib.hid (HB.out.trans (hb5.mono HB.out.size))
      have z5 := hb5.size
      clear hb5
      go_wp2
      go_loopw [12] (fun u wr => ∃ k : Nat, k ≤ n ∧ u = .int .i64 (k : Int) ∧ Below w5.heap.size w5 wr) (fun u _ => n - (intOf u).toNat)
      case atStart => exact ⟨0, Nat.zero_le _, rfl, Below.refl _ _⟩
      case round =>
        obtain ⟨k, hk, rfl, hB⟩ := hrel
        by_cases hlt : k < n
        · have c1 := (hB.cell (p := ⟨g, k, none⟩) (by simp; omega)).trans (HI2.out.cell (i := k) (by rw [HLen.out]; exact hlt))
          rw [HVal.out k hlt] at c1
          have hbt := has_nat o k (by omega)
          have hps := HPos.out k
          have i1 : (0 : Int) ≤ (k : Int) := by omega
          have i2 : (k : Int) < (n : Int) := by omega
          generalize c k = z at *
          cases hbit : o.testBit k
          · have hz0 : z = 0 := by
              rcases Nat.eq_zero_or_pos z with h | h
              · exact h
              · rw [hps.1 h] at hbit
                cases hbit
            subst hz0
            rw [hbit] at hbt
            clear hps
            go_wp2
            go_quiet (fail)
            go_wp2
            go_roundw
            case rel => exact ⟨k + 1, by omega, by go_num, below_drewN hB _⟩
            case measure => simp [intOf]; omega
          · have hz1 : (0 : Int) < (z : Int) := by
              have := hps.2 hbit
              omega
            have hz2 : 0 < z := by omega
            rw [hbit] at hbt
            clear hps
            go_wp2
            go_quiet (fail)
            go_wp2
            go_roundw
            case rel => exact ⟨k + 1, by omega, by go_num, below_drewN hB _⟩
            case measure => simp [intOf]; omega
        · have e : k = n := by omega
          subst e
          have HI4 := Lib.hid (HI2.out.belowAll hB)
          have HB := Lib.hid (HB.out.trans (hB.mono HB.out.size))
          clear hB
          go_wp2_with fail
          refine (total_any g k xs c _ _ HI4.out HLen.out h2 HVal.out HBd.out).mono ?_
          rintro e w6 ⟨rfl, rfl⟩
          rw [HTo.out]
          go_wp2_with fail
          refine (HSa.out _).mono ?_
          rintro e w7 ⟨rfl, rfl⟩
          go_wp2_with fail
          refine (HSb.out _).mono ?_
          rintro e w8 ⟨rfl, rfl⟩
          go_wp2
          go_ret
          exact ⟨rfl, HB.out⟩
end Go.Proofs.Ythccchelemnnfaa
