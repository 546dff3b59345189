/- Promises of chapter 10 over given contracts: how far places are. Written by gen121.py. -/
import Derived.Test.YtnlalccnhpblkaaPWrdK
import Derived.Test.YtnlalccnhpblkaaWrdPt
import Derived.Test.YtnlalccnhpblkaaWrdY
import Derived.Test.YtnlalccnhpblkaaStepWB
import Derived.Test.YtnlalccnhpblkaaSame
namespace Go.Proofs.Ytnlalccnhpblkaa
open Go.RowKit Go.Shelf
set_option linter.unusedVariables false
theorem part_bothW (n s : Nat) (h1 : 1 ≤ n) (hs : s < 2 ^ n) : partN n (bothN n s) = partN n s := by
  unfold partN
  rw [parts_both n s h1 hs]
theorem end_neg (ls : List Nat) (cs : List Int) : endI ls (cs.map fun c => -c) = -endI ls cs := by
  induction ls generalizing cs with
  | nil => cases cs <;> rfl
  | cons l ls ih =>
    cases cs with
    | nil => rfl
    | cons c cs =>
      show (l : Int) * -c + endI ls (cs.map fun c => -c) = -((l : Int) * c + endI ls cs)
      rw [ih, Int.mul_neg]; omega
theorem abs_neg (cs : List Int) : absL (cs.map fun c => -c) = absL cs := by
  induction cs with
  | nil => rfl
  | cons c cs ih =>
    show (-c).natAbs + absL (cs.map fun c => -c) = c.natAbs + absL cs
    rw [ih, Int.natAbs_neg]
theorem endW_neg (n : Nat) (ls : List Nat) (cs : List Int) (h1 : 1 ≤ n) : endW n ls (cs.map fun c => -c) = neg n (endW n ls cs) := by
  unfold endW neg
  rw [end_neg, rest_neg n _ h1]
theorem short_neg (n : Nat) (ls : List Nat) (v : Nat) (cs : List Int) (h1 : 1 ≤ n) (h : shortC n ls v = some cs) : ∃ es, shortC n ls (neg n v) = some es ∧ absL es ≤ absL cs := by
  obtain ⟨a, b, c, _⟩ := short_some n ls v cs h
  have hd : (cs.map fun c => -c).length = ls.length := by rw [List.length_map]; exact a
  have he : endW n ls (cs.map fun c => -c) = neg n v := by rw [endW_neg n ls cs h1, b]
  cases e : shortC n ls (neg n v) with
  | none =>
    have := short_none n ls (neg n v) e _ hd he
    rw [abs_neg] at this
    omega
  | some es =>
    have := (short_some n ls (neg n v) es e).2.2.2 _ hd he
    rw [abs_neg] at this
    exact ⟨es, rfl, this⟩
theorem far_neg (n : Nat) (ls : List Nat) (v : Nat) (h1 : 1 ≤ n) (hv : v < n) : farV n ls (neg n v) = farV n ls v := by
  unfold farV
  cases e : shortC n ls v with
  | none =>
    cases e2 : shortC n ls (neg n v) with
    | none => rfl
    | some es =>
      obtain ⟨fs, h, _⟩ := short_neg n ls (neg n v) es h1 e2
      rw [neg_neg' n v h1 hv, e] at h
      cases h
  | some cs =>
    obtain ⟨es, h, h2⟩ := short_neg n ls v cs h1 e
    obtain ⟨fs, h3, h4⟩ := short_neg n ls (neg n v) es h1 h
    rw [neg_neg' n v h1 hv, e] at h3
    injection h3 with h3
    subst h3
    rw [h]
    show (absL es : Int) = (absL cs : Int)
    omega
theorem far_turn (n : Nat) (ls : List Nat) (v : Nat) (h1 : 1 ≤ n) (hv : v < n) : farV n ls ((n - v) % n) = farV n ls v := by
  have e : (n - v) % n = neg n v := by
    rw [neg_val n v h1 hv]
    by_cases h : v = 0
    · subst h; simp
    · rw [if_neg h, Nat.mod_eq_of_lt (by omega)]
  rw [e, far_neg n ls v h1 hv]
theorem far_zero (n : Nat) (ls : List Nat) (h1 : 1 ≤ n) : farV n ls 0 = 0 := by
  have hd : (List.replicate ls.length (0 : Int)).length = ls.length := List.length_replicate ..
  have he : endW n ls (List.replicate ls.length (0 : Int)) = 0 := by
    unfold endW
    rw [(end_zero ls).1]
    exact rest_self n 0 (by omega)
  unfold farV
  cases e : shortC n ls 0 with
  | none =>
    have := short_none n ls 0 e _ hd he
    rw [(end_zero ls).2] at this
    omega
  | some cs =>
    have := (short_some n ls 0 cs e).2.2.2 _ hd he
    rw [(end_zero ls).2] at this
    show (absL cs : Int) = 0
    omega
theorem far_yes (n : Nat) (xs : List Int) (v : Nat) (hL : LetIn (n : Int) xs) (hv : v < n) :
    ((partN n (maskL (letL xs))).testBit v = true ∧ ∃ x : Nat, farV n (letL xs) v = (x : Int)) ∨ ((partN n (maskL (letL xs))).testBit v = false ∧ farV n (letL xs) v = -1) := by
  have hn := hL.1
  have hl : ∀ l ∈ letL xs, l < n := fun l hl => by have := let_mem (n : Int) xs hL l hl; omega
  have h := short_part n (letL xs) v (by omega) (by omega) hl hv
  unfold signsN at h
  rw [part_bothW n _ (by omega) (mask_lt n _ hl)] at h
  unfold farV
  cases e : shortC n (letL xs) v with
  | none => rw [e] at h; exact .inr ⟨h.symm, rfl⟩
  | some cs => rw [e] at h; exact .inl ⟨h.symm, _, rfl⟩
/-- A ring and letters. -/
def LetOnly (W : World) (e : Ending) (w' : World) : Prop :=
  ∃ (n : Nat) (lv : Value) (xs : List Int), e = .returned (.tuple #[.int .i64 (n : Int), lv]) ∧ 2 ≤ n ∧ n ≤ 12 ∧ 1 ≤ xs.length ∧ xs.length ≤ 3 ∧ Below W.heap.size W w' ∧ IsInts w' W.heap.size lv xs
theorem drawWordFar_any (W : World) (B len cap : Nat) (A : Option Addr) (f : Nat → Nat) (hC : Code W B A len f) (hB : B ≤ W.heap.size) (hlc : len ≤ cap) (hcap : cap ≤ 9223372036854775807) :
    Calls Try.prog 21 #[.slice A len cap] W (LetOnly W) := by
  have HO := Lib.hid (open_any W B len cap A f hC hB hlc hcap)
  clear hC
  go_enter Try.func21, Try.ntmps21
  go_wp2_with fail
  refine HO.out.mono ?_
  rintro e w1 ⟨R, A', len', cap', rfl, hR, hl, hRd, hCd, hb1⟩
  have hWR : W.heap.size ≤ R := hR
  have HL := Lib.hid (l92Letters_any W w1 B R 0 hWR hb1 ⟨⟨A', len', cap', f, hRd, hCd, hl⟩, by omega⟩ (by omega))
  clear hRd hCd hb1 hl HO
  go_wp2_with fail
  refine HL.out.mono ?_
  rintro e w2 ⟨n, lv, xs, q, rfl, hn1, hn2, hx1, hx3, hq, hR2, hB2, hI2, hE2⟩
  go_wp2
  go_ret2
  exact ⟨n, _, xs, rfl, hn1, hn2, hx1, hx3, hB2, hI2.base (by omega)⟩
set_option maxHeartbeats 2000000 in
theorem lawP_FnWordFar (W : World) (B len cap : Nat) (A : Option Addr) (f : Nat → Nat) (hC : Code W B A len f) (hB : B ≤ W.heap.size) (hlc : len ≤ cap) (hcap : cap ≤ 9223372036854775807)
    (hN : NoWordFar) (hY : YesWordFar) :
    Calls Try.prog 7 #[.slice A len cap] W fun e w' => e = .returned (.bool true) ∧ Below W.heap.size W w' := by
  have HC := Lib.hid (drawWordFar_any W B len cap A f hC hB hlc hcap)
  clear hC
  by_cases hlen : (1048576 : Int) < (len : Int)
  · go_enter Try.func7, Try.ntmps7
    go_wp2
    go_ret
    exact ⟨rfl, Below.refl _ _⟩
  go_enter Try.func7, Try.ntmps7
  go_wp2_with fail
  refine HC.out.mono ?_
  rintro e w1 ⟨n, lv, xs, rfl, hn1, hn2, hx1, hx3, hbl, hI0⟩
  have HB := Lib.hid hbl
  have HV := Lib.hid hI0
  obtain ⟨A2, cap2, rfl⟩ := ints_slice hI0
  obtain ⟨g0, rfl⟩ := some_of_ints hI0 hx1
  have hxl : xs.length ≤ 2000000 := by omega
  clear hbl hI0 hB hlc hcap HC
  by_cases hno : ¬ LetIn (n : Int) xs
  · have HI := Lib.hid (fun W1 b h => hN (n : Int) (.slice (some ⟨g0, 0, none⟩) xs.length cap2) xs b W1 hno hxl h)
    have HS := Lib.hid (fun W1 b h => specWordFar_no (n : Int) (.slice (some ⟨g0, 0, none⟩) xs.length cap2) xs b W1 hxl h hno)
    clear hN hY hno hx1 hx3 hxl
    go_wp2_with fail
    refine (HI.out _ _ HV.out).mono ?_
    rintro e w2 ⟨sa, rfl, hb2, hI2⟩
    have HI2 := Lib.hid hI2
    have HV := Lib.hid (HV.out.belowAll hb2)
    have HB := Lib.hid (HB.out.trans (hb2.mono HB.out.size))
    clear hb2 hI2
    go_wp2_with fail
    refine (HS.out _ _ HV.out).mono ?_
    rintro e w3 ⟨sb, rfl, hb3, hI3⟩
    have HI3 := Lib.hid hI3
    have HI2 := Lib.hid (HI2.out.belowAll hb3)
    have HV := Lib.hid (HV.out.belowAll hb3)
    have HB := Lib.hid (HB.out.trans (hb3.mono HB.out.size))
    clear hb3 hI3
    go_wp2_with fail
    refine (sameInts_any _ _ [] _ _ _ HI2.out HI3.out).mono ?_
    rintro e w4 ⟨rfl, hb4⟩
    have HI2 := Lib.hid (HI2.out.belowAll hb4)
    have HI3 := Lib.hid (HI3.out.belowAll hb4)
    have HV := Lib.hid (HV.out.belowAll hb4)
    have HB := Lib.hid (HB.out.trans (hb4.mono HB.out.size))
    clear hb4
    go_wp2_with fail
    refine (sameInts_any _ _ [] _ _ _ HI2.out HI3.out).mono ?_
    rintro e w5 ⟨rfl, hb5⟩
    have HB := Lib.hid (HB.out.trans (hb5.mono HB.out.size))
    clear hb5
    go_wp2
    go_ret
    exact ⟨rfl, HB.out⟩
  have hL : LetIn (n : Int) xs := Classical.byContradiction hno
  clear hno
  have HI := Lib.hid (fun W1 b h => hY n (.slice (some ⟨g0, 0, none⟩) xs.length cap2) xs b W1 hL h)
  have HS := Lib.hid (fun W1 b h => specWordFar_yes n (.slice (some ⟨g0, 0, none⟩) xs.length cap2) xs b W1 h hL)
  have HFit := Lib.hid (steps_fit n xs hL)
  have HAll := Lib.hid (maskTo_all xs)
  have hlt := maskTo_lt n xs hL xs.length
  have hb0 := maskTo_bit0 n xs hL xs.length
  rw [maskTo_all] at hlt hb0
  have HPa := Lib.hid (fun W1 => implStepPart_yes n (maskL (letL xs)) W1 (by omega) hn2 hlt hb0)
  have HFy := Lib.hid (fun v hv => far_yes n xs v hL hv)
  have HBit := Lib.hid (fun v => has_nat0 (partN n (maskL (letL xs))) v (Nat.lt_of_lt_of_le (partN_lt n _ (by omega)) (Nat.pow_le_pow_right (by omega) (by omega))))
  have HTu := Lib.hid (fun v hv => far_turn n (letL xs) v (by omega) hv)
  have HZ := Lib.hid (far_zero n (letL xs) (by omega))
  have HGet := Lib.hid (fun v hv => tabI_get n (farV n (letL xs)) v hv)
  have HLen := Lib.hid (tabI_len n (farV n (letL xs)))
  have hpl := partN_lt n (maskL (letL xs)) (by omega)
  have hpw := Nat.pow_le_pow_right (show 0 < 2 by omega) hn2
  clear hlt hb0 hL hN hY hxl
  generalize farV n (letL xs) = F at *
  obtain ⟨P, hP⟩ : ∃ P, partN n (maskL (letL xs)) = P := ⟨_, rfl⟩
  rw [hP] at HPa HFy HBit hpl
  clear hP
  obtain ⟨M9, hM9⟩ : ∃ M9, maskL (letL xs) = M9 := ⟨_, rfl⟩
  rw [hM9] at HPa HAll
  clear hM9
  generalize tabI n F = ys at *
  go_wp2_with fail
  refine (HI.out _ _ HV.out).mono ?_
  rintro e w2 ⟨sa, rfl, hb2, hI2⟩
  have HI2 := Lib.hid hI2
  have HV := Lib.hid (HV.out.belowAll hb2)
  have HB := Lib.hid (HB.out.trans (hb2.mono HB.out.size))
  clear hb2 hI2
  go_wp2_with fail
  refine (HS.out _ _ HV.out).mono ?_
  rintro e w3 ⟨sb, rfl, hb3, hI3⟩
  have HI3 := Lib.hid hI3
  have HI2 := Lib.hid (HI2.out.belowAll hb3)
  have HV := Lib.hid (HV.out.belowAll hb3)
  have HB := Lib.hid (HB.out.trans (hb3.mono HB.out.size))
  clear hb3 hI3
  go_wp2_with fail
  refine (sameInts_any _ _ ys _ _ _ HI2.out HI3.out).mono ?_
  rintro e w4 ⟨rfl, hb4⟩
  have HI2 := Lib.hid (HI2.out.belowAll hb4)
  have HI3 := Lib.hid (HI3.out.belowAll hb4)
  have HV := Lib.hid (HV.out.belowAll hb4)
  have HB := Lib.hid (HB.out.trans (hb4.mono HB.out.size))
  clear hb4
  obtain ⟨g, cp, rfl⟩ : ∃ g cp, sa = .slice (some ⟨g, 0, none⟩) n cp := by
    rcases HI2.out.shape with ⟨e1, e2⟩ | ⟨g, c, e1, _, _, _⟩
    · have := HLen.out
      rw [e2] at this
      simp at this
      omega
    · exact ⟨g, c, by rw [e1, HLen.out]⟩
  clear HI3 HI HS
  go_wp2
  go_loopw [9, 10] (fun a u wr => ∃ k : Nat, k ≤ xs.length ∧ a = .int .i64 ((maskTo xs k : Nat) : Int) ∧ u = .int .i64 (k : Int) ∧ Hid (Below w4.heap.size w4 wr)) (fun _ u _ => xs.length - (intOf u).toNat)
  case atStart => exact ⟨0, Nat.zero_le _, rfl, rfl, Lib.hid (Below.refl _ _)⟩
  case' round => obtain ⟨k, hk, rfl, rfl, HBk⟩ := hrel
  case' round => by_cases hlt : k < xs.length
  case' pos =>
    obtain ⟨x, hx, hx11, hw, hwi⟩ := HFit.out k hlt
    have c1 := (HV.out.belowAll HBk.out).cell (i := k) hlt
    rw [hx] at c1
    have x64 : min x 64 = x := by omega
    have x0 : (0 : Int) ≤ (x : Int) := by omega
    clear hx
    obtain ⟨S1, hS1⟩ : ∃ S1, maskTo xs (k + 1) = S1 := ⟨_, rfl⟩
    have HS1 := Lib.hid hS1
    rw [hS1] at hw hwi
    clear hS1
    generalize maskTo xs k = S0 at *
    go_wp2
    go_roundw
    case rel => exact ⟨k + 1, by omega, by rw [HS1.out], by go_num, HBk⟩
    case measure => simp [intOf]; omega
  case' neg => obtain rfl : k = xs.length := by omega
  rw [HAll.out]
  have HI2 := Lib.hid (HI2.out.belowAll HBk.out)
  have HB := Lib.hid (HB.out.trans (HBk.out.mono HB.out.size))
  clear hlt HV HBk HFit hk
  go_wp2_with fail
  refine (HPa.out _).mono ?_
  rintro e w6 ⟨rfl, hb6⟩
  have HB := Lib.hid (HB.out.trans (hb6.mono HB.out.size))
  have HI2 := Lib.hid (HI2.out.belowAll hb6)
  clear hb6
  have c0 := HI2.out.cell (i := 0) (by rw [HLen.out]; omega)
  rw [HGet.out 0 (by omega), HZ.out] at c0
  have HC0 := Lib.hid c0
  have n0 : (0 : Int) < (n : Int) := by omega
  clear c0
  go_wp2
  obtain ⟨wp, hwp⟩ : ∃ wp : World, wp = w6 := ⟨_, rfl⟩
  go_loopw [13] (fun u wr => ∃ v : Nat, v ≤ n ∧ u = .int .i64 (v : Int) ∧ Hid (Below w6.heap.size w6 wr)) (fun u _ => n - (intOf u).toNat)
  case atStart => exact ⟨0, Nat.zero_le _, rfl, Lib.hid (Below.refl _ _)⟩
  case round =>
    obtain ⟨v, hv, rfl, HBv⟩ := hrel
    have HIv := Lib.hid (HI2.out.belowAll HBv.out)
    by_cases hlv : v < n
    · have c1 := HIv.out.cell (i := v) (by rw [HLen.out]; exact hlv)
      have hul := Nat.mod_lt (n - v) (show 0 < n by omega)
      have c2 := HIv.out.cell (i := (n - v) % n) (by rw [HLen.out]; exact hul)
      have htu := HTu.out v hlv
      rw [HGet.out v hlv] at c1
      rw [HGet.out _ hul, htu] at c2
      have hbt := HBit.out v
      have f1 : IntKind.i64.wrap ((n : Int) - (v : Int)) = ((n - v : Nat) : Int) := by rw [IntWalk.i64_in _ ⟨by omega, by omega⟩]; omega
      have f2 : wrap64 ((n : Int) - (v : Int)) = ((n - v : Nat) : Int) := by rw [IntWalk.wrap64_in _ ⟨by omega, by omega⟩]; omega
      have t1 : ((n - v : Nat) : Int).tmod (n : Int) = (((n - v) % n : Nat) : Int) := by rw [Int.tmod_eq_emod_of_nonneg (by omega)]; exact (Int.natCast_emod _ _).symm
      have t2 : ((n - v : Nat) : Int) % (n : Int) = (((n - v) % n : Nat) : Int) := (Int.natCast_emod _ _).symm
      have i1 : (0 : Int) ≤ (v : Int) := by omega
      have i2 : (v : Int) < (n : Int) := by omega
      have hn0 : ¬ (n : Int) = 0 := by omega
      clear htu
      generalize (n - v) % n = u at *
      generalize n - v = d at *
      have j1 : (0 : Int) ≤ (u : Int) := by omega
      have j2 : (u : Int) < (n : Int) := by omega
      rcases HFy.out v hlv with ⟨hbv, x, hF⟩ | ⟨hbv, hF⟩
      · rw [hF] at c1 c2
        rw [hbv] at hbt
        have d0 : decide ((x : Int) < 0) = false := decide_eq_false (by omega)
        clear hF hbv hul
        go_wp2
        go_quiet (fail)
        go_wp2
        go_roundw
        case rel => exact ⟨v + 1, by omega, by go_num, Lib.hid (below_drewN HBv.out _)⟩
        case measure => simp [intOf]; omega
      · rw [hF] at c1 c2
        rw [hbv] at hbt
        clear hF hbv hul
        go_wp2
        go_quiet (fail)
        go_wp2
        go_roundw
        case rel => exact ⟨v + 1, by omega, by go_num, Lib.hid (below_drewN HBv.out _)⟩
        case measure => simp [intOf]; omega
    · obtain rfl : v = n := by omega
      have j2 : ¬ (v : Int) < (v : Int) := by omega
      have c9 := HIv.out.cell (i := 0) (by rw [HLen.out]; omega)
      rw [HGet.out 0 (by omega), HZ.out] at c9
      clear hlv hv
      go_wp2
      go_ret
      exact ⟨rfl, HB.out.trans (HBv.out.mono HB.out.size)⟩
end Go.Proofs.Ytnlalccnhpblkaa
