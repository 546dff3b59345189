/- FarBest: the program's search. -/
import Derived.Test.YtgonanembcnlgaaGF
import Derived.Test.YtgonanembcnlgaaGD
import Derived.Test.YtgonanembcnlgaaStepZ
namespace Go.Proofs.Ytgonanembcnlgaa
open Go.RowKit
set_option linter.unusedVariables false
/-- The best of the sets below j, as the program finds it. -/
def bestC (n k s : Nat) (x : Nat × Nat) : Nat × Nat := if s.testBit 0 = false ∧ sizeN s = k ∧ partsN n s = 1 ∧ mostN n s n < x.2 then (s, mostN n s n) else x
def bestA (n k : Nat) (j : Nat) : Nat × Nat := upto (fun s x => bestC n k s x) j (0, n)
theorem bestA_step (n k j : Nat) : bestA n k (j + 1) = bestC n k j (bestA n k j) := by simp only [bestA, upto]
theorem bestA_even (n k j : Nat) (hk : 1 ≤ k) : bestA n k (2 * j + 2) = bestN n k j := by
  induction j with
  | zero =>
    have e : bestA n k 2 = bestC n k 1 (bestC n k 0 (0, n)) := by simp only [bestA, upto]
    show bestA n k 2 = (0, n)
    rw [e]
    have a : bestC n k 0 (0, n) = (0, n) := by
      unfold bestC
      rw [if_neg]
      intro h
      have : sizeN 0 = 0 := by decide
      omega
    rw [a]
    unfold bestC
    rw [if_neg]
    intro h
    have : (1 : Nat).testBit 0 = true := rfl
    rw [this] at h
    cases h.1
  | succ j ih =>
    rw [show 2 * (j + 1) + 2 = 2 * j + 2 + 1 + 1 by omega, bestA_step, bestA_step, ih, best_step]
    have hodd : (2 * j + 2 + 1).testBit 0 = true := by rw [bit0]; simp; omega
    have a : ∀ x, bestC n k (2 * j + 2 + 1) x = x := fun x => by
      unfold bestC
      rw [if_neg (fun h => by rw [hodd] at h; cases h.1)]
    rw [a]
    unfold bestC bestS
    rw [even_bit j]
    simp
theorem bestA_range (n k j : Nat) (hj : j ≤ 2 ^ n) : (bestA n k j).1 < 2 ^ n ∧ (bestA n k j).2 ≤ n := by
  induction j with
  | zero => exact ⟨Nat.two_pow_pos n, Nat.le_refl n⟩
  | succ j ih =>
    have h := ih (by omega)
    rw [bestA_step]
    unfold bestC
    split
    · exact ⟨by show j < 2 ^ n; omega, most_le n _ n⟩
    · exact h
set_option maxRecDepth 100000 in
set_option maxHeartbeats 4000000 in
theorem best_any (n k : Nat) (w : World) (h1 : 1 ≤ n) (h2 : n ≤ 12) (hk1 : 1 ≤ k) (hk2 : k < n) :
    Calls Try.prog 58 #[.agg #[.int .i64 (n:Int)], .int .i64 (k:Int)] w fun e w' => e = .returned (.int .i64 (((bestA n k (2 ^ n)).1 : Nat) : Int)) ∧ Below w.heap.size w w' := by
  have hp := pow_le n h2
  have hp1 := Nat.two_pow_pos n
  have HR := Lib.hid (fun j hj => bestA_range n k j hj)
  have HAll := Lib.hid (fun W => all_any n W h2)
  have HHas := Lib.hid (fun (s : Nat) (h : s < 2 ^ n) W => has0_any s W (by omega))
  have HSz := Lib.hid (fun (s : Nat) (h : s < 2 ^ n) W => placesSize_any s W (by omega))
  have HAsk := Lib.hid (fun (s S0 : Nat) (f0 : Nat → Nat) (h : s < 2 ^ n) W hO hT => ask_any n s (w.heap.size + 1) (w.heap.size + 1 + 1) S0 f0 W h1 h2 h hO hT)
  have HEv := Lib.hid (fun (s : Nat) W hT => everywhere_any n s (w.heap.size + 1) (partN n s) (farN n s) W hT)
  have HIff := Lib.hid (fun s => every_iff n s h1 h2)
  have HMo := Lib.hid (fun (s : Nat) W hT => most_any n s (w.heap.size + 1) (partN n s) (farN n s) W hT (pow_mono h2 (partF_lt n s h1)) (fun v _ => far_le12 n s v h2))
  have HMe := Lib.hid (fun s m h => most_eq n s m h1 h)
  have HMl := Lib.hid (fun s => most_le n s n)
  obtain ⟨N, hN⟩ : ∃ N, 2 ^ n = N := ⟨_, rfl⟩
  rw [hN] at hp hp1 HR HAll HHas HSz HAsk ⊢
  clear hN
  have bR0 := (Boxed.new w 39 (.int .i64 (n:Int)))
  have bT0 := (tells_made (w.alloc (.cells #[.int .i64 (n:Int)] 39)) (fun _ => 0)).alloc (.cells #[.map (some (w.heap.size + 1))] 43)
  have bO0 := Boxed.new ((w.alloc (.cells #[.int .i64 (n:Int)] 39)).alloc (.map #[] 0)) 43 (.map (some (w.heap.size + 1)))
  have bR := (bR0.alloc (.map #[] 0)).alloc (.cells #[.map (some (w.heap.size + 1))] 43)
  have bB : Below w.heap.size w (((w.alloc (.cells #[.int .i64 (n:Int)] 39)).alloc (.map #[] 0)).alloc (.cells #[.map (some (w.heap.size + 1))] 43)) := (((Below.refl _ w).alloc (Nat.le_refl _) _).alloc (by simp) _).alloc (by simp; omega) _
  simp only [World.size_alloc] at bT0 bO0
  have HAskr := Lib.hid (asker_any (w.alloc (.cells #[.int .i64 (n:Int)] 39)))
  have c0 := bR0.cell
  have cR0 := bR.cell
  go_enter Try.func58, Try.ntmps58
  go_wp2_with (go_at_call 66; refine HAskr.out.mono ?_; rintro e w1 ⟨rfl, rfl⟩; simp only [World.size_alloc])
  obtain ⟨W1, hW1⟩ : ∃ W1, ((w.alloc (.cells #[.int .i64 (n:Int)] 39)).alloc (.map #[] 0)).alloc (.cells #[.map (some (w.heap.size + 1))] 43) = W1 := ⟨_, rfl⟩
  rw [hW1] at bT0 bO0 bR bB
  try rw [hW1]
  clear c0 cR0 bR0 hW1
  go_loopw [6, 7, 8] (fun b f u wr => ∃ (j S : Nat) (g : Nat → Nat), j ≤ N ∧ b = .int .i64 (((bestA n k j).1 : Nat) : Int) ∧ f = .int .i64 (((bestA n k j).2 : Nat) : Int) ∧ u = .int .i64 (j : Int) ∧ Boxed wr w.heap.size 39 (.int .i64 (n:Int)) ∧ Boxed wr (w.heap.size + 1 + 1) 43 (.map (some (w.heap.size + 1))) ∧ Tells wr (w.heap.size + 1) S g ∧ Below w.heap.size w wr) (fun _ _ u _ => N + 1 - (intOf u).toNat)
  case atStart => exact ⟨0, 0, fun _ => 0, by omega, rfl, rfl, rfl, bR, bO0, bT0, bB⟩
  case round =>
    obtain ⟨j, S, g, hj, rfl, rfl, rfl, hR, hO, hT, hB⟩ := hrel
    have cR := hR.cell
    have HO := Lib.hid hO
    have HT := Lib.hid hT
    have HB := Lib.hid hB
    have HRb := Lib.hid hR
    have hMsz := hT.lt
    have hOsz := hO.lt
    have hRsz := hR.lt
    clear bR bO0 bT0 bB hO hT hB
    by_cases hlt : j < N
    · have hle : (j : Int) ≤ ((N - 1 : Nat) : Int) := by omega
      have HS : Hid (bestA n k (j + 1) = if j.testBit 0 = false ∧ sizeN j = k ∧ partsN n j = 1 ∧ mostN n j n < (bestA n k j).2 then (j, mostN n j n) else bestA n k j) := Lib.hid (bestA_step n k j)
      obtain ⟨hr1, hr2⟩ := HR.out j hj
      have hml := HMl.out j
      have HAs := Lib.hid (fun S0 f0 W hO hT => HAsk.out j S0 f0 hlt W hO hT)
      have hhas := HHas.out j hlt
      have hsz := HSz.out j hlt
      have hev := HEv.out j
      have hiff := HIff.out j
      have HMoj := Lib.hid (HMo.out j)
      have HMej := Lib.hid (HMe.out j)
      have hsum := HS.out
      obtain ⟨x1, hx1⟩ : ∃ x1, (bestA n k j).1 = x1 := ⟨_, rfl⟩
      obtain ⟨x2, hx2⟩ : ∃ x2, (bestA n k j).2 = x2 := ⟨_, rfl⟩
      rw [hx2] at hsum hr2 ⊢
      rw [hx1] at hr1 ⊢
      have HX1 := Lib.hid hx1
      have HX2 := Lib.hid hx2
      clear hx1 hx2 HS HR HAsk HHas HSz HEv HIff HMo HMe HMl
      cases c0 : j.testBit 0
      · rw [c0] at hhas hsum
        have HH := Lib.hid hhas
        by_cases c1 : sizeN j = k
        · rw [c1] at hsz hsum
          have HZ := Lib.hid hsz
          clear hhas hsz c0 c1
          by_cases c2 : partsN n j = 1
          · have hev' := hev
            rw [show decide (sizeN (partN n j) = n) = true from decide_eq_true (hiff.2 c2)] at hev'
            have HE := Lib.hid hev'
            rw [c2] at hsum
            clear hev hev' hiff c2
            by_cases c3 : mostN n j n < x2
            · rw [if_pos ⟨rfl, rfl, rfl, c3⟩] at hsum
              have HS := Lib.hid hsum
              clear hsum
              generalize mostN n j n = t at *
              have c3I : (t : Int) < (x2 : Int) := by omega
              clear c3
              go_wp2_with (first
                | (go_at_call 76; refine (HAll.out _).mono ?_; rintro e w2 ⟨rfl, hb2⟩; have cR2 := (boxed_below HRb.out hRsz hb2).cell)
                | (go_at_call 64; refine (HH.out _).mono ?_; rintro e w3 ⟨rfl, rfl⟩)
                | (go_at_call 77; refine (HZ.out _).mono ?_; rintro e w4 ⟨rfl, hb4⟩; have cR4 := (boxed_below (boxed_below HRb.out hRsz hb2) (by have := hb2.size; omega) hb4).cell)
                | (go_at_call 80; refine (HAs.out _ _ _ (boxed_below (boxed_below HO.out hOsz hb2) (by have := hb2.size; omega) hb4) ((HT.out.belowAll hb2).belowAll hb4)).mono ?_; rintro e w5 ⟨rfl, hA5, hT5⟩; have HR5 := Lib.hid (hA5.box (boxed_below (boxed_below HRb.out hRsz hb2) (by have := hb2.size; omega) hb4) (by omega)); have HO5 := Lib.hid (hA5.box (boxed_below (boxed_below HO.out hOsz hb2) (by have := hb2.size; omega) hb4) (by omega)); have HB5 := Lib.hid (((HB.out.trans (hb2.mono HB.out.size)).trans (hb4.mono (by have := HB.out.size; have := hb2.size; omega))).trans (hA5.below (by omega) (by have := HB.out.size; have := hb2.size; have := hb4.size; omega))); have HT5 := Lib.hid (hT5.alloc (.cells #[.int .i64 (n:Int), .int .i64 (j:Int), .map (some (w.heap.size + 1))] 45)); have hD5 := Tri.new w5 n j (w.heap.size + 1); clear hA5 hT5)
                | (go_at_call 44; refine (HE.out _ HT5.out).mono ?_; rintro e w6 ⟨rfl, hb6⟩; have hD6 := hD5.below hD5.lt hb6; have d0 := hD6.cell0; have d1 := hD6.cell1; have d2 := hD6.cell2; have HT6 := Lib.hid (HT5.out.belowAll hb6))
                | (go_at_call 45; first | (refine (HMoj.out _ HT6.out).mono ?_; rintro e w7 ⟨⟨m7, rfl, hm7, _⟩, hb7⟩; have hM7 := HMej.out m7 hm7; subst hM7; have HT7 := Lib.hid (HT6.out.belowAll hb7); have hD7 := hD6.below hD6.lt hb7; have d0' := hD7.cell0; have d1' := hD7.cell1; have d2' := hD7.cell2) | (refine (HMoj.out _ HT7.out).mono ?_; rintro e w8 ⟨⟨m8, rfl, hm8, _⟩, hb8⟩; have hM8 := HMej.out m8 hm8; subst hM8)))
              have hx5 := HR5.out.alloc (.cells #[.int .i64 (n:Int), .int .i64 (j:Int), .map (some (w.heap.size + 1))] 45)
              have hy5 := HO5.out.alloc (.cells #[.int .i64 (n:Int), .int .i64 (j:Int), .map (some (w.heap.size + 1))] 45)
              have hz5 := HB5.out.alloc HB5.out.size (.cells #[.int .i64 (n:Int), .int .i64 (j:Int), .map (some (w.heap.size + 1))] 45)
              have ht5 := HT5.out
              have hx6 := boxed_below hx5 hx5.lt hb6
              have hy6 := boxed_below hy5 hy5.lt hb6
              have hz6 := hz5.trans (hb6.mono hz5.size)
              have ht6 := ht5.belowAll hb6
              have hx7 := boxed_below hx6 hx6.lt hb7
              have hy7 := boxed_below hy6 hy6.lt hb7
              have hz7 := hz6.trans (hb7.mono hz6.size)
              have ht7 := ht6.belowAll hb7
              have hx8 := boxed_below hx7 hx7.lt hb8
              have hy8 := boxed_below hy7 hy7.lt hb8
              have hz8 := hz7.trans (hb8.mono hz7.size)
              have ht8 := ht7.belowAll hb8
              have HR9 := Lib.hid hx8
              have HO9 := Lib.hid hy8
              have HB9 := Lib.hid hz8
              have HT9 := Lib.hid ht8
              clear hx5 hx6 hx7 hx8 hy5 hy6 hy7 hy8 hz5 hz6 hz7 hz8 ht5 ht6 ht7 ht8
              go_roundw
              case rel => exact ⟨j + 1, partN n j, farN n j, by omega, by rw [HS.out], by rw [HS.out], by go_num, HR9.out, HO9.out, HT9.out, HB9.out⟩
              case measure => simp [intOf]; omega
            · rw [if_neg (fun h => c3 h.2.2.2)] at hsum
              have HS := Lib.hid hsum
              clear hsum
              generalize mostN n j n = t at *
              have c3I : ¬ (t : Int) < (x2 : Int) := by omega
              clear c3
              go_wp2_with (first
                | (go_at_call 76; refine (HAll.out _).mono ?_; rintro e w2 ⟨rfl, hb2⟩; have cR2 := (boxed_below HRb.out hRsz hb2).cell)
                | (go_at_call 64; refine (HH.out _).mono ?_; rintro e w3 ⟨rfl, rfl⟩)
                | (go_at_call 77; refine (HZ.out _).mono ?_; rintro e w4 ⟨rfl, hb4⟩; have cR4 := (boxed_below (boxed_below HRb.out hRsz hb2) (by have := hb2.size; omega) hb4).cell)
                | (go_at_call 80; refine (HAs.out _ _ _ (boxed_below (boxed_below HO.out hOsz hb2) (by have := hb2.size; omega) hb4) ((HT.out.belowAll hb2).belowAll hb4)).mono ?_; rintro e w5 ⟨rfl, hA5, hT5⟩; have HR5 := Lib.hid (hA5.box (boxed_below (boxed_below HRb.out hRsz hb2) (by have := hb2.size; omega) hb4) (by omega)); have HO5 := Lib.hid (hA5.box (boxed_below (boxed_below HO.out hOsz hb2) (by have := hb2.size; omega) hb4) (by omega)); have HB5 := Lib.hid (((HB.out.trans (hb2.mono HB.out.size)).trans (hb4.mono (by have := HB.out.size; have := hb2.size; omega))).trans (hA5.below (by omega) (by have := HB.out.size; have := hb2.size; have := hb4.size; omega))); have HT5 := Lib.hid (hT5.alloc (.cells #[.int .i64 (n:Int), .int .i64 (j:Int), .map (some (w.heap.size + 1))] 45)); have hD5 := Tri.new w5 n j (w.heap.size + 1); clear hA5 hT5)
                | (go_at_call 44; refine (HE.out _ HT5.out).mono ?_; rintro e w6 ⟨rfl, hb6⟩; have hD6 := hD5.below hD5.lt hb6; have d0 := hD6.cell0; have d1 := hD6.cell1; have d2 := hD6.cell2; have HT6 := Lib.hid (HT5.out.belowAll hb6))
                | (go_at_call 45; first | (refine (HMoj.out _ HT6.out).mono ?_; rintro e w7 ⟨⟨m7, rfl, hm7, _⟩, hb7⟩; have hM7 := HMej.out m7 hm7; subst hM7; have HT7 := Lib.hid (HT6.out.belowAll hb7); have hD7 := hD6.below hD6.lt hb7; have d0' := hD7.cell0; have d1' := hD7.cell1; have d2' := hD7.cell2) | (refine (HMoj.out _ HT7.out).mono ?_; rintro e w8 ⟨⟨m8, rfl, hm8, _⟩, hb8⟩; have hM8 := HMej.out m8 hm8; subst hM8)))
              have hx5 := HR5.out.alloc (.cells #[.int .i64 (n:Int), .int .i64 (j:Int), .map (some (w.heap.size + 1))] 45)
              have hy5 := HO5.out.alloc (.cells #[.int .i64 (n:Int), .int .i64 (j:Int), .map (some (w.heap.size + 1))] 45)
              have hz5 := HB5.out.alloc HB5.out.size (.cells #[.int .i64 (n:Int), .int .i64 (j:Int), .map (some (w.heap.size + 1))] 45)
              have ht5 := HT5.out
              have hx6 := boxed_below hx5 hx5.lt hb6
              have hy6 := boxed_below hy5 hy5.lt hb6
              have hz6 := hz5.trans (hb6.mono hz5.size)
              have ht6 := ht5.belowAll hb6
              have hx7 := boxed_below hx6 hx6.lt hb7
              have hy7 := boxed_below hy6 hy6.lt hb7
              have hz7 := hz6.trans (hb7.mono hz6.size)
              have ht7 := ht6.belowAll hb7
              have HR9 := Lib.hid hx7
              have HO9 := Lib.hid hy7
              have HB9 := Lib.hid hz7
              have HT9 := Lib.hid ht7
              clear hx5 hx6 hx7 hy5 hy6 hy7 hz5 hz6 hz7 ht5 ht6 ht7
              go_roundw
              case rel => exact ⟨j + 1, partN n j, farN n j, by omega, by rw [HS.out, HX1.out], by rw [HS.out, HX2.out], by go_num, HR9.out, HO9.out, HT9.out, HB9.out⟩
              case measure => simp [intOf]; omega
          · have hev' := hev
            rw [show decide (sizeN (partN n j) = n) = false from decide_eq_false (fun h => c2 (hiff.1 h))] at hev'
            have HE := Lib.hid hev'
            rw [if_neg (fun h => c2 h.2.2.1)] at hsum
            have HS := Lib.hid hsum
            clear hev hev' hiff c2 hsum
            go_wp2_with (first
              | (go_at_call 76; refine (HAll.out _).mono ?_; rintro e w2 ⟨rfl, hb2⟩; have cR2 := (boxed_below HRb.out hRsz hb2).cell)
              | (go_at_call 64; refine (HH.out _).mono ?_; rintro e w3 ⟨rfl, rfl⟩)
              | (go_at_call 77; refine (HZ.out _).mono ?_; rintro e w4 ⟨rfl, hb4⟩; have cR4 := (boxed_below (boxed_below HRb.out hRsz hb2) (by have := hb2.size; omega) hb4).cell)
              | (go_at_call 80; refine (HAs.out _ _ _ (boxed_below (boxed_below HO.out hOsz hb2) (by have := hb2.size; omega) hb4) ((HT.out.belowAll hb2).belowAll hb4)).mono ?_; rintro e w5 ⟨rfl, hA5, hT5⟩; have HR5 := Lib.hid (hA5.box (boxed_below (boxed_below HRb.out hRsz hb2) (by have := hb2.size; omega) hb4) (by omega)); have HO5 := Lib.hid (hA5.box (boxed_below (boxed_below HO.out hOsz hb2) (by have := hb2.size; omega) hb4) (by omega)); have HB5 := Lib.hid (((HB.out.trans (hb2.mono HB.out.size)).trans (hb4.mono (by have := HB.out.size; have := hb2.size; omega))).trans (hA5.below (by omega) (by have := HB.out.size; have := hb2.size; have := hb4.size; omega))); have HT5 := Lib.hid (hT5.alloc (.cells #[.int .i64 (n:Int), .int .i64 (j:Int), .map (some (w.heap.size + 1))] 45)); have hD5 := Tri.new w5 n j (w.heap.size + 1); clear hA5 hT5)
              | (go_at_call 44; refine (HE.out _ HT5.out).mono ?_; rintro e w6 ⟨rfl, hb6⟩; have hD6 := hD5.below hD5.lt hb6; have d0 := hD6.cell0; have d1 := hD6.cell1; have d2 := hD6.cell2; have HT6 := Lib.hid (HT5.out.belowAll hb6)))
            have hx5 := HR5.out.alloc (.cells #[.int .i64 (n:Int), .int .i64 (j:Int), .map (some (w.heap.size + 1))] 45)
            have hy5 := HO5.out.alloc (.cells #[.int .i64 (n:Int), .int .i64 (j:Int), .map (some (w.heap.size + 1))] 45)
            have hz5 := HB5.out.alloc HB5.out.size (.cells #[.int .i64 (n:Int), .int .i64 (j:Int), .map (some (w.heap.size + 1))] 45)
            have ht5 := HT5.out
            have hx6 := boxed_below hx5 hx5.lt hb6
            have hy6 := boxed_below hy5 hy5.lt hb6
            have hz6 := hz5.trans (hb6.mono hz5.size)
            have ht6 := ht5.belowAll hb6
            have HR9 := Lib.hid hx6
            have HO9 := Lib.hid hy6
            have HB9 := Lib.hid hz6
            have HT9 := Lib.hid ht6
            clear hx5 hx6 hy5 hy6 hz5 hz6 ht5 ht6
            go_roundw
            case rel => exact ⟨j + 1, partN n j, farN n j, by omega, by rw [HS.out, HX1.out], by rw [HS.out, HX2.out], by go_num, HR9.out, HO9.out, HT9.out, HB9.out⟩
            case measure => simp [intOf]; omega
        · rw [if_neg (fun h => c1 h.2.1)] at hsum
          have HS := Lib.hid hsum
          have HZ := Lib.hid hsz
          have hkz : ((sizeN j : Nat) : Int) ≠ (k : Int) := by omega
          have hkb : (((sizeN j : Nat) : Int) != (k : Int)) = true := by simpa using hkz
          clear hhas hsz c0 c1 hev hiff hsum hkz
          generalize sizeN j = zz at *
          go_wp2_with (first
            | (go_at_call 76; refine (HAll.out _).mono ?_; rintro e w2 ⟨rfl, hb2⟩)
            | (go_at_call 64; refine (HH.out _).mono ?_; rintro e w3 ⟨rfl, rfl⟩)
            | (go_at_call 77; refine (HZ.out _).mono ?_; rintro e w4 ⟨rfl, hb4⟩))
          go_roundw
          case rel => exact ⟨j + 1, S, g, by omega, by rw [HS.out, HX1.out], by rw [HS.out, HX2.out], by go_num, boxed_below (boxed_below HRb.out hRsz hb2) (by have := hb2.size; omega) hb4, boxed_below (boxed_below HO.out hOsz hb2) (by have := hb2.size; omega) hb4, (HT.out.belowAll hb2).belowAll hb4, (HB.out.trans (hb2.mono HB.out.size)).trans (hb4.mono (by have := HB.out.size; have := hb2.size; omega))⟩
          case measure => simp [intOf]; omega
      · rw [c0] at hhas hsum
        have HH := Lib.hid hhas
        rw [if_neg (fun h => by cases h.1)] at hsum
        have HS := Lib.hid hsum
        clear hhas hsz c0 hev hiff hsum
        go_wp2_with (first
          | (go_at_call 76; refine (HAll.out _).mono ?_; rintro e w2 ⟨rfl, hb2⟩)
          | (go_at_call 64; refine (HH.out _).mono ?_; rintro e w3 ⟨rfl, rfl⟩))
        go_roundw
        case rel => exact ⟨j + 1, S, g, by omega, by rw [HS.out, HX1.out], by rw [HS.out, HX2.out], by go_num, boxed_below HRb.out hRsz hb2, boxed_below HO.out hOsz hb2, HT.out.belowAll hb2, HB.out.trans (hb2.mono HB.out.size)⟩
        case measure => simp [intOf]; omega
    · have e : j = N := by omega
      subst e
      have hle : ¬ (j : Int) ≤ ((j - 1 : Nat) : Int) := by omega
      go_wp2_with (go_at_call 76; refine (HAll.out _).mono ?_; rintro e w2 ⟨rfl, hb2⟩)
      go_ret
      exact ⟨rfl, HB.out.trans (hb2.mono HB.out.size)⟩
end Go.Proofs.Ytgonanembcnlgaa
