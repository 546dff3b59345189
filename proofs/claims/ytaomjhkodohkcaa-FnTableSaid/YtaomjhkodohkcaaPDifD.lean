/- The promise law FnTable over given contracts. Written by gen61.py. -/
import Derived.Test.YtaomjhkodohkcaaPDifB
import Derived.Test.YtaomjhkodohkcaaSame
import Derived.Test.YtaomjhkodohkcaaGC
namespace Go.Proofs.Ytaomjhkodohkcaa
open Go.RowKit Go.Shelf
set_option linter.unusedVariables false
theorem difL_shift (n s : Nat) (k : Int) (h1 : 1 ≤ n) (h2 : n ≤ 12) (hs : s < 2 ^ n) : difL n (shiftN n s k) = difL n s := tabI_congr n _ _ fun d _ => by rw [dif_shift n s d k h1 h2 hs]
theorem difL_total (n s : Nat) (h1 : 1 ≤ n) (h2 : n ≤ 12) (hs : s < 2 ^ n) : sumL (difL n s) (difL n s).length = sizeN s * sizeN s := by
  rw [difL_len, ← dif_total n s h1 h2 hs]
  unfold sumL
  exact sumTo_congr _ _ n fun d hd => by rw [difL_get n s d hd]; exact Int.toNat_natCast _
theorem diff_back (n v : Nat) (h1 : 1 ≤ n) (h2 : n ≤ 12) (hv : v < n) : (n - v) % n = rest n (-(v : Int)) := by
  have e := rest_cast n (-(v : Int)) h1
  generalize rest n (-(v : Int)) = a at *
  have h : n = 1 ∨ n = 2 ∨ n = 3 ∨ n = 4 ∨ n = 5 ∨ n = 6 ∨ n = 7 ∨ n = 8 ∨ n = 9 ∨ n = 10 ∨ n = 11 ∨ n = 12 := by omega
  rcases h with rfl | rfl | rfl | rfl | rfl | rfl | rfl | rfl | rfl | rfl | rfl | rfl <;> omega
theorem sq_wraps (k Q : Nat) (h : k ≤ 12) (hQ : k * k = Q) : IntKind.i64.wrap ((k : Int) * (k : Int)) = (Q : Int) ∧ wrap64 ((k : Int) * (k : Int)) = (Q : Int) := by
  have hb : k * k ≤ 144 := Nat.mul_le_mul h h
  rw [show (k : Int) * (k : Int) = ((k * k : Nat) : Int) from (Int.natCast_mul k k).symm, hQ]
  rw [hQ] at hb
  exact fits _ ⟨by omega, by omega⟩
theorem back_fits (n v : Nat) (hv : v < n) (h2 : n ≤ 12) : (IntKind.i64.wrap ((n : Int) - (v : Int)) = (n : Int) - (v : Int) ∧ wrap64 ((n : Int) - (v : Int)) = (n : Int) - (v : Int)) ∧ (Int.tmod ((n : Int) - (v : Int)) (n : Int) = (((n - v) % n : Nat) : Int) ∧ ((n : Int) - (v : Int)) % (n : Int) = (((n - v) % n : Nat) : Int)) := by
  have e : (n : Int) - (v : Int) = ((n - v : Nat) : Int) := by omega
  refine ⟨fits _ ⟨by omega, by omega⟩, ?_⟩
  rw [e]
  exact ⟨(Int.ofNat_tmod _ _).symm, by simp⟩
set_option maxHeartbeats 1000000 in
set_option maxRecDepth 4000 in
theorem lawP_FnTable (W : World) (B len cap : Nat) (A : Option Addr) (f : Nat → Nat) (hC : Code W B A len f) (hB : B ≤ W.heap.size) (hlc : len ≤ cap) (hcap : cap ≤ 9223372036854775807)
    (hN : NoDiffTable) (hY : YesDiffTable) :
    Calls Try.prog 3 #[.slice A len cap] W fun e w' => e = .returned (.bool true) ∧ Below W.heap.size W w' := by
  have HC := Lib.hid (drawDiffTable_any W B len cap A f hC hB hlc hcap)
  clear hC
  by_cases hlen : (1048576 : Int) < (len : Int)
  · go_enter Try.func3, Try.ntmps3
    go_wp2
    go_ret
    exact ⟨rfl, Below.refl _ _⟩
  go_enter Try.func3, Try.ntmps3
  go_wp2_with fail
  refine HC.out.mono ?_
  rintro e w1 ⟨n, s, rfl, hn1, hn13, hs13, hbl⟩
  have HB := Lib.hid hbl
  clear hbl hB hlc hcap
  by_cases hno : NotIn (n : Int) (s : Int)
  · have HI := Lib.hid (fun W => hN n s W hno)
    have HS := Lib.hid (fun W => specDiffTable_no n s W hno)
    clear hno hN hY
    go_wp2_with fail
    refine (HI.out _).mono ?_
    rintro e w2 ⟨sa, rfl, hb2, hI2⟩
    have HI2 := Lib.hid hI2
    have HB := Lib.hid (HB.out.trans (hb2.mono HB.out.size))
    clear hb2 hI2
    go_wp2_with fail
    refine (HS.out _).mono ?_
    rintro e w3 ⟨sb, rfl, hb3, hI3⟩
    have HI3 := Lib.hid hI3
    have HI2 := Lib.hid (HI2.out.belowAll hb3)
    have HB := Lib.hid (HB.out.trans (hb3.mono HB.out.size))
    clear hb3 hI3
    go_wp2_with fail
    refine (sameInts_any _ _ [] _ _ _ HI2.out HI3.out).mono ?_
    rintro e w4 ⟨rfl, hb4⟩
    have HI2 := Lib.hid (HI2.out.belowAll hb4)
    have HI3 := Lib.hid (HI3.out.belowAll hb4)
    have HB := Lib.hid (HB.out.trans (hb4.mono HB.out.size))
    clear hb4
    go_wp2_with fail
    refine (sameInts_any _ _ [] _ _ _ HI2.out HI3.out).mono ?_
    rintro e w5 ⟨rfl, hb5⟩
    have HB := Lib.hid (HB.out.trans (hb5.mono HB.out.size))
    clear hb5
    go_wp2
    go_ret
    exact ⟨rfl, HB.out⟩
  have hmx : Try.prog.follows .mixedOrders = true := by kernel_rfl
  obtain ⟨n', s', hn', hs', _, h12', hs3'⟩ := not_notIn hno
  obtain rfl : n = n' := by omega
  obtain rfl : s = s' := by omega
  clear hn' hs' hno hs13 hn13
  have HI := Lib.hid (fun W => hY n s W hn1 h12' hs3')
  have HS := Lib.hid (fun W => specDiffTable_yes n s W hn1 h12' hs3')
  have hX := fun W => hY n (shiftN n s 1) W hn1 h12' (shiftN_lt n s 1)
  rw [difL_shift n s 1 hn1 h12' hs3'] at hX
  have HSh := Lib.hid (fun W => implShift_yes n s 1 W hn1 h12' hs3' (by omega) (by omega))
  generalize shiftN n s 1 = u at *
  have HX := Lib.hid hX
  have HSz := Lib.hid (fun W => size_any s W (Nat.lt_of_lt_of_le hs3' (Nat.pow_le_pow_right (by omega) (by omega))))
  have HTo := Lib.hid (difL_total n s hn1 h12' hs3')
  have HG := Lib.hid (fun i hi => difL_get n s i hi)
  have HLen := Lib.hid (difL_len n s)
  have HBk : Hid (∀ v, v < n → (n - v) % n < n ∧ difN n s ((n - v) % n) = difN n s v) := Lib.hid (fun v hv => by
    rw [diff_back n v hn1 h12' hv]
    exact ⟨rest_lt n _ hn1, dif_neg n s v hn1 h12' hs3'⟩)
  have H0 := Lib.hid (dif_zero n s hn1 hs3')
  have HDl := Lib.hid (fun d => dif_le n s d h12' hs3')
  have hz := sizeN_le n s h12' hs3'
  generalize sizeN s = k at *
  have hk12 : k ≤ 12 := Nat.le_trans hz h12'
  obtain ⟨Q, hQ⟩ : ∃ Q, k * k = Q := ⟨_, rfl⟩
  have HSq := Lib.hid (sq_wraps k Q hk12 hQ)
  obtain ⟨xs, hxs⟩ : ∃ xs, difL n s = xs := ⟨_, rfl⟩
  rw [hxs] at HI HS HX HTo HG HLen
  rw [hQ] at HTo
  have HXb : Hid (∀ i, i < xs.length → 0 ≤ xs.getD i 0 ∧ xs.getD i 0 ≤ 1000) := Lib.hid (fun i hi => by
    rw [HLen.out] at hi
    rw [HG.out i hi]
    have := HDl.out i
    omega)
  clear hX hN hY hxs hQ hz hs3'
  go_wp2_with fail
  refine (HI.out _).mono ?_
  rintro e w2 ⟨sa, rfl, hb2, hI2⟩
  have HI2 := Lib.hid hI2
  have HB := Lib.hid (HB.out.trans (hb2.mono HB.out.size))
  clear hb2 hI2
  go_wp2_with fail
  refine (HS.out _).mono ?_
  rintro e w3 ⟨sb, rfl, hb3, hI3⟩
  have HI3 := Lib.hid hI3
  have HI2 := Lib.hid (HI2.out.belowAll hb3)
  have HB := Lib.hid (HB.out.trans (hb3.mono HB.out.size))
  clear hb3 hI3
  go_wp2_with fail
  refine (sameInts_any _ _ xs _ _ _ HI2.out HI3.out).mono ?_
  rintro e w4 ⟨rfl, hb4⟩
  have HI2 := Lib.hid (HI2.out.belowAll hb4)
  have HI3 := Lib.hid (HI3.out.belowAll hb4)
  have HB := Lib.hid (HB.out.trans (hb4.mono HB.out.size))
  clear hb4
  clear HI3 HI HS
  go_wp2_with fail
  refine (HSh.out _).mono ?_
  rintro e w5 ⟨rfl, hb5⟩
  have HI2 := Lib.hid (HI2.out.belowAll hb5)
  have HB := Lib.hid (HB.out.trans (hb5.mono HB.out.size))
  clear hb5
  go_wp2_with fail
  refine (HX.out _).mono ?_
  rintro e w6 ⟨sx, rfl, hb6, hI6⟩
  have HI6 := Lib.hid hI6
  have HI2 := Lib.hid (HI2.out.belowAll hb6)
  have HB := Lib.hid (HB.out.trans (hb6.mono HB.out.size))
  clear hb6 hI6
  obtain ⟨g, cap, rfl, hg⟩ : ∃ g cap, sa = .slice (some ⟨g, 0, none⟩) n cap ∧ g < w6.heap.size := by
    rcases HI2.out.shape with ⟨e1, e2⟩ | ⟨g, c, e1, _, hg, _⟩
    · have := HLen.out
      rw [e2] at this
      simp at this
      omega
    · exact ⟨g, c, by rw [e1, HLen.out], hg⟩
  go_wp2
  go_loopw [13] (fun u wr => ∃ v : Nat, v ≤ n ∧ u = .int .i64 (v : Int) ∧ Hid (Below w6.heap.size w6 wr)) (fun u _ => n - (intOf u).toNat)
  case atStart => exact ⟨0, Nat.zero_le _, rfl, Lib.hid (Below.refl _ _)⟩
  case round =>
    obtain ⟨v, hv, rfl, HBv⟩ := hrel
    have HL := Lib.hid (HI2.out.belowAll HBv.out)
    have HLx := Lib.hid (HI6.out.belowAll HBv.out)
    by_cases hlt : v < n
    · obtain ⟨hr, he⟩ := HBk.out v hlt
      obtain ⟨⟨e1, e2⟩, e3, e4⟩ := back_fits n v hlt h12'
      have c1 := HL.out.cell (i := v) (by rw [HLen.out]; exact hlt)
      have c2 := HL.out.cell (i := (n - v) % n) (by rw [HLen.out]; exact hr)
      rw [HG.out v hlt] at c1
      rw [HG.out _ hr, he] at c2
      generalize (n - v) % n = r at *
      generalize difN n s v = y at *
      have i1 : (0 : Int) ≤ (v : Int) := by omega
      have i2 : (v : Int) < (n : Int) := by omega
      have i3 : (0 : Int) ≤ (r : Int) := Int.natCast_nonneg r
      have i4 : (r : Int) < (n : Int) := Int.ofNat_lt.2 hr
      clear he
      go_wp2
      go_region
      go_wp2
      go_roundw
      case rel => exact ⟨v + 1, by omega, by go_num, Lib.hid HBv.out.drew⟩
      case measure => simp [intOf]; omega
    · obtain rfl : v = n := by omega
      have c0 := HL.out.cell (i := 0) (by rw [HLen.out]; omega)
      rw [HG.out 0 (by omega), H0.out] at c0
      have i0 : (0 : Int) < (v : Int) := by omega
      have i5 : 0 < v := hn1
      go_wp2
      have HB0 : Hid (Below w6.heap.size w6 wr.drew) := Lib.hid HBv.out.drew
      have HL0 : Hid (IsInts wr.drew _ (.slice (some ⟨g, 0, none⟩) v cap) xs) := HL
      have HX0 : Hid (IsInts wr.drew _ sx xs) := HLx
      have c0 : wr.drew.cell? ⟨g, 0, none⟩ = some (.int .i64 (k : Int)) := c0
      have hgs : g < wr.drew.heap.size := Nat.lt_of_lt_of_le hg HBv.out.size
      refine wp_region_held_drew (S := fun W => W.cell? ⟨g, 0, none⟩ = some (.int .i64 (k : Int))) hmx c0 (fun _ => ?_)
      generalize wr.drew = W4 at *
      refine take1 0 (v := ?_) rfl (by kernel_rfl) (by kernel_rfl) (by kernel_rfl) (fun _ _ _ h => h) (by rfl) ?_ c0 ?_
      rotate_left
      · intro W9 hA
        go_simp
        try with_reducible rfl
      try simp only [Act.put, List.setIfInBounds_toArray, List.set_cons_zero, List.set_cons_succ]
      refine take1 1 (v := ?_) rfl (by kernel_rfl) (by kernel_rfl) (by kernel_rfl) (fun _ _ _ h => h) (by rfl) ?_ c0 ?_
      rotate_left
      · intro W9 hA
        go_simp
        try with_reducible rfl
      try simp only [Act.put, List.setIfInBounds_toArray, List.set_cons_zero, List.set_cons_succ]
      refine take1 2 (v := ?_) rfl (by kernel_rfl) (by kernel_rfl) (by kernel_rfl) (fun _ _ _ h => h) (by rfl) ?_ c0 ?_
      rotate_left
      · intro W9 hA
        go_simp
        try with_reducible rfl
      try simp only [Act.put, List.setIfInBounds_toArray, List.set_cons_zero, List.set_cons_succ]
      refine take1 3 (v := ?_) rfl (by kernel_rfl) (by kernel_rfl) (by kernel_rfl) (fun _ _ _ h => h) (by rfl) ?_ c0 ?_
      rotate_left
      · intro W9 hA
        go_simp
        try with_reducible rfl
      try simp only [Act.put, List.setIfInBounds_toArray, List.set_cons_zero, List.set_cons_succ]
      refine take1 4 (v := ?_) rfl (by kernel_rfl) (by kernel_rfl) (by kernel_rfl) (fun _ _ _ h => h) (by rfl) ?_ c0 ?_
      rotate_left
      · intro W9 hA
        go_simp
        try with_reducible rfl
      try simp only [Act.put, List.setIfInBounds_toArray, List.set_cons_zero, List.set_cons_succ]
      refine take1 5 (v := ?_) rfl (by kernel_rfl) (by kernel_rfl) (by kernel_rfl) (fun _ _ _ h => h) (by rfl) ?_ c0 ?_
      rotate_left
      · intro W9 hA
        go_simp
        try with_reducible rfl
      try simp only [Act.put, List.setIfInBounds_toArray, List.set_cons_zero, List.set_cons_succ]
      refine take1 6 (v := ?_) rfl (by kernel_rfl) (by kernel_rfl) (by kernel_rfl) (fun _ _ _ h => h) (by rfl) ?_ c0 ?_
      rotate_left
      · intro W9 hA
        go_simp
        try with_reducible rfl
      try simp only [Act.put, List.setIfInBounds_toArray, List.set_cons_zero, List.set_cons_succ]
      refine step1 7 (by kernel_rfl) rfl (fun K hK => ?_)
      go_simp
      refine (sameInts_any _ _ xs _ _ _ HX0.out HL0.out).mono ?_
      rintro e V7 ⟨rfl, hbv⟩
      go_wp2_with fail
      have c1 : V7.cell? ⟨g, 0, none⟩ = some (.int .i64 (k : Int)) := (hbv.cell (p := ⟨g, 0, none⟩) hgs).trans c0
      have HL1 := Lib.hid (HL0.out.belowAll hbv)
      have HB1 := Lib.hid (HB0.out.trans (hbv.mono HB0.out.size))
      clear hbv
      refine hK.out _ _ c1 ?_
      clear hK K
      try simp only [Act.put, List.setIfInBounds_toArray, List.set_cons_zero, List.set_cons_succ]
      refine take1 8 (v := ?_) rfl (by kernel_rfl) (by kernel_rfl) (by kernel_rfl) (fun _ _ _ h => h) (by rfl) ?_ c1 ?_
      rotate_left
      · intro W9 hA
        go_simp
        try with_reducible rfl
      try simp only [Act.put, List.setIfInBounds_toArray, List.set_cons_zero, List.set_cons_succ]
      refine take1 9 (v := ?_) rfl (by kernel_rfl) (by kernel_rfl) (by kernel_rfl) (fun _ _ _ h => h) (by rfl) ?_ c1 ?_
      rotate_left
      · intro W9 hA
        go_simp
        try with_reducible rfl
      try simp only [Act.put, List.setIfInBounds_toArray, List.set_cons_zero, List.set_cons_succ]
      refine take1 10 (v := ?_) rfl (by kernel_rfl) (by kernel_rfl) (by kernel_rfl) (fun _ _ _ h => h) (by rfl) ?_ c1 ?_
      rotate_left
      · intro W9 hA
        go_simp
        try with_reducible rfl
      try simp only [Act.put, List.setIfInBounds_toArray, List.set_cons_zero, List.set_cons_succ]
      refine take1 12 (v := ?_) rfl (by kernel_rfl) (by kernel_rfl) (by kernel_rfl) (fun _ _ _ h => h) (by rfl) ?_ c1 ?_
      rotate_left
      · intro W9 hA
        go_simp
        try with_reducible rfl
      try simp only [Act.put, List.setIfInBounds_toArray, List.set_cons_zero, List.set_cons_succ]
      refine take1 14 (v := ?_) rfl (by kernel_rfl) (by kernel_rfl) (by kernel_rfl) (fun _ _ _ h => h) (by rfl) ?_ c1 ?_
      rotate_left
      · intro W9 hA
        go_simp
        try with_reducible rfl
      try simp only [Act.put, List.setIfInBounds_toArray, List.set_cons_zero, List.set_cons_succ]
      refine step1 11 (by kernel_rfl) rfl (fun K hK => ?_)
      go_simp
      refine (totalL_any _ xs _ _ HL1.out (by rw [HLen.out]; omega) HXb.out).mono ?_
      rintro e V11 ⟨rfl, rfl⟩
      go_wp2_with fail
      refine hK.out _ _ c1 ?_
      clear hK K
      try simp only [Act.put, List.setIfInBounds_toArray, List.set_cons_zero, List.set_cons_succ]
      refine step1 13 (by kernel_rfl) rfl (fun K hK => ?_)
      go_simp
      refine (HSz.out _).mono ?_
      rintro e V13 ⟨rfl, rfl⟩
      go_wp2_with fail
      refine hK.out _ _ c1 ?_
      clear hK K
      try simp only [Act.put, List.setIfInBounds_toArray, List.set_cons_zero, List.set_cons_succ]
      refine step1 15 (by kernel_rfl) rfl (fun K hK => ?_)
      go_simp
      refine (HSz.out _).mono ?_
      rintro e V15 ⟨rfl, rfl⟩
      go_wp2_with fail
      refine hK.out _ _ c1 ?_
      clear hK K
      try simp only [Act.put, List.setIfInBounds_toArray, List.set_cons_zero, List.set_cons_succ]
      rw [HTo.out]
      obtain ⟨m1, m2⟩ := HSq.out
      refine take1 16 (v := ?_) rfl (by kernel_rfl) (by kernel_rfl) (by kernel_rfl) (fun _ _ _ h => h) (by rfl) ?_ c1 ?_
      rotate_left
      · intro W9 hA
        go_simp
        try with_reducible rfl
      try simp only [Act.put, List.setIfInBounds_toArray, List.set_cons_zero, List.set_cons_succ]
      refine take1 17 (v := ?_) rfl (by kernel_rfl) (by kernel_rfl) (by kernel_rfl) (fun _ _ _ h => h) (by rfl) ?_ c1 ?_
      rotate_left
      · intro W9 hA
        go_simp
        try with_reducible rfl
      try simp only [Act.put, List.setIfInBounds_toArray, List.set_cons_zero, List.set_cons_succ]
      refine take1 18 (v := ?_) rfl (by kernel_rfl) (by kernel_rfl) (by kernel_rfl) (fun _ _ _ h => h) (by rfl) ?_ c1 ?_
      rotate_left
      · intro W9 hA
        go_simp
        try with_reducible rfl
      try simp only [Act.put, List.setIfInBounds_toArray, List.set_cons_zero, List.set_cons_succ]
      refine take1 19 (v := ?_) rfl (by kernel_rfl) (by kernel_rfl) (by kernel_rfl) (fun _ _ _ h => h) (by rfl) ?_ c1 ?_
      rotate_left
      · intro W9 hA
        go_simp
        try with_reducible rfl
      try simp only [Act.put, List.setIfInBounds_toArray, List.set_cons_zero, List.set_cons_succ]
      refine take1 20 (v := ?_) rfl (by kernel_rfl) (by kernel_rfl) (by kernel_rfl) (fun _ _ _ h => h) (by rfl) ?_ c1 ?_
      rotate_left
      · intro W9 hA
        go_simp
        try with_reducible rfl
      try simp only [Act.put, List.setIfInBounds_toArray, List.set_cons_zero, List.set_cons_succ]
      refine take1 21 (v := ?_) rfl (by kernel_rfl) (by kernel_rfl) (by kernel_rfl) (fun _ _ _ h => h) (by rfl) ?_ c1 ?_
      rotate_left
      · intro W9 hA
        go_simp
        try with_reducible rfl
      try simp only [Act.put, List.setIfInBounds_toArray, List.set_cons_zero, List.set_cons_succ]
      refine take1 22 (v := ?_) rfl (by kernel_rfl) (by kernel_rfl) (by kernel_rfl) (fun _ _ _ h => h) (by rfl) ?_ c1 ?_
      rotate_left
      · intro W9 hA
        go_simp
        try with_reducible rfl
      try simp only [Act.put, List.setIfInBounds_toArray, List.set_cons_zero, List.set_cons_succ]
      refine take1 23 (v := ?_) rfl (by kernel_rfl) (by kernel_rfl) (by kernel_rfl) (fun _ _ _ h => h) (by rfl) ?_ c1 ?_
      rotate_left
      · intro W9 hA
        go_simp
        try with_reducible rfl
      try simp only [Act.put, List.setIfInBounds_toArray, List.set_cons_zero, List.set_cons_succ]
      refine step1 24 (by kernel_rfl) rfl (fun K hK => ?_)
      go_simp
      refine (HSz.out _).mono ?_
      rintro e V24 ⟨rfl, rfl⟩
      go_wp2_with fail
      refine hK.out _ _ c1 ?_
      clear hK K
      try simp only [Act.put, List.setIfInBounds_toArray, List.set_cons_zero, List.set_cons_succ]
      refine take1 25 (v := ?_) rfl (by kernel_rfl) (by kernel_rfl) (by kernel_rfl) (fun _ _ _ h => h) (by rfl) ?_ c1 ?_
      rotate_left
      · intro W9 hA
        go_simp
        try with_reducible rfl
      try simp only [Act.put, List.setIfInBounds_toArray, List.set_cons_zero, List.set_cons_succ]
      refine take1 26 (v := ?_) rfl (by kernel_rfl) (by kernel_rfl) (by kernel_rfl) (fun _ _ _ h => h) (by rfl) ?_ c1 ?_
      rotate_left
      · intro W9 hA
        go_simp
        try with_reducible rfl
      try simp only [Act.put, List.setIfInBounds_toArray, List.set_cons_zero, List.set_cons_succ]
      refine take1 27 (v := ?_) rfl (by kernel_rfl) (by kernel_rfl) (by kernel_rfl) (fun _ _ _ h => h) (by rfl) ?_ c1 ?_
      rotate_left
      · intro W9 hA
        go_simp
        try with_reducible rfl
      try simp only [Act.put, List.setIfInBounds_toArray, List.set_cons_zero, List.set_cons_succ]
      refine stop1 (by kernel_rfl) ?_
      go_wp2
      go_ret
      exact ⟨rfl, HB.out.trans (HB1.out.mono HB.out.size)⟩
end Go.Proofs.Ytaomjhkodohkcaa
