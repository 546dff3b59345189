/- The promise law FnPlayAll over given contracts. Written by gen68.py. -/
import Derived.Test.YtaklmepioeoohaaPPlyA
import Derived.Test.YtaklmepioeoohaaGQ
import Derived.Test.YtaklmepioeoohaaDrawJ
import Derived.Test.YtaklmepioeoohaaSame
import Derived.Test.YtaklmepioeoohaaGA
namespace Go.Proofs.Ytaklmepioeoohaa
open Go.RowKit Go.Shelf
set_option linter.unusedVariables false
theorem take9 {P : Program} {md : Region.Mode} {Q : Exit → Act → World → Prop} {S : World → Prop} {L : List Oper} (i : Nat) {oi : Oper} {fuel : Nat} {listed : Array Bool} {a : Act} {w : World} (hi : L[i]? = some oi)
    (hs : Region.noSelect L.toArray = true) (hf : Region.free md L.toArray listed i = true) (hr : (Region.ready md L.toArray listed).contains i = true)
    (hQ : ∀ c a w, Q (.panic c) (a.put oi.dst undef) w → Q (.panic c) a w) (hw : Region.wanted oi (yielded L.toArray a.tmps) = false) (hS : S w)
    (h : wpAnyH P md L.toArray Q S fuel (listed.setIfInBounds i true) (a.put oi.dst undef) w) : wpAnyH P md L.toArray Q S (fuel + 1) listed a w :=
  wpAnyH_take (by simpa using hi) hs hf hr hQ (.inr ⟨by simpa using hw, rfl⟩) hS h
theorem half_fits (n N1 H : Nat) (h1 : 3 ≤ n) (h2 : n ≤ 11) (hN : n - 1 = N1) (hH : N1 / 2 = H) : (IntKind.i64.wrap ((n : Int) - 1) = (N1 : Int) ∧ wrap64 ((n : Int) - 1) = (N1 : Int)) ∧ (Int.tdiv (N1 : Int) 2 = (H : Int) ∧ (N1 : Int) / 2 = (H : Int)) ∧ (IntKind.i64.wrap (H : Int) = (H : Int) ∧ wrap64 (H : Int) = (H : Int)) := by
  refine ⟨two_wraps _ _ (by omega) (by omega), ⟨?_, by omega⟩, two_wraps _ _ rfl (by omega)⟩
  rw [Int.tdiv_eq_ediv_of_nonneg (Int.natCast_nonneg _)]
  omega
theorem pow_wraps (H : Nat) (h : H ≤ 8) : wrap64 (2 ^ H) = ((2 ^ H : Nat) : Int) ∧ IntKind.i64.wrap (2 ^ H) = ((2 ^ H : Nat) : Int) := by
  have a := wrap_pow H (by omega)
  exact ⟨a, by rw [IntWalk.i64_left]; exact a⟩
set_option maxHeartbeats 1000000 in
set_option maxRecDepth 4000 in
theorem lawP_FnPlayAll (W : World) (B len cap : Nat) (A : Option Addr) (f : Nat → Nat) (hC : Code W B A len f) (hB : B ≤ W.heap.size) (hlc : len ≤ cap) (hcap : cap ≤ 9223372036854775807)
    (hN : NoPlayAll) (hY : YesPlayAll) (hPI : YesPlayIn) :
    Calls Try.prog 4 #[.slice A len cap] W fun e w' => e = .returned (.bool true) ∧ Below W.heap.size W w' := by
  have HC := Lib.hid (drawPlayAll_any W B len cap A f hC hB hlc hcap)
  clear hC
  by_cases hlen : (1048576 : Int) < (len : Int)
  · go_enter Try.func4, Try.ntmps4
    go_wp2
    go_ret
    exact ⟨rfl, Below.refl _ _⟩
  go_enter Try.func4, Try.ntmps4
  go_wp2_with fail
  refine HC.out.mono ?_
  rintro e w1 ⟨n, rfl, hn13, hbl⟩
  have HB := Lib.hid hbl
  clear hbl hB hlc hcap
  by_cases hno : AllIn (n : Int)
  rotate_left
  · have HI := Lib.hid (fun W => hN n W hno)
    have HS := Lib.hid (fun W => specPlayAll_no n W hno)
    clear hno hN hY
    go_wp2_with fail
    refine (HI.out _).mono ?_
    rintro e w2 ⟨sa, rfl, hb2, hI2⟩
    have HI2 := Lib.hid hI2
    have HB := Lib.hid (HB.out.trans (hb2.mono HB.out.size))
    clear hb2 hI2
    go_wp2_with fail
    refine (HS.out _).mono ?_
    rintro e w3 ⟨sb, rfl, hb3, hI3⟩
    have HI3 := Lib.hid hI3
    have HI2 := Lib.hid (HI2.out.belowAll hb3)
    have HB := Lib.hid (HB.out.trans (hb3.mono HB.out.size))
    clear hb3 hI3
    go_wp2_with fail
    refine (sameInts_any _ _ [] _ _ _ HI2.out HI3.out).mono ?_
    rintro e w4 ⟨rfl, hb4⟩
    have HI2 := Lib.hid (HI2.out.belowAll hb4)
    have HI3 := Lib.hid (HI3.out.belowAll hb4)
    have HB := Lib.hid (HB.out.trans (hb4.mono HB.out.size))
    clear hb4
    go_wp2_with fail
    refine (sameInts_any _ _ [] _ _ _ HI2.out HI3.out).mono ?_
    rintro e w5 ⟨rfl, hb5⟩
    have HB := Lib.hid (HB.out.trans (hb5.mono HB.out.size))
    clear hb5
    go_wp2
    go_ret
    exact ⟨rfl, HB.out⟩
  obtain ⟨n', hn', h1, h2, h3⟩ := hno
  obtain rfl : n = n' := by omega
  clear hn' hn13
  have HI := Lib.hid (fun W => hY n W h1 h2 h3)
  have HS := Lib.hid (fun W => specPlayAll_yes n W h1 h2 h3)
  have HLn := Lib.hid (playL_size n h1 h2 h3)
  have HGet : Hid (∀ i, i < (playL n (2 ^ (n - 1))).length → ∃ x : Nat, (playL n (2 ^ (n - 1))).getD i 0 = (x : Int) ∧ (∀ W, Calls Try.prog 12 #[.int .i64 (n:Int), .int .i64 (x:Int)] W fun e w' => e = .returned (.bool true) ∧ Below W.heap.size W w') ∧ ∀ i', i' < i → ∃ y : Nat, (playL n (2 ^ (n - 1))).getD i' 0 = (y : Int) ∧ y < x) := Lib.hid (fun i hi => by
    obtain ⟨x, a1, a2, a3, a4⟩ := playL_get n _ i hi
    rw [← half_pow n (by omega)] at a2
    exact ⟨x, a1, fun W => hPI n x W (by omega) a2 a3, a4⟩)
  have hxl : (playL n (2 ^ (n - 1))).length ≤ 4096 := Nat.le_trans (playL_len n (2 ^ (n - 1))) (Nat.le_trans (pow_le (n - 1) (by omega)) (by omega))
  obtain ⟨N1, hN1⟩ : ∃ N1, n - 1 = N1 := ⟨_, rfl⟩
  rw [hN1] at HI HS HLn HGet hxl
  obtain ⟨H, hH⟩ : ∃ H, N1 / 2 = H := ⟨_, rfl⟩
  rw [hH] at HLn
  have hH8 : H ≤ 8 := by omega
  have HM64 : Hid (min H 64 = H) := Lib.hid (Nat.min_eq_left (by omega))
  have HF := Lib.hid (And.intro (half_fits n N1 H h1 h2 hN1 hH) (pow_wraps H hH8))
  generalize playL n (2 ^ N1) = xs at *
  generalize 2 ^ H = P at *
  have hmx : Try.prog.follows .mixedOrders = true := by kernel_rfl
  clear hN hY hPI hH hN1 h3
  go_wp2_with fail
  refine (HI.out _).mono ?_
  rintro e w2 ⟨sa, rfl, hb2, hI2⟩
  have HI2 := Lib.hid hI2
  have HB := Lib.hid (HB.out.trans (hb2.mono HB.out.size))
  clear hb2 hI2
  go_wp2_with fail
  refine (HS.out _).mono ?_
  rintro e w3 ⟨sb, rfl, hb3, hI3⟩
  have HI3 := Lib.hid hI3
  have HI2 := Lib.hid (HI2.out.belowAll hb3)
  have HB := Lib.hid (HB.out.trans (hb3.mono HB.out.size))
  clear hb3 hI3
  go_wp2_with fail
  refine (sameInts_any _ _ xs _ _ _ HI2.out HI3.out).mono ?_
  rintro e w4 ⟨rfl, hb4⟩
  have HI2 := Lib.hid (HI2.out.belowAll hb4)
  have HI3 := Lib.hid (HI3.out.belowAll hb4)
  have HB := Lib.hid (HB.out.trans (hb4.mono HB.out.size))
  clear hb4
  obtain ⟨A', cap', rfl, hsh⟩ : ∃ A' cap', sa = .slice A' xs.length cap' ∧ (xs.length = 0 ∨ ∃ g, A' = some ⟨g, 0, none⟩) := by
    rcases HI2.out.shape with ⟨e1, e2⟩ | ⟨g, c, e1, _, _, _⟩
    · exact ⟨none, 0, by rw [e1, e2]; rfl, .inl (by rw [e2]; rfl)⟩
    · exact ⟨_, c, e1, .inr ⟨g, rfl⟩⟩
  have HSh := Lib.hid hsh
  clear hsh HI3 HI HS
  go_wp2
  go_loopw [8] (fun u wr => ∃ i : Nat, i ≤ xs.length ∧ u = .int .i64 (i : Int) ∧ Hid (Below w4.heap.size w4 wr)) (fun u _ => xs.length - (intOf u).toNat)
  case atStart => exact ⟨0, Nat.zero_le _, rfl, Lib.hid (Below.refl _ _)⟩
  case round =>
    obtain ⟨i, hi, rfl, HBk⟩ := hrel
    have HL := Lib.hid (HI2.out.belowAll HBk.out)
    by_cases hlt : i < xs.length
    · obtain ⟨x, hx, hP, hLt⟩ := HGet.out i hlt
      obtain ⟨g, rfl⟩ := HSh.out.resolve_left (by omega)
      have c1 := HL.out.cell (i := i) hlt
      rw [hx] at c1
      have HX := Lib.hid hx
      have HP := Lib.hid hP
      have HLt := Lib.hid hLt
      clear hx hP hLt
      have i1 : (0 : Int) ≤ (i : Int) := by omega
      have i2 : (i : Int) < (xs.length : Int) := by omega
      by_cases hz : i = 0
      · subst hz
        go_wp2
        have HB0 : Hid (Below w4.heap.size w4 wr.drew) := Lib.hid HBk.out.drew
        have hS0 : wr.drew.cell? ⟨g, 0, none⟩ = some (.int .i64 (x : Int)) := c1
        have hgs : g < wr.drew.heap.size := World.block_lt_of_cell? wr _ c1
        refine wp_region_held_drew (S := fun W => W.cell? ⟨g, 0, none⟩ = some (.int .i64 (x : Int))) hmx hS0 (fun _ => ?_)
        generalize wr.drew = W4 at *
        clear c1
        refine take1 0 (v := ?_) rfl (by kernel_rfl) (by kernel_rfl) (by kernel_rfl) (fun _ _ _ h => h) (by rfl) ?_ hS0 ?_
        rotate_left
        · intro W9 hA
          go_simp
          try with_reducible rfl
        try simp only [Act.put, List.setIfInBounds_toArray, List.set_cons_zero, List.set_cons_succ]
        refine take1 1 (v := ?_) rfl (by kernel_rfl) (by kernel_rfl) (by kernel_rfl) (fun _ _ _ h => h) (by rfl) ?_ hS0 ?_
        rotate_left
        · intro W9 hA
          go_simp
          try with_reducible rfl
        try simp only [Act.put, List.setIfInBounds_toArray, List.set_cons_zero, List.set_cons_succ]
        refine take1 2 (v := ?_) rfl (by kernel_rfl) (by kernel_rfl) (by kernel_rfl) (fun _ _ _ h => h) (by rfl) ?_ hS0 ?_
        rotate_left
        · intro W9 hA
          go_simp
          try with_reducible rfl
        try simp only [Act.put, List.setIfInBounds_toArray, List.set_cons_zero, List.set_cons_succ]
        refine take1 3 (v := ?_) rfl (by kernel_rfl) (by kernel_rfl) (by kernel_rfl) (fun _ _ _ h => h) (by rfl) ?_ hS0 ?_
        rotate_left
        · intro W9 hA
          go_simp
          try with_reducible rfl
        try simp only [Act.put, List.setIfInBounds_toArray, List.set_cons_zero, List.set_cons_succ]
        refine take1 4 (v := ?_) rfl (by kernel_rfl) (by kernel_rfl) (by kernel_rfl) (fun _ _ _ h => h) (by rfl) ?_ hS0 ?_
        rotate_left
        · intro W9 hA
          go_simp
          try with_reducible rfl
        try simp only [Act.put, List.setIfInBounds_toArray, List.set_cons_zero, List.set_cons_succ]
        refine step1 5 (by kernel_rfl) rfl (fun K hK => ?_)
        go_simp
        refine (HP.out _).mono ?_
        rintro e V5 ⟨rfl, hbv⟩
        go_wp2_with fail
        have hS5 : V5.cell? ⟨g, 0, none⟩ = some (.int .i64 (x : Int)) := (hbv.cell (p := ⟨g, 0, none⟩) hgs).trans hS0
        have HB5 := Lib.hid (HB0.out.trans (hbv.mono HB0.out.size))
        clear hbv
        refine hK.out _ _ hS5 ?_
        clear hK K
        try simp only [Act.put, List.setIfInBounds_toArray, List.set_cons_zero, List.set_cons_succ]
        refine take1 6 (v := ?_) rfl (by kernel_rfl) (by kernel_rfl) (by kernel_rfl) (fun _ _ _ h => h) (by rfl) ?_ hS5 ?_
        rotate_left
        · intro W9 hA
          go_simp
          try with_reducible rfl
        try simp only [Act.put, List.setIfInBounds_toArray, List.set_cons_zero, List.set_cons_succ]
        refine take1 7 (v := ?_) rfl (by kernel_rfl) (by kernel_rfl) (by kernel_rfl) (fun _ _ _ h => h) (by rfl) ?_ hS5 ?_
        rotate_left
        · intro W9 hA
          go_simp
          try with_reducible rfl
        try simp only [Act.put, List.setIfInBounds_toArray, List.set_cons_zero, List.set_cons_succ]
        refine take1 8 (v := ?_) rfl (by kernel_rfl) (by kernel_rfl) (by kernel_rfl) (fun _ _ _ h => h) (by rfl) ?_ hS5 ?_
        rotate_left
        · intro W9 hA
          go_simp
          try with_reducible rfl
        try simp only [Act.put, List.setIfInBounds_toArray, List.set_cons_zero, List.set_cons_succ]
        refine take1 9 (v := ?_) rfl (by kernel_rfl) (by kernel_rfl) (by kernel_rfl) (fun _ _ _ h => h) (by rfl) ?_ hS5 ?_
        rotate_left
        · intro W9 hA
          go_simp
          try with_reducible rfl
        try simp only [Act.put, List.setIfInBounds_toArray, List.set_cons_zero, List.set_cons_succ]
        refine take1 10 (v := ?_) rfl (by kernel_rfl) (by kernel_rfl) (by kernel_rfl) (fun _ _ _ h => h) (by rfl) ?_ hS5 ?_
        rotate_left
        · intro W9 hA
          go_simp
          try with_reducible rfl
        try simp only [Act.put, List.setIfInBounds_toArray, List.set_cons_zero, List.set_cons_succ]
        refine take9 11 rfl (by kernel_rfl) (by kernel_rfl) (by kernel_rfl) (fun _ _ _ h => h) (by rfl) hS5 ?_
        try simp only [Act.put, List.setIfInBounds_toArray, List.set_cons_zero, List.set_cons_succ]
        refine take9 12 rfl (by kernel_rfl) (by kernel_rfl) (by kernel_rfl) (fun _ _ _ h => h) (by rfl) hS5 ?_
        try simp only [Act.put, List.setIfInBounds_toArray, List.set_cons_zero, List.set_cons_succ]
        refine take9 13 rfl (by kernel_rfl) (by kernel_rfl) (by kernel_rfl) (fun _ _ _ h => h) (by rfl) hS5 ?_
        try simp only [Act.put, List.setIfInBounds_toArray, List.set_cons_zero, List.set_cons_succ]
        refine take9 14 rfl (by kernel_rfl) (by kernel_rfl) (by kernel_rfl) (fun _ _ _ h => h) (by rfl) hS5 ?_
        try simp only [Act.put, List.setIfInBounds_toArray, List.set_cons_zero, List.set_cons_succ]
        refine take9 15 rfl (by kernel_rfl) (by kernel_rfl) (by kernel_rfl) (fun _ _ _ h => h) (by rfl) hS5 ?_
        try simp only [Act.put, List.setIfInBounds_toArray, List.set_cons_zero, List.set_cons_succ]
        refine take9 16 rfl (by kernel_rfl) (by kernel_rfl) (by kernel_rfl) (fun _ _ _ h => h) (by rfl) hS5 ?_
        try simp only [Act.put, List.setIfInBounds_toArray, List.set_cons_zero, List.set_cons_succ]
        refine take9 17 rfl (by kernel_rfl) (by kernel_rfl) (by kernel_rfl) (fun _ _ _ h => h) (by rfl) hS5 ?_
        try simp only [Act.put, List.setIfInBounds_toArray, List.set_cons_zero, List.set_cons_succ]
        refine take9 18 rfl (by kernel_rfl) (by kernel_rfl) (by kernel_rfl) (fun _ _ _ h => h) (by rfl) hS5 ?_
        try simp only [Act.put, List.setIfInBounds_toArray, List.set_cons_zero, List.set_cons_succ]
        refine take9 19 rfl (by kernel_rfl) (by kernel_rfl) (by kernel_rfl) (fun _ _ _ h => h) (by rfl) hS5 ?_
        try simp only [Act.put, List.setIfInBounds_toArray, List.set_cons_zero, List.set_cons_succ]
        refine take9 20 rfl (by kernel_rfl) (by kernel_rfl) (by kernel_rfl) (fun _ _ _ h => h) (by rfl) hS5 ?_
        try simp only [Act.put, List.setIfInBounds_toArray, List.set_cons_zero, List.set_cons_succ]
        refine take1 21 (v := ?_) rfl (by kernel_rfl) (by kernel_rfl) (by kernel_rfl) (fun _ _ _ h => h) (by rfl) ?_ hS5 ?_
        rotate_left
        · intro W9 hA
          go_simp
          try with_reducible rfl
        try simp only [Act.put, List.setIfInBounds_toArray, List.set_cons_zero, List.set_cons_succ]
        refine take1 22 (v := ?_) rfl (by kernel_rfl) (by kernel_rfl) (by kernel_rfl) (fun _ _ _ h => h) (by rfl) ?_ hS5 ?_
        rotate_left
        · intro W9 hA
          go_simp
          try with_reducible rfl
        try simp only [Act.put, List.setIfInBounds_toArray, List.set_cons_zero, List.set_cons_succ]
        refine stop1 (by kernel_rfl) ?_
        go_wp2
        go_roundw
        case rel => exact ⟨1, by omega, by go_num, HB5⟩
        case measure => simp [intOf]; omega
      · obtain ⟨J, hJ⟩ : ∃ J, i - 1 = J := ⟨_, rfl⟩
        obtain ⟨y, hy, hyx⟩ := HLt.out J (by omega)
        have c2 := HL.out.cell (i := J) (by omega)
        rw [hy] at c2
        obtain ⟨j1, j2⟩ := two_wraps ((i : Int) - 1) J (by omega) (by omega)
        have j3 : (0 : Int) ≤ (J : Int) := by omega
        have j4 : (J : Int) < (xs.length : Int) := by omega
        have j5 : J < xs.length := by omega
        have l1 : (0 : Int) < (i : Int) := by omega
        have l2 : ¬ (x : Int) ≤ (y : Int) := by omega
        have l3 := decide_eq_false l2
        have l4 := decide_eq_true l1
        have l5 : 0 < i := by omega
        have l6 := decide_eq_true l5
        have l7 : ¬ x ≤ y := by omega
        have l8 := decide_eq_false l7
        clear hy hyx hJ
        go_wp2
        have HB0 : Hid (Below w4.heap.size w4 wr.drew) := Lib.hid HBk.out.drew
        have hS0 : wr.drew.cell? ⟨g, i, none⟩ = some (.int .i64 (x : Int)) ∧ wr.drew.cell? ⟨g, J, none⟩ = some (.int .i64 (y : Int)) := ⟨c1, c2⟩
        have hgs : g < wr.drew.heap.size := World.block_lt_of_cell? wr _ c1
        refine wp_region_held_drew (S := fun W => W.cell? ⟨g, i, none⟩ = some (.int .i64 (x : Int)) ∧ W.cell? ⟨g, J, none⟩ = some (.int .i64 (y : Int))) hmx hS0 (fun _ => ?_)
        generalize wr.drew = W4 at *
        clear c1 c2
        refine take1 0 (v := ?_) rfl (by kernel_rfl) (by kernel_rfl) (by kernel_rfl) (fun _ _ _ h => h) (by rfl) ?_ hS0 ?_
        rotate_left
        · intro W9 hA
          obtain ⟨r1, r2⟩ := hA
          go_simp
          try with_reducible rfl
        try simp only [Act.put, List.setIfInBounds_toArray, List.set_cons_zero, List.set_cons_succ]
        refine take1 1 (v := ?_) rfl (by kernel_rfl) (by kernel_rfl) (by kernel_rfl) (fun _ _ _ h => h) (by rfl) ?_ hS0 ?_
        rotate_left
        · intro W9 hA
          obtain ⟨r1, r2⟩ := hA
          go_simp
          try with_reducible rfl
        try simp only [Act.put, List.setIfInBounds_toArray, List.set_cons_zero, List.set_cons_succ]
        refine take1 2 (v := ?_) rfl (by kernel_rfl) (by kernel_rfl) (by kernel_rfl) (fun _ _ _ h => h) (by rfl) ?_ hS0 ?_
        rotate_left
        · intro W9 hA
          obtain ⟨r1, r2⟩ := hA
          go_simp
          try with_reducible rfl
        try simp only [Act.put, List.setIfInBounds_toArray, List.set_cons_zero, List.set_cons_succ]
        refine take1 3 (v := ?_) rfl (by kernel_rfl) (by kernel_rfl) (by kernel_rfl) (fun _ _ _ h => h) (by rfl) ?_ hS0 ?_
        rotate_left
        · intro W9 hA
          obtain ⟨r1, r2⟩ := hA
          go_simp
          try with_reducible rfl
        try simp only [Act.put, List.setIfInBounds_toArray, List.set_cons_zero, List.set_cons_succ]
        refine take1 4 (v := ?_) rfl (by kernel_rfl) (by kernel_rfl) (by kernel_rfl) (fun _ _ _ h => h) (by rfl) ?_ hS0 ?_
        rotate_left
        · intro W9 hA
          obtain ⟨r1, r2⟩ := hA
          go_simp
          try with_reducible rfl
        try simp only [Act.put, List.setIfInBounds_toArray, List.set_cons_zero, List.set_cons_succ]
        refine step1 5 (by kernel_rfl) rfl (fun K hK => ?_)
        go_simp
        refine (HP.out _).mono ?_
        rintro e V5 ⟨rfl, hbv⟩
        go_wp2_with fail
        have hS5 : V5.cell? ⟨g, i, none⟩ = some (.int .i64 (x : Int)) ∧ V5.cell? ⟨g, J, none⟩ = some (.int .i64 (y : Int)) := ⟨(hbv.cell (p := ⟨g, i, none⟩) hgs).trans hS0.1, (hbv.cell (p := ⟨g, J, none⟩) hgs).trans hS0.2⟩
        have HB5 := Lib.hid (HB0.out.trans (hbv.mono HB0.out.size))
        clear hbv
        refine hK.out _ _ hS5 ?_
        clear hK K
        try simp only [Act.put, List.setIfInBounds_toArray, List.set_cons_zero, List.set_cons_succ]
        refine take1 6 (v := ?_) rfl (by kernel_rfl) (by kernel_rfl) (by kernel_rfl) (fun _ _ _ h => h) (by rfl) ?_ hS5 ?_
        rotate_left
        · intro W9 hA
          obtain ⟨r1, r2⟩ := hA
          go_simp
          try with_reducible rfl
        try simp only [Act.put, List.setIfInBounds_toArray, List.set_cons_zero, List.set_cons_succ]
        refine take1 7 (v := ?_) rfl (by kernel_rfl) (by kernel_rfl) (by kernel_rfl) (fun _ _ _ h => h) (by rfl) ?_ hS5 ?_
        rotate_left
        · intro W9 hA
          obtain ⟨r1, r2⟩ := hA
          go_simp
          try with_reducible rfl
        try simp only [Act.put, List.setIfInBounds_toArray, List.set_cons_zero, List.set_cons_succ]
        refine take1 8 (v := ?_) rfl (by kernel_rfl) (by kernel_rfl) (by kernel_rfl) (fun _ _ _ h => h) (by rfl) ?_ hS5 ?_
        rotate_left
        · intro W9 hA
          obtain ⟨r1, r2⟩ := hA
          go_simp
          try with_reducible rfl
        try simp only [Act.put, List.setIfInBounds_toArray, List.set_cons_zero, List.set_cons_succ]
        refine take1 9 (v := ?_) rfl (by kernel_rfl) (by kernel_rfl) (by kernel_rfl) (fun _ _ _ h => h) (by rfl) ?_ hS5 ?_
        rotate_left
        · intro W9 hA
          obtain ⟨r1, r2⟩ := hA
          go_simp
          try with_reducible rfl
        try simp only [Act.put, List.setIfInBounds_toArray, List.set_cons_zero, List.set_cons_succ]
        refine take1 10 (v := ?_) rfl (by kernel_rfl) (by kernel_rfl) (by kernel_rfl) (fun _ _ _ h => h) (by rfl) ?_ hS5 ?_
        rotate_left
        · intro W9 hA
          obtain ⟨r1, r2⟩ := hA
          go_simp
          try with_reducible rfl
        try simp only [Act.put, List.setIfInBounds_toArray, List.set_cons_zero, List.set_cons_succ]
        refine take1 11 (v := ?_) rfl (by kernel_rfl) (by kernel_rfl) (by kernel_rfl) (fun _ _ _ h => h) (by rfl) ?_ hS5 ?_
        rotate_left
        · intro W9 hA
          obtain ⟨r1, r2⟩ := hA
          go_simp
          try with_reducible rfl
        try simp only [Act.put, List.setIfInBounds_toArray, List.set_cons_zero, List.set_cons_succ]
        refine take1 12 (v := ?_) rfl (by kernel_rfl) (by kernel_rfl) (by kernel_rfl) (fun _ _ _ h => h) (by rfl) ?_ hS5 ?_
        rotate_left
        · intro W9 hA
          obtain ⟨r1, r2⟩ := hA
          go_simp
          try with_reducible rfl
        try simp only [Act.put, List.setIfInBounds_toArray, List.set_cons_zero, List.set_cons_succ]
        refine take1 13 (v := ?_) rfl (by kernel_rfl) (by kernel_rfl) (by kernel_rfl) (fun _ _ _ h => h) (by rfl) ?_ hS5 ?_
        rotate_left
        · intro W9 hA
          obtain ⟨r1, r2⟩ := hA
          go_simp
          try with_reducible rfl
        try simp only [Act.put, List.setIfInBounds_toArray, List.set_cons_zero, List.set_cons_succ]
        refine take1 14 (v := ?_) rfl (by kernel_rfl) (by kernel_rfl) (by kernel_rfl) (fun _ _ _ h => h) (by rfl) ?_ hS5 ?_
        rotate_left
        · intro W9 hA
          obtain ⟨r1, r2⟩ := hA
          go_simp
          try with_reducible rfl
        try simp only [Act.put, List.setIfInBounds_toArray, List.set_cons_zero, List.set_cons_succ]
        refine take1 15 (v := ?_) rfl (by kernel_rfl) (by kernel_rfl) (by kernel_rfl) (fun _ _ _ h => h) (by rfl) ?_ hS5 ?_
        rotate_left
        · intro W9 hA
          obtain ⟨r1, r2⟩ := hA
          go_simp
          try with_reducible rfl
        try simp only [Act.put, List.setIfInBounds_toArray, List.set_cons_zero, List.set_cons_succ]
        refine take1 16 (v := ?_) rfl (by kernel_rfl) (by kernel_rfl) (by kernel_rfl) (fun _ _ _ h => h) (by rfl) ?_ hS5 ?_
        rotate_left
        · intro W9 hA
          obtain ⟨r1, r2⟩ := hA
          go_simp
          try with_reducible rfl
        try simp only [Act.put, List.setIfInBounds_toArray, List.set_cons_zero, List.set_cons_succ]
        refine take1 17 (v := ?_) rfl (by kernel_rfl) (by kernel_rfl) (by kernel_rfl) (fun _ _ _ h => h) (by rfl) ?_ hS5 ?_
        rotate_left
        · intro W9 hA
          obtain ⟨r1, r2⟩ := hA
          go_simp
          try with_reducible rfl
        try simp only [Act.put, List.setIfInBounds_toArray, List.set_cons_zero, List.set_cons_succ]
        refine take1 18 (v := ?_) rfl (by kernel_rfl) (by kernel_rfl) (by kernel_rfl) (fun _ _ _ h => h) (by rfl) ?_ hS5 ?_
        rotate_left
        · intro W9 hA
          obtain ⟨r1, r2⟩ := hA
          go_simp
          try with_reducible rfl
        try simp only [Act.put, List.setIfInBounds_toArray, List.set_cons_zero, List.set_cons_succ]
        refine take1 19 (v := ?_) rfl (by kernel_rfl) (by kernel_rfl) (by kernel_rfl) (fun _ _ _ h => h) (by rfl) ?_ hS5 ?_
        rotate_left
        · intro W9 hA
          obtain ⟨r1, r2⟩ := hA
          go_simp
          try with_reducible rfl
        try simp only [Act.put, List.setIfInBounds_toArray, List.set_cons_zero, List.set_cons_succ]
        refine take1 20 (v := ?_) rfl (by kernel_rfl) (by kernel_rfl) (by kernel_rfl) (fun _ _ _ h => h) (by rfl) ?_ hS5 ?_
        rotate_left
        · intro W9 hA
          obtain ⟨r1, r2⟩ := hA
          go_simp
          try with_reducible rfl
        try simp only [Act.put, List.setIfInBounds_toArray, List.set_cons_zero, List.set_cons_succ]
        refine take1 21 (v := ?_) rfl (by kernel_rfl) (by kernel_rfl) (by kernel_rfl) (fun _ _ _ h => h) (by rfl) ?_ hS5 ?_
        rotate_left
        · intro W9 hA
          obtain ⟨r1, r2⟩ := hA
          go_simp
          try with_reducible rfl
        try simp only [Act.put, List.setIfInBounds_toArray, List.set_cons_zero, List.set_cons_succ]
        refine take1 22 (v := ?_) rfl (by kernel_rfl) (by kernel_rfl) (by kernel_rfl) (fun _ _ _ h => h) (by rfl) ?_ hS5 ?_
        rotate_left
        · intro W9 hA
          obtain ⟨r1, r2⟩ := hA
          go_simp
          try with_reducible rfl
        try simp only [Act.put, List.setIfInBounds_toArray, List.set_cons_zero, List.set_cons_succ]
        refine stop1 (by kernel_rfl) ?_
        go_wp2
        go_roundw
        case rel => exact ⟨i + 1, by omega, by go_num, HB5⟩
        case measure => simp [intOf]; omega
    · obtain rfl : i = xs.length := by omega
      have HB9 := Lib.hid (HB.out.trans (HBk.out.mono HB.out.size))
      obtain ⟨⟨⟨e1, e2⟩, ⟨e3, e4⟩, ⟨e5, e6⟩⟩, e7, e8⟩ := HF.out
      have e9 : ((xs.length : Int) == (P : Int)) = true := beq_same HLn.out
      have e10 : (0 : Int) ≤ (H : Int) := Int.natCast_nonneg H
      have e11 := HM64.out
      go_wp2
      go_ret
      exact ⟨rfl, HB9.out⟩
end Go.Proofs.Ytaklmepioeoohaa
