/- Rounds: the model's words of rounds. -/
import Derived.Test.YtfgolkbafnfblaaRndC
import Derived.Test.YtfgolkbafnfblaaGB
import Derived.Test.YtfgolkbafnfblaaFarLL
import Derived.Laws.AppendOwn
namespace Go.Proofs.Ytfgolkbafnfblaa
open Go.RowKit Go.Shelf
set_option linter.unusedVariables false
attribute [local go_sem] Oper.semAt_some
theorem Try.infoQ : (Try.prog.info? 3).map (fun i => (i.zero, i.size, i.bytes)) = some (some (.int .i64 0), 1, 8) := by kernel_rfl
theorem tab_snoc' (n : Nat) (f : Nat → Int) : tabI (n + 1) f = tabI n f ++ [f n] := by simp [tabI, List.range_succ]
theorem snoc_ints {W : World} {b : Nat} {v : Value} {xs : List Int} {z : Int} (h : W.ownsRow b 3 1 v (xs.length + 1) (xs.map (Value.int .i64) ++ [.int .i64 z])) : IsInts W b v (xs ++ [z]) := by
  unfold IsInts
  rw [List.length_append, List.map_append]
  exact h
/-- A number is appended to a list of one's own. -/
theorem wp_append_ints {o : Oper} {act : Act} {K : Act → World → Prop} {Q : Exit → Act → World → Prop} (s x : Operand) (ho : o.op = .call { callee := .builtin .append, args := #[s, x], argTypes := #[23, 23] })
    (a : Value) (xs : List Int) (r : Int) (W : World) (N : Nat) (hs : act.eval s = a) (hx : act.eval x = .slice (some ⟨W.heap.size, 0, none⟩) 1 1) (hO : IsInts W N a xs) (hl : xs.length ≤ 1000) (hN : N ≤ W.heap.size)
    (h : ∀ (v' : Value) (w1 : World), IsInts w1 N v' (xs ++ [r]) → (∀ (g len c : Nat) (ys : List Int) (N' : Nat), IsInts W N' (.slice (some ⟨g, 0, none⟩) len c) ys → g < N → IsInts w1 N' (.slice (some ⟨g, 0, none⟩) len c) ys) →
      (∀ (B : Nat) (w0 : World), B ≤ N → Below B w0 W → Below B w0 w1) → K (act.put o.dst v') w1) : o.wp Try.prog act (W.alloc (.cells #[.int .i64 r] 3)) K Q := by
  obtain ⟨i0, hi, hz0, hz1, hz2⟩ := info_parts Try.infoQ
  have hO2 : (W.alloc (.cells #[.int .i64 r] 3)).ownsRow N 3 1 a xs.length (xs.map (Value.int .i64)) := World.ownsRow.alloc hO _
  have hc1 : ∀ j u, [Value.int .i64 r][j]? = some u → (W.alloc (.cells #[.int .i64 r] 3)).cell? ((⟨W.heap.size, 0, none⟩ : Addr).add j) = some u := by
    intro j u hj
    cases j with
    | zero => simp at hj; subst hj; simp [Addr.add]
    | succ j => simp at hj
  have hc2 : ∀ u ∈ [Value.int .i64 r], u.oneCell' = true := by intro u hu; simp at hu; subst hu; rfl
  have hc3 : xs.length + 1 ≤ maxLen := by unfold maxLen; omega
  have hc4 : N ≤ (W.alloc (.cells #[.int .i64 r] 3)).heap.size := by simp; omega
  have hbs : ∀ k, a.ownBlock = some k → N ≤ k := fun k hk => (World.ownsRow.lt hO k hk).1
  refine wp_append_own (W.alloc (.cells #[.int .i64 r] 3)) s x 23 ho N 3 i0 (.int .i64 0) 1 8 Try.underlying23 hi hz0 hz1 hz2 rfl (by decide) a xs.length _ hs hO2 ⟨W.heap.size, 0, none⟩ 1 1 [.int .i64 r] hx rfl hc1 hc2 hc3 (by omega) hc4 fun v' w1 hown' hgrow hiff => ?_
  refine h v' w1 (snoc_ints hown') (fun g len c ys N' hy hg => ?_) (fun B w0 hB hb => ?_)
  · refine World.ownsRow.kept (World.ownsRow.alloc hy _) hgrow ?_
    cases ha : a.ownBlock with
    | none => exact .inr (by simp [Value.ownBlock])
    | some k =>
      refine .inr fun e => ?_
      have e1 : some g = some k := e
      injection e1 with e1
      have := hbs k ha
      omega
  · exact (hb.alloc (Nat.le_trans hB hN) _).grown hgrow (by simp; omega) (fun k hk => Nat.le_trans hB (hbs k hk))
/-- The word of a round. -/
def rwordN (n : Nat) (xs : List Int) (j : Nat) : List Int := tabI j (fun i => ((rest n (xs.getD ((i + 1) % n) 0 - xs.getD i 0) : Nat) : Int))
theorem rword_snoc (n : Nat) (xs : List Int) (j : Nat) : rwordN n xs (j + 1) = rwordN n xs j ++ [((rest n (xs.getD ((j + 1) % n) 0 - xs.getD j 0) : Nat) : Int)] := tab_snoc' j _
theorem rword_len (n : Nat) (xs : List Int) (j : Nat) : (rwordN n xs j).length = j := by simp [rwordN, tabI]
/-- All places but 0. -/
def butN (n : Nat) : Nat := 2 ^ n - 2
theorem but_lt (n : Nat) (h1 : 1 ≤ n) : butN n < 2 ^ n := by
  have := Nat.two_pow_pos n
  unfold butN
  omega
theorem specRoundWord_no (n : Int) (sv : Value) (w : World) (h : ¬ (1 ≤ n ∧ n ≤ 12)) :
    Calls Try.prog 23 #[.int .i64 n, sv] w (ListRes w [] false) := by
  have HR := Lib.hid (fun W => specIn_no n 0 W (fun hh => h ⟨hh.1, hh.2.1⟩))
  clear h
  go_enter Try.func23, Try.ntmps23
  go_wp2_with fail
  refine (HR.out _).mono ?_
  rintro e w' ⟨rfl, rfl⟩
  go_wp2
  go_ret2
  exact ⟨_, rfl, (Below.refl _ _).alloc (Nat.le_refl _) _, World.ownsRow_made w #[] 0 (Nat.le_refl _) (by simp [maxLen]) rfl⟩
set_option maxHeartbeats 1000000 in
theorem specRoundWord_any (n : Nat) (sv : Value) (xs : List Int) (b : Nat) (w : World) (h1 : 1 ≤ n) (h2 : n ≤ 12) (hI : IsInts w b sv xs) :
    Calls Try.prog 23 #[.int .i64 (n:Int), sv] w (ListRes w (if isRndB n (butN n) xs then rwordN n xs n else []) (isRndB n (butN n) xs)) := by
  have hmx : Try.prog.follows .mixedOrders = true := by kernel_rfl
  have HR := Lib.hid (fun W => specIn_yes n 0 W h1 h2 (Nat.two_pow_pos n))
  have hwp := wrap_pow n (by omega)
  have hpw := pow_le n h2
  have hp2 : 2 ≤ 2 ^ n := by have := Nat.pow_le_pow_right (n := 2) (by omega) h1; simpa using this
  have hbl := but_lt n h1
  have hw1 : IntKind.i64.wrap (((2 ^ n : Nat) : Int) - 2) = ((butN n : Nat) : Int) := by
    have e : ((2 ^ n : Nat) : Int) - 2 = ((butN n : Nat) : Int) := by unfold butN; omega
    rw [e]; exact IntWalk.i64_in _ ⟨by omega, by omega⟩
  have hw2 : wrap64 (((2 ^ n : Nat) : Int) - 2) = ((butN n : Nat) : Int) := by
    have e : ((2 ^ n : Nat) : Int) - 2 = ((butN n : Nat) : Int) := by unfold butN; omega
    rw [e]; exact IntWalk.wrap64_in _ ⟨by omega, by omega⟩
  have HL := Lib.hid (fun W (hI : IsInts W b sv xs) => l5Is_any n (butN n) sv xs b W h1 h2 hbl hI)
  have HI := Lib.hid (hI.belowAll ((Below.refl w.heap.size w).alloc (Nat.le_refl _) (.cells #[] 3)))
  have HB0 := Lib.hid ((Below.refl w.heap.size w).alloc (Nat.le_refl _) (.cells #[] 3))
  have hlt9 := World.ownsRow.lt hI
  clear hI
  cases hr : isRndB n (butN n) xs
  · rw [hr] at HL
    clear hr
    generalize butN n = B at *
    generalize 2 ^ n = N at *
    go_enter Try.func23, Try.ntmps23
    go_wp2_with fail
    refine (HR.out _).mono ?_
    rintro e w' ⟨rfl, rfl⟩
    go_wp2_with fail
    refine (HL.out _ HI.out).mono ?_
    rintro e w2 ⟨rfl, hb2⟩
    have HO := Lib.hid (IsInts.belowAll (show IsInts (w.alloc (.cells #[] 3)) w.heap.size (.slice (some ⟨w.heap.size, 0, none⟩) 0 0) [] from World.ownsRow_made w #[] 0 (Nat.le_refl _) (by simp [maxLen]) rfl) hb2)
    have HB := Lib.hid (HB0.out.trans (hb2.mono HB0.out.size))
    clear hb2
    go_wp2
    go_ret2
    exact ⟨_, rfl, HB.out, HO.out⟩
  · have hrd := isRnd_iff.1 hr
    rw [hr] at HL
    have hlen := hrd.len
    rcases HI.out.shape with ⟨_, rfl⟩ | ⟨g, cap, rfl, hg1, hg2, hg3⟩
    · simp at hlen; omega
    have HRd := Lib.hid hrd
    have hgl : g < w.heap.size := (hlt9 g rfl).2
    rw [hlen] at HL HI hg3 hlt9 ⊢
    have HLen := Lib.hid hlen
    have HRe := Lib.hid (fun x W hx => l1Rest_all n x W h1 h2 hx)
    clear hr hrd hlt9 hlen
    generalize butN n = B at *
    generalize 2 ^ n = N at *
    go_enter Try.func23, Try.ntmps23
    go_wp2_with fail
    refine (HR.out _).mono ?_
    rintro e w' ⟨rfl, rfl⟩
    go_wp2_with fail
    refine (HL.out _ HI.out).mono ?_
    rintro e w2 ⟨rfl, hb2⟩
    have HO := Lib.hid (IsInts.belowAll (show IsInts (w.alloc (.cells #[] 3)) w.heap.size (.slice (some ⟨w.heap.size, 0, none⟩) 0 0) [] from World.ownsRow_made w #[] 0 (Nat.le_refl _) (by simp [maxLen]) rfl) hb2)
    have HI2 := Lib.hid (HI.out.belowAll hb2)
    have HB := Lib.hid (HB0.out.trans (hb2.mono HB0.out.size))
    clear hb2 HI HB0
    go_wp2
    go_loopw [6, 7] (fun a u wr => ∃ (a' : Value) (i : Nat), a' = a ∧ i ≤ n ∧ u = .int .i64 (i : Int) ∧ IsInts wr w.heap.size a' (rwordN n xs i) ∧ IsInts wr b (.slice (some ⟨g, 0, none⟩) n cap) xs ∧ Below w.heap.size w wr) (fun _ u _ => n - (intOf u).toNat)
    case atStart => exact ⟨_, 0, rfl, Nat.zero_le _, rfl, HO.out, HI2.out, HB.out⟩
    case round =>
      obtain ⟨a, i, rfl, hi', rfl, hO, hI3, hB⟩ := hrel
      have HO3 := Lib.hid hO
      have HI3 := Lib.hid hI3
      have HB3 := Lib.hid hB
      clear hO hI3 hB HO HI2 HB
      by_cases hlt : i < n
      · have hJ : (i + 1) % n < n := Nat.mod_lt _ (by omega)
        have eJ : Int.tmod ((i : Int) + 1) (n : Int) = (((i + 1) % n : Nat) : Int) := by rw [Int.ofNat_tmod]; rfl
        have HSn := Lib.hid (rword_snoc n xs i)
        have hri := HRd.out.lo i hlt
        have hrh := HRd.out.hi i hlt
        have hji := HRd.out.lo _ hJ
        have hjh := HRd.out.hi _ hJ
        generalize (i + 1) % n = J at *
        obtain ⟨zi, hzi⟩ : ∃ zi, xs.getD i 0 = zi := ⟨_, rfl⟩
        obtain ⟨zj, hzj⟩ : ∃ zj, xs.getD J 0 = zj := ⟨_, rfl⟩
        rw [hzi] at hri hrh HSn
        rw [hzj] at hji hjh HSn
        have HR1 := Lib.hid (fun W => HRe.out (zj - zi) W ⟨by omega, by omega⟩)
        have d1 : IntKind.i64.wrap (zj - zi) = zj - zi := IntWalk.i64_in _ ⟨by omega, by omega⟩
        have d2 : wrap64 (zj - zi) = zj - zi := IntWalk.wrap64_in _ ⟨by omega, by omega⟩
        have i1 : (0 : Int) ≤ (i : Int) := by omega
        have i2 : (i : Int) < (n : Int) := by omega
        have i3 : (0 : Int) ≤ (J : Int) := by omega
        have i4 : (J : Int) < (n : Int) := by omega
        have i5 : ((n : Int) = 0) = False := by simp; omega
        have i6 : ((n : Int) == 0) = false := by simp; omega
        have i7 : (n = 0) = False := by simp; omega
        have w9 : IntKind.i64.wrap ((i : Int) + 1) = (i : Int) + 1 := IntWalk.i64_in _ ⟨by omega, by omega⟩
        have w8 : wrap64 ((i : Int) + 1) = (i : Int) + 1 := IntWalk.wrap64_in _ ⟨by omega, by omega⟩
        generalize rest n (zj - zi) = r at *
        clear hri hrh hji hjh
        go_wp2
        have hA0 : IsInts wr.drew b (.slice (some ⟨g, 0, none⟩) n cap) xs ∧ Below w.heap.size w wr.drew := ⟨HI3.out.belowAll (Below.refl _ wr).drew, HB3.out.drew⟩
        have HO4 := Lib.hid (HO3.out.belowAll (Below.refl wr.heap.size wr).drew)
        refine wp_region_held_drew (S := fun W => IsInts W b (.slice (some ⟨g, 0, none⟩) n cap) xs ∧ Below w.heap.size w W) hmx hA0 (fun _ => ?_)
        generalize wr.drew = W3 at *
        clear HO3 HI3 HB3
        refine take1 0 (v := ?_) rfl (by kernel_rfl) (by kernel_rfl) (by kernel_rfl) (fun _ _ _ h => h) (by rfl) ?_ hA0 ?_
        rotate_left
        · intro W9 hA
          clear hA
          go_simp
          try with_reducible rfl
        try simp only [Act.put, List.setIfInBounds_toArray, List.set_cons_zero, List.set_cons_succ]
        refine take1 1 (v := ?_) rfl (by kernel_rfl) (by kernel_rfl) (by kernel_rfl) (fun _ _ _ h => h) (by rfl) ?_ hA0 ?_
        rotate_left
        · intro W9 hA
          clear hA
          go_simp
          try with_reducible rfl
        try simp only [Act.put, List.setIfInBounds_toArray, List.set_cons_zero, List.set_cons_succ]
        refine take1 2 (v := ?_) rfl (by kernel_rfl) (by kernel_rfl) (by kernel_rfl) (fun _ _ _ h => h) (by rfl) ?_ hA0 ?_
        rotate_left
        · intro W9 hA
          clear hA
          go_simp
          try with_reducible rfl
        try simp only [Act.put, List.setIfInBounds_toArray, List.set_cons_zero, List.set_cons_succ]
        refine take1 3 (v := ?_) rfl (by kernel_rfl) (by kernel_rfl) (by kernel_rfl) (fun _ _ _ h => h) (by rfl) ?_ hA0 ?_
        rotate_left
        · intro W9 hA
          clear hA
          go_simp
          try with_reducible rfl
        try simp only [Act.put, List.setIfInBounds_toArray, List.set_cons_zero, List.set_cons_succ]
        refine take1 4 (v := ?_) rfl (by kernel_rfl) (by kernel_rfl) (by kernel_rfl) (fun _ _ _ h => h) (by rfl) ?_ hA0 ?_
        rotate_left
        · intro W9 hA
          clear hA
          go_simp
          try with_reducible rfl
        try simp only [Act.put, List.setIfInBounds_toArray, List.set_cons_zero, List.set_cons_succ]
        refine take1 5 (v := ?_) rfl (by kernel_rfl) (by kernel_rfl) (by kernel_rfl) (fun _ _ _ h => h) (by rfl) ?_ hA0 ?_
        rotate_left
        · intro W9 hA
          clear hA
          go_simp
          try with_reducible rfl
        try simp only [Act.put, List.setIfInBounds_toArray, List.set_cons_zero, List.set_cons_succ]
        refine take1 6 (v := ?_) rfl (by kernel_rfl) (by kernel_rfl) (by kernel_rfl) (fun _ _ _ h => h) (by rfl) ?_ hA0 ?_
        rotate_left
        · intro W9 hA
          clear hA
          go_simp
          try with_reducible rfl
        try simp only [Act.put, List.setIfInBounds_toArray, List.set_cons_zero, List.set_cons_succ]
        refine take1 7 (v := ?_) rfl (by kernel_rfl) (by kernel_rfl) (by kernel_rfl) (fun _ _ _ h => h) (by rfl) ?_ hA0 ?_
        rotate_left
        · intro W9 hA
          have cj := IsInts.cell hA.1 (i := J) (by rw [HLen.out]; exact hJ)
          rw [hzj] at cj
          clear hA
          go_simp
          try with_reducible rfl
        try simp only [Act.put, List.setIfInBounds_toArray, List.set_cons_zero, List.set_cons_succ]
        refine take1 8 (v := ?_) rfl (by kernel_rfl) (by kernel_rfl) (by kernel_rfl) (fun _ _ _ h => h) (by rfl) ?_ hA0 ?_
        rotate_left
        · intro W9 hA
          clear hA
          go_simp
          try with_reducible rfl
        try simp only [Act.put, List.setIfInBounds_toArray, List.set_cons_zero, List.set_cons_succ]
        refine take1 9 (v := ?_) rfl (by kernel_rfl) (by kernel_rfl) (by kernel_rfl) (fun _ _ _ h => h) (by rfl) ?_ hA0 ?_
        rotate_left
        · intro W9 hA
          clear hA
          go_simp
          try with_reducible rfl
        try simp only [Act.put, List.setIfInBounds_toArray, List.set_cons_zero, List.set_cons_succ]
        refine take1 10 (v := ?_) rfl (by kernel_rfl) (by kernel_rfl) (by kernel_rfl) (fun _ _ _ h => h) (by rfl) ?_ hA0 ?_
        rotate_left
        · intro W9 hA
          clear hA
          go_simp
          try with_reducible rfl
        try simp only [Act.put, List.setIfInBounds_toArray, List.set_cons_zero, List.set_cons_succ]
        refine take1 11 (v := ?_) rfl (by kernel_rfl) (by kernel_rfl) (by kernel_rfl) (fun _ _ _ h => h) (by rfl) ?_ hA0 ?_
        rotate_left
        · intro W9 hA
          have ci := IsInts.cell hA.1 (i := i) (by rw [HLen.out]; exact hlt)
          rw [hzi] at ci
          clear hA
          go_simp
          try with_reducible rfl
        try simp only [Act.put, List.setIfInBounds_toArray, List.set_cons_zero, List.set_cons_succ]
        refine take1 12 (v := ?_) rfl (by kernel_rfl) (by kernel_rfl) (by kernel_rfl) (fun _ _ _ h => h) (by rfl) ?_ hA0 ?_
        rotate_left
        · intro W9 hA
          clear hA
          go_simp
          try with_reducible rfl
        try simp only [Act.put, List.setIfInBounds_toArray, List.set_cons_zero, List.set_cons_succ]
        refine take1 13 (v := ?_) rfl (by kernel_rfl) (by kernel_rfl) (by kernel_rfl) (fun _ _ _ h => h) (by rfl) ?_ hA0 ?_
        rotate_left
        · intro W9 hA
          clear hA
          go_simp
          try with_reducible rfl
        try simp only [Act.put, List.setIfInBounds_toArray, List.set_cons_zero, List.set_cons_succ]
        refine step1 14 (by kernel_rfl) rfl (fun K hK => ?_)
        go_simp
        refine (HR1.out _).mono ?_
        rintro e W4 ⟨rfl, rfl⟩
        go_wp2_with fail
        refine hK.out _ _ hA0 ?_
        clear hK K
        try simp only [Act.put, List.setIfInBounds_toArray, List.set_cons_zero, List.set_cons_succ]
        have hA1 : IsInts (W3.alloc (.cells #[.int .i64 (r : Int)] 3)) b (.slice (some ⟨g, 0, none⟩) n cap) xs ∧ Below w.heap.size w (W3.alloc (.cells #[.int .i64 (r : Int)] 3)) := ⟨World.ownsRow.alloc hA0.1 _, hA0.2.alloc hA0.2.size _⟩
        refine step1 15 (by kernel_rfl) rfl (fun K hK => ?_)
        go_simp
        refine hK.out _ _ hA1 ?_
        clear hK K
        try simp only [Act.put, List.setIfInBounds_toArray, List.set_cons_zero, List.set_cons_succ]
        have hz9 := hA0.2.size
        clear eJ d1 d2 w8 w9 i5 i6 i7 i1 i2 i3 i4
        refine step1 16 (by kernel_rfl) rfl (fun K hK => ?_)
        rw [if_pos (by rfl)]
        refine wp_append_ints (.tmp 27) (.tmp 42) rfl a (rwordN n xs i) (r : Int) W3 w.heap.size rfl rfl HO4.out (Nat.le_trans (Nat.le_of_eq (rword_len n xs i)) (Nat.le_trans (Nat.le_of_lt hlt) (Nat.le_trans h2 (by decide)))) hz9 (fun v' w1 hO5 hkeep hbelow => ?_)
        have HO5 : Hid (IsInts w1 w.heap.size v' (rwordN n xs (i + 1))) := Lib.hid (by rw [HSn.out]; exact hO5)
        have hA2 : IsInts w1 b (.slice (some ⟨g, 0, none⟩) n cap) xs ∧ Below w.heap.size w w1 := ⟨hkeep g n cap xs b hA0.1 hgl, hbelow _ _ (Nat.le_refl _) hA0.2⟩
        clear hO5 hkeep hbelow
        refine hK.out _ _ hA2 ?_
        clear hK K
        try simp only [Act.put, List.setIfInBounds_toArray, List.set_cons_zero, List.set_cons_succ]
        refine take1 17 (v := ?_) rfl (by kernel_rfl) (by kernel_rfl) (by kernel_rfl) (fun _ _ _ h => h) (by rfl) ?_ hA2 ?_
        rotate_left
        · intro W9 hA
          clear hA
          go_simp
          try with_reducible rfl
        try simp only [Act.put, List.setIfInBounds_toArray, List.set_cons_zero, List.set_cons_succ]
        refine stop1 (by kernel_rfl) ?_
        go_wp2
        go_roundw
        case rel => exact ⟨_, i + 1, rfl, by omega, by go_num, HO5.out, hA2.1, hA2.2⟩
        case measure => simp [intOf]; omega
      · obtain rfl : i = n := by omega
        go_wp2
        go_ret2
        exact ⟨_, rfl, HB3.out, HO3.out⟩
end Go.Proofs.Ytfgolkbafnfblaa
