/- FnRoundBy, the program's contracts given. -/
import Derived.Test.YtfgolkbafnfblaaPRndB
import Derived.Test.YtfgolkbafnfblaaRndI
namespace Go.Proofs.Ytfgolkbafnfblaa
open Go.RowKit Go.Shelf
set_option linter.unusedVariables false
/-- All of a list but its first number is appended to a list of one's own; all else that is apart from it stays. -/
theorem wp_append_tail {o : Oper} {act : Act} {K : Act → World → Prop} {Q : Exit → Act → World → Prop} (s x : Operand) (ho : o.op = .call { callee := .builtin .append, args := #[s, x], argTypes := #[23, 23] })
    (a : Value) (ys xs : List Int) (W : World) (N g L c cap b : Nat) (hs : act.eval s = a) (hx : act.eval x = .slice (some ⟨g, 1, none⟩) L c) (hO : IsInts W N a ys) (hX : IsInts W b (.slice (some ⟨g, 0, none⟩) xs.length cap) xs) (hL : xs.length = L + 1)
    (hl : ys.length + L ≤ 1000) (hN : N ≤ W.heap.size)
    (h : ∀ (v' : Value) (w1 : World), IsInts w1 N v' (ys ++ xs.tail) → (∀ (v : Value) (zs : List Int) (N' : Nat), IsInts W N' v zs → (v.ownBlock = none ∨ v.ownBlock ≠ a.ownBlock) → IsInts w1 N' v zs) →
      (∀ (B : Nat) (w0 : World), B ≤ N → Below B w0 W → Below B w0 w1) → W.heap.size ≤ w1.heap.size → K (act.put o.dst v') w1) : o.wp Try.prog act W K Q := by
  obtain ⟨i0, hi, hz0, hz1, hz2⟩ := info_parts Try.infoQ
  have htl : xs.tail.length = L := by simp; omega
  have hc1 : ∀ j u, (xs.tail.map (Value.int .i64))[j]? = some u → W.cell? ((⟨g, 1, none⟩ : Addr).add j) = some u := fun j u hu => by
    have h0 := World.ownsRow.cells hX (g := g) rfl (j + 1) u (by
      cases xs with
      | nil => simp at hu
      | cons x l => simpa using hu)
    rw [show (⟨g, 1, none⟩ : Addr).add j = (⟨g, 0, none⟩ : Addr).add (j + 1) from (by
      cases j with
      | zero => rfl
      | succ j => show (⟨g, 1 + (j + 1), none⟩ : Addr) = ⟨g, 0 + (j + 1 + 1), none⟩; rw [show 1 + (j + 1) = 0 + (j + 1 + 1) from (by omega)])]
    exact h0
  have hc2 : ∀ u ∈ xs.tail.map (Value.int .i64), u.oneCell' = true := by
    intro u hu
    obtain ⟨z, _, rfl⟩ := List.mem_map.1 hu
    rfl
  have hc3 : ys.length + L ≤ maxLen := by unfold maxLen; omega
  have hbs : ∀ k, a.ownBlock = some k → N ≤ k := fun k hk => (World.ownsRow.lt hO k hk).1
  refine wp_append_own W s x 23 ho N 3 i0 (.int .i64 0) 1 8 Try.underlying23 hi hz0 hz1 hz2 rfl (by decide) a ys.length _ hs hO ⟨g, 1, none⟩ L c (xs.tail.map (Value.int .i64)) hx (by rw [List.length_map, htl, Nat.mul_one]) hc1 hc2 hc3 (Nat.le_trans (Nat.mul_le_mul_right 8 hl) (by decide)) hN fun v' w1 hown' hgrow hiff => ?_
  refine h v' w1 ?_ (fun v zs N' hy hg => World.ownsRow.kept hy hgrow hg) (fun B w0 hB hb => hb.grown hgrow (Nat.le_trans hB hN) (fun k hk => Nat.le_trans hB (hbs k hk))) hgrow.size
  unfold IsInts
  rw [List.length_append, List.map_append, htl]
  exact hown'
set_option maxHeartbeats 2000000 in
theorem lawP_RoundBy (W : World) (B len cap : Nat) (A : Option Addr) (f : Nat → Nat) (hC : Code W B A len f) (hB : B ≤ W.heap.size) (hlc : len ≤ cap) (hcap : cap ≤ 9223372036854775807)
    (hW : ∀ (n b : Nat) (sv : Value) (xs : List Int) (W : World), 1 ≤ n → n ≤ 12 → xs.length ≤ 1000 → IsInts W b sv xs → Calls Try.prog 11 #[.int .i64 (n:Int), sv] W (ListRes W (if isRndB n (butN n) xs then rwordN n xs n else []) (isRndB n (butN n) xs)))
    (hBy : ∀ (n b : Nat) (sv : Value) (xs : List Int) (W : World), 1 ≤ n → n ≤ 12 → xs.length ≤ 1000 → IsInts W b sv xs → Calls Try.prog 25 #[.int .i64 (n:Int), sv] W (ListRes W (byRes n xs) (okByB n xs))) :
    Calls Try.prog 7 #[.slice A len cap] W fun e w' => e = .returned (.bool true) ∧ Below W.heap.size W w' := by
  have hmx : Try.prog.follows .mixedOrders = true := by kernel_rfl
  have HC := Lib.hid (drawRoundBy_any W B len cap A f hC hB hlc hcap)
  clear hC
  by_cases hlen : (1048576 : Int) < (len : Int)
  · go_enter Try.func7, Try.ntmps7
    go_wp2
    go_ret
    exact ⟨rfl, Below.refl _ _⟩
  go_enter Try.func7, Try.ntmps7
  go_wp2_with fail
  refine HC.out.mono ?_
  rintro e w1 ⟨n, sl, xs, rfl, hn1, hn8, hin, hb1, hI1⟩
  have HB := Lib.hid hb1
  have HL := Lib.hid hI1
  have hxl : xs.length ≤ 1000 := Nat.le_trans hin (by decide)
  clear hb1 hB hlc hcap hI1 hin
  have HI := Lib.hid (fun b W (h : IsInts W b sl xs) => hBy n b sl xs W hn1 (by omega) hxl h)
  have HS := Lib.hid (fun b W (h : IsInts W b sl xs) => specRoundBy_any n sl xs b W hn1 (by omega) h)
  cases hr : okByB n xs
  · rw [hr, byRes_no (fun h => by rw [okBy_yes h] at hr; cases hr)] at HI HS
    clear hr hW hBy
    go_wp2_with fail
    refine (HI.out _ _ HL.out).mono ?_
    rintro e w2 ⟨sa, rfl, hb2, hI2⟩
    have HI2 := Lib.hid hI2
    have HL := Lib.hid (HL.out.belowAll hb2)
    have HB := Lib.hid (HB.out.trans (hb2.mono HB.out.size))
    clear hb2 hI2
    go_wp2_with fail
    refine (HS.out _ _ HL.out).mono ?_
    rintro e w3 ⟨sb, rfl, hb3, hI3⟩
    have HI3 := Lib.hid hI3
    have HI2 := Lib.hid (HI2.out.belowAll hb3)
    have HB := Lib.hid (HB.out.trans (hb3.mono HB.out.size))
    clear hb3 hI3
    go_wp2_with fail
    refine (sameInts_any _ _ [] _ _ _ HI2.out HI3.out).mono ?_
    rintro e w4 ⟨rfl, hb4⟩
    have HI2 := Lib.hid (HI2.out.belowAll hb4)
    have HI3 := Lib.hid (HI3.out.belowAll hb4)
    have HB := Lib.hid (HB.out.trans (hb4.mono HB.out.size))
    clear hb4
    go_wp2_with fail
    refine (sameInts_any _ _ [] _ _ _ HI2.out HI3.out).mono ?_
    rintro e w5 ⟨rfl, hb5⟩
    have HB := Lib.hid (HB.out.trans (hb5.mono HB.out.size))
    clear hb5
    go_wp2
    go_ret
    exact ⟨rfl, HB.out⟩
  · have hok := okBy_iff.1 hr
    have hwb := word_by hok
    have hrn := hok.rnd
    have hbl := by_len n xs n
    have hn2 := hrn.two
    rw [hr, byRes_yes hok] at HI HS
    have HY := Lib.hid (fun b sv W (h : IsInts W b sv (byN n xs n)) => hW n b sv (byN n xs n) W hn1 (by omega) (by omega) h)
    rw [isRnd_yes hrn, hwb] at HY
    have e0 : (if true = true then xs else []) = xs := rfl
    rw [e0] at HY
    have htu := ok_turned (by omega) hok
    have hxn := hok.len
    have HT := Lib.hid (fun b sv W (h : IsInts W b sv (xs.tail ++ [xs.getD 0 0])) => hBy n b sv (xs.tail ++ [xs.getD 0 0]) W hn1 (by omega) (by simp; omega) h)
    rw [okBy_yes htu] at HT
    generalize byRes n (xs.tail ++ [xs.getD 0 0]) = ts at *
    generalize byN n xs n = ys at *
    clear hr hW hBy e0 hok hwb hrn htu
    go_wp2_with fail
    refine (HI.out _ _ HL.out).mono ?_
    rintro e w2 ⟨sa, rfl, hb2, hI2⟩
    have HI2 := Lib.hid hI2
    have HL := Lib.hid (HL.out.belowAll hb2)
    have HB := Lib.hid (HB.out.trans (hb2.mono HB.out.size))
    clear hb2 hI2
    go_wp2_with fail
    refine (HS.out _ _ HL.out).mono ?_
    rintro e w3 ⟨sb, rfl, hb3, hI3⟩
    have HI3 := Lib.hid hI3
    have HI2 := Lib.hid (HI2.out.belowAll hb3)
    have HL := Lib.hid (HL.out.belowAll hb3)
    have HB := Lib.hid (HB.out.trans (hb3.mono HB.out.size))
    clear hb3 hI3
    go_wp2_with fail
    refine (sameInts_any _ _ ys _ _ _ HI2.out HI3.out).mono ?_
    rintro e w4 ⟨rfl, hb4⟩
    have HI2 := Lib.hid (HI2.out.belowAll hb4)
    have HL := Lib.hid (HL.out.belowAll hb4)
    have HB := Lib.hid (HB.out.trans (hb4.mono HB.out.size))
    clear hb4 HI3
    go_wp2_with fail
    refine (HY.out _ _ _ HI2.out).mono ?_
    rintro e w5 ⟨sx, rfl, hb5, hI5⟩
    have HI5 := Lib.hid hI5
    have HL := Lib.hid (HL.out.belowAll hb5)
    have HB := Lib.hid (HB.out.trans (hb5.mono HB.out.size))
    clear hb5 hI5 HI2
    rcases HL.out.shape with ⟨_, e9⟩ | ⟨g, cp, hsl, hg1, hg2, hg3⟩
    · rw [e9] at hxn; simp at hxn; omega
    rw [hxn] at hsl
    subst hsl
    have c0 := HL.out.cell (i := 0) (by omega)
    have HLc := Lib.hid HL.out
    have hcp : n ≤ cp := by
      obtain ⟨_, h | ⟨g', c', cur, e, h1, h2, h3, h4, h5, h6⟩⟩ := HLc.out
      · cases h.1
      · cases e; omega
    go_wp2_with fail
    have hA0 : w5.drew.cell? ⟨g, 0, none⟩ = some (.int .i64 (xs.getD 0 0)) := c0
    have HB := Lib.hid HB.out.drew
    have HLw := Lib.hid (HLc.out.belowAll (Below.refl _ w5).drew)
    have HXw := Lib.hid (HI5.out.belowAll (Below.refl _ w5).drew)
    obtain ⟨N0, hN0⟩ : ∃ N0, w5.heap.size = N0 := ⟨_, rfl⟩
    have hz0 : W.heap.size ≤ N0 := by rw [← hN0]; exact HB.out.size
    have hzW : N0 ≤ w5.drew.heap.size := Nat.le_of_eq hN0.symm
    have hgN : g < N0 := by rw [← hN0]; exact hg2
    have hXl : ∀ k, sx.ownBlock = some k → k < N0 := fun k hk => by rw [← hN0]; exact (World.ownsRow.lt HI5.out k hk).2
    obtain ⟨z, hzz⟩ : ∃ z, xs.getD 0 0 = z := ⟨_, rfl⟩
    rw [hzz] at hA0 HT
    refine wp_region_held_drew (S := fun W => W.cell? ⟨g, 0, none⟩ = some (.int .i64 z)) hmx hA0 (fun _ => ?_)
    generalize w5.drew = W3 at *
    have i1 : (1 : Int) ≤ (n : Int) := by omega
    have i2 : (0 : Int) < (n : Int) := by omega
    have i4 : 0 < n := hn1
    have i5 : (cp = 1) = False := by simp; omega
    have i3 : (n : Int) ≤ (cp : Int) := by omega
    clear c0 hg2 hg1
    refine take1 1 (v := ?_) rfl (by kernel_rfl) (by kernel_rfl) (by kernel_rfl) (fun _ _ _ h => h) (by rfl) ?_ hA0 ?_
    rotate_left
    · intro W9 hA
      have d0 := hA
      clear hA
      go_simp
      try with_reducible rfl
    try simp only [Act.put, List.setIfInBounds_toArray, List.set_cons_zero, List.set_cons_succ]
    refine take1 2 (v := ?_) rfl (by kernel_rfl) (by kernel_rfl) (by kernel_rfl) (fun _ _ _ h => h) (by rfl) ?_ hA0 ?_
    rotate_left
    · intro W9 hA
      have d0 := hA
      clear hA
      go_simp
      try with_reducible rfl
    try simp only [Act.put, List.setIfInBounds_toArray, List.set_cons_zero, List.set_cons_succ]
    refine take1 4 (v := ?_) rfl (by kernel_rfl) (by kernel_rfl) (by kernel_rfl) (fun _ _ _ h => h) (by rfl) ?_ hA0 ?_
    rotate_left
    · intro W9 hA
      have d0 := hA
      clear hA
      go_simp
      try with_reducible rfl
    try simp only [Act.put, List.setIfInBounds_toArray, List.set_cons_zero, List.set_cons_succ]
    refine take1 5 (v := ?_) rfl (by kernel_rfl) (by kernel_rfl) (by kernel_rfl) (fun _ _ _ h => h) (by rfl) ?_ hA0 ?_
    rotate_left
    · intro W9 hA
      have d0 := hA
      clear hA
      go_simp
      try with_reducible rfl
    try simp only [Act.put, List.setIfInBounds_toArray, List.set_cons_zero, List.set_cons_succ]
    refine take1 6 (v := ?_) rfl (by kernel_rfl) (by kernel_rfl) (by kernel_rfl) (fun _ _ _ h => h) (by rfl) ?_ hA0 ?_
    rotate_left
    · intro W9 hA
      have d0 := hA
      clear hA
      go_simp
      try with_reducible rfl
    try simp only [Act.put, List.setIfInBounds_toArray, List.set_cons_zero, List.set_cons_succ]
    --GEN38
    refine step2 0 7 (by kernel_rfl) rfl rfl (fun K hK => ?_) (fun K hK => ?_)
    · go_simp
      obtain ⟨h1, hh1⟩ : ∃ h1, W3.heap.size = h1 := ⟨_, rfl⟩
      have hNh1 : N0 ≤ h1 := by omega
      have HX1 := Lib.hid (nil_made W3 N0 hzW)
      rw [hh1] at HX1
      have HB := Lib.hid (HB.out.alloc (Nat.le_trans hz0 hzW) (.cells #[] 3))
      have HLw := Lib.hid (show IsInts (W3.alloc (.cells #[] 3)) W.heap.size (.slice (some ⟨g, 0, none⟩) n cp) xs from World.ownsRow.alloc HLw.out _)
      have HXw := Lib.hid (show IsInts (W3.alloc (.cells #[] 3)) w4.heap.size sx xs from World.ownsRow.alloc HXw.out _)
      have hsz9 : (W3.alloc (.cells #[] 3)).heap.size = W3.heap.size + 1 := by simp
      obtain ⟨W4, hW4⟩ : ∃ W4, W3.alloc (.cells #[] 3) = W4 := ⟨_, rfl⟩
      rw [hW4] at HB hsz9 HLw HXw HX1 ⊢
      clear hW4 hA0
      rw [hh1] at hsz9 ⊢
      have hA0 : W4.cell? ⟨g, 0, none⟩ = some (.int .i64 z) := by rw [← hzz]; exact HLw.out.cell (i := 0) (by omega)
      have hzW : N0 ≤ W4.heap.size := by omega
      clear hh1 hsz9
      refine hK.out _ _ hA0 ?_
      clear hK K
      try simp only [Act.put, List.setIfInBounds_toArray, List.set_cons_zero, List.set_cons_succ]
      refine step2 3 7 (by kernel_rfl) rfl rfl (fun K hK => ?_) (fun K hK => ?_)
      · rw [if_pos (by rfl)]
        refine wp_append_tail (.tmp 61) (.tmp 63) rfl (.slice (some ⟨h1, 0, none⟩) 0 0) [] xs W4 N0 g (n - 1) (cp - 1) cp W.heap.size rfl rfl HX1.out (by rw [hxn]; exact HLw.out) (by omega) (by simp; omega) hzW (fun v2 W5 hX2 hkeep hbelow hgrows => ?_)
        have HX2 := Lib.hid hX2
        rw [List.nil_append] at HX2
        have HLw := Lib.hid (hkeep _ _ _ HLw.out (apart_gh (Nat.ne_of_lt (Nat.lt_of_lt_of_le hgN hNh1))))
        have HXw := Lib.hid (hkeep _ _ _ HXw.out (far_block (fun k hk => hXl k hk) hNh1))
        have HB := Lib.hid (hbelow _ _ hz0 HB.out)
        have hzW := Nat.le_trans hzW hgrows
        clear hX2 hkeep hbelow hgrows HX1 hA0
        have hA0 : W5.cell? ⟨g, 0, none⟩ = some (.int .i64 z) := by rw [← hzz]; exact HLw.out.cell (i := 0) (by omega)
        refine hK.out _ _ hA0 ?_
        clear hK K
        try simp only [Act.put, List.setIfInBounds_toArray, List.set_cons_zero, List.set_cons_succ]
        refine step1 7 (by kernel_rfl) rfl (fun K hK => ?_)
        go_simp
        obtain ⟨h6, hh6⟩ : ∃ h6, W5.heap.size = h6 := ⟨_, rfl⟩
        have hNh6 : N0 ≤ h6 := by omega
        have HXv := Lib.hid (lit_one W5 N0 z hzW)
        rw [hh6] at HXv
        have HB := Lib.hid (HB.out.alloc (Nat.le_trans hz0 hzW) (.cells #[.int .i64 z] 3))
        have HLw := Lib.hid (show IsInts (W5.alloc (.cells #[.int .i64 z] 3)) W.heap.size (.slice (some ⟨g, 0, none⟩) n cp) xs from World.ownsRow.alloc HLw.out _)
        have HXw := Lib.hid (show IsInts (W5.alloc (.cells #[.int .i64 z] 3)) w4.heap.size sx xs from World.ownsRow.alloc HXw.out _)
        have HX2 := Lib.hid (show IsInts (W5.alloc (.cells #[.int .i64 z] 3)) N0 v2 xs.tail from World.ownsRow.alloc HX2.out _)
        have hsz9 : (W5.alloc (.cells #[.int .i64 z] 3)).heap.size = W5.heap.size + 1 := by simp
        obtain ⟨W6, hW6⟩ : ∃ W6, W5.alloc (.cells #[.int .i64 z] 3) = W6 := ⟨_, rfl⟩
        rw [hW6] at HB hsz9 HLw HXw HX2 HXv ⊢
        clear hW6 hA0
        rw [hh6] at hsz9 ⊢
        have hA0 : W6.cell? ⟨g, 0, none⟩ = some (.int .i64 z) := by rw [← hzz]; exact HLw.out.cell (i := 0) (by omega)
        have hzW : N0 ≤ W6.heap.size := by omega
        clear hh6 hsz9
        refine hK.out _ _ hA0 ?_
        clear hK K
        try simp only [Act.put, List.setIfInBounds_toArray, List.set_cons_zero, List.set_cons_succ]
        refine step1 8 (by kernel_rfl) rfl (fun K hK => ?_)
        rw [if_pos (by rfl)]
        refine wp_append_any (.tmp 64) (.tmp 68) rfl v2 xs.tail [z] W6 N0 h6 1 N0 rfl rfl HX2.out HXv.out (by simp; omega) hzW (fun v3 W7 hX3 hkeep hbelow hgrows => ?_)
        have HX3 := Lib.hid hX3
        have HXw := Lib.hid (hkeep _ _ _ HXw.out (far_block2 (N := N0) (fun k hk => hXl k hk) (fun k hk => (World.ownsRow.lt HX2.out k hk).1)))
        have HLw := Lib.hid (hkeep _ _ _ HLw.out (far_block2 (N := N0) (far_g hgN) (fun k hk => (World.ownsRow.lt HX2.out k hk).1)))
        have HB := Lib.hid (hbelow _ _ hz0 HB.out)
        clear hX3 hkeep hbelow hgrows HX2 HXv hA0
        have hA0 : W7.cell? ⟨g, 0, none⟩ = some (.int .i64 z) := by rw [← hzz]; exact HLw.out.cell (i := 0) (by omega)
        refine hK.out _ _ hA0 ?_
        clear hK K
        try simp only [Act.put, List.setIfInBounds_toArray, List.set_cons_zero, List.set_cons_succ]
        refine take1 9 (v := ?_) rfl (by kernel_rfl) (by kernel_rfl) (by kernel_rfl) (fun _ _ _ h => h) (by rfl) ?_ hA0 ?_
        rotate_left
        · intro W9 hA
          have d0 := hA
          clear hA
          go_simp
          try with_reducible rfl
        try simp only [Act.put, List.setIfInBounds_toArray, List.set_cons_zero, List.set_cons_succ]
        refine stop1 (by kernel_rfl) ?_
        clear hA0
        go_wp2_with fail
        refine (HT.out _ _ _ HX3.out).mono ?_
        rintro e w9 ⟨sy, rfl, hb9, hI9⟩
        have HLw := Lib.hid (HLw.out.belowAll hb9)
        have HXw := Lib.hid (HXw.out.belowAll hb9)
        have HB := Lib.hid (HB.out.trans (hb9.mono HB.out.size))
        clear hb9 hI9
        go_wp2_with fail
        refine (sameInts_any _ _ xs _ _ _ HXw.out HLw.out).mono ?_
        rintro e w10 ⟨rfl, hb10⟩
        have HB := Lib.hid (HB.out.trans (hb10.mono HB.out.size))
        clear hb10
        go_wp2
        go_ret
        exact ⟨rfl, HB.out⟩
      · go_simp
        obtain ⟨h6, hh6⟩ : ∃ h6, W4.heap.size = h6 := ⟨_, rfl⟩
        have hNh6 : N0 ≤ h6 := by omega
        have HXv := Lib.hid (lit_one W4 N0 z hzW)
        rw [hh6] at HXv
        have hne16 : h1 ≠ h6 := by have := (World.ownsRow.lt HX1.out h1 rfl).2; omega
        have HB := Lib.hid (HB.out.alloc (Nat.le_trans hz0 hzW) (.cells #[.int .i64 z] 3))
        have HLw := Lib.hid (show IsInts (W4.alloc (.cells #[.int .i64 z] 3)) W.heap.size (.slice (some ⟨g, 0, none⟩) n cp) xs from World.ownsRow.alloc HLw.out _)
        have HXw := Lib.hid (show IsInts (W4.alloc (.cells #[.int .i64 z] 3)) w4.heap.size sx xs from World.ownsRow.alloc HXw.out _)
        have HX1 := Lib.hid (show IsInts (W4.alloc (.cells #[.int .i64 z] 3)) N0 (.slice (some ⟨h1, 0, none⟩) 0 0) [] from World.ownsRow.alloc HX1.out _)
        have hsz9 : (W4.alloc (.cells #[.int .i64 z] 3)).heap.size = W4.heap.size + 1 := by simp
        obtain ⟨W5, hW5⟩ : ∃ W5, W4.alloc (.cells #[.int .i64 z] 3) = W5 := ⟨_, rfl⟩
        rw [hW5] at HB hsz9 HLw HXw HX1 HXv ⊢
        clear hW5 hA0
        rw [hh6] at hsz9 ⊢
        have hA0 : W5.cell? ⟨g, 0, none⟩ = some (.int .i64 z) := by rw [← hzz]; exact HLw.out.cell (i := 0) (by omega)
        have hzW : N0 ≤ W5.heap.size := by omega
        clear hh6 hsz9
        refine hK.out _ _ hA0 ?_
        clear hK K
        try simp only [Act.put, List.setIfInBounds_toArray, List.set_cons_zero, List.set_cons_succ]
        refine step1 3 (by kernel_rfl) rfl (fun K hK => ?_)
        rw [if_pos (by rfl)]
        refine wp_append_tail (.tmp 61) (.tmp 63) rfl (.slice (some ⟨h1, 0, none⟩) 0 0) [] xs W5 N0 g (n - 1) (cp - 1) cp W.heap.size rfl rfl HX1.out (by rw [hxn]; exact HLw.out) (by omega) (by simp; omega) hzW (fun v2 W6 hX2 hkeep hbelow hgrows => ?_)
        have HX2 := Lib.hid hX2
        rw [List.nil_append] at HX2
        have HLw := Lib.hid (hkeep _ _ _ HLw.out (apart_gh (Nat.ne_of_lt (Nat.lt_of_lt_of_le hgN hNh1))))
        have HXw := Lib.hid (hkeep _ _ _ HXw.out (far_block (fun k hk => hXl k hk) hNh1))
        have HXv := Lib.hid (hkeep _ _ _ HXv.out (apart_gh (fun e => hne16 e.symm)))
        have HB := Lib.hid (hbelow _ _ hz0 HB.out)
        have hzW := Nat.le_trans hzW hgrows
        clear hX2 hkeep hbelow hgrows HX1 hA0
        have hA0 : W6.cell? ⟨g, 0, none⟩ = some (.int .i64 z) := by rw [← hzz]; exact HLw.out.cell (i := 0) (by omega)
        refine hK.out _ _ hA0 ?_
        clear hK K
        try simp only [Act.put, List.setIfInBounds_toArray, List.set_cons_zero, List.set_cons_succ]
        refine step1 8 (by kernel_rfl) rfl (fun K hK => ?_)
        rw [if_pos (by rfl)]
        refine wp_append_any (.tmp 64) (.tmp 68) rfl v2 xs.tail [z] W6 N0 h6 1 N0 rfl rfl HX2.out HXv.out (by simp; omega) hzW (fun v3 W7 hX3 hkeep hbelow hgrows => ?_)
        have HX3 := Lib.hid hX3
        have HXw := Lib.hid (hkeep _ _ _ HXw.out (far_block2 (N := N0) (fun k hk => hXl k hk) (fun k hk => (World.ownsRow.lt HX2.out k hk).1)))
        have HLw := Lib.hid (hkeep _ _ _ HLw.out (far_block2 (N := N0) (far_g hgN) (fun k hk => (World.ownsRow.lt HX2.out k hk).1)))
        have HB := Lib.hid (hbelow _ _ hz0 HB.out)
        clear hX3 hkeep hbelow hgrows HX2 HXv hA0
        have hA0 : W7.cell? ⟨g, 0, none⟩ = some (.int .i64 z) := by rw [← hzz]; exact HLw.out.cell (i := 0) (by omega)
        refine hK.out _ _ hA0 ?_
        clear hK K
        try simp only [Act.put, List.setIfInBounds_toArray, List.set_cons_zero, List.set_cons_succ]
        refine take1 9 (v := ?_) rfl (by kernel_rfl) (by kernel_rfl) (by kernel_rfl) (fun _ _ _ h => h) (by rfl) ?_ hA0 ?_
        rotate_left
        · intro W9 hA
          have d0 := hA
          clear hA
          go_simp
          try with_reducible rfl
        try simp only [Act.put, List.setIfInBounds_toArray, List.set_cons_zero, List.set_cons_succ]
        refine stop1 (by kernel_rfl) ?_
        clear hA0
        go_wp2_with fail
        refine (HT.out _ _ _ HX3.out).mono ?_
        rintro e w9 ⟨sy, rfl, hb9, hI9⟩
        have HLw := Lib.hid (HLw.out.belowAll hb9)
        have HXw := Lib.hid (HXw.out.belowAll hb9)
        have HB := Lib.hid (HB.out.trans (hb9.mono HB.out.size))
        clear hb9 hI9
        go_wp2_with fail
        refine (sameInts_any _ _ xs _ _ _ HXw.out HLw.out).mono ?_
        rintro e w10 ⟨rfl, hb10⟩
        have HB := Lib.hid (HB.out.trans (hb10.mono HB.out.size))
        clear hb10
        go_wp2
        go_ret
        exact ⟨rfl, HB.out⟩
    · go_simp
      obtain ⟨h6, hh6⟩ : ∃ h6, W3.heap.size = h6 := ⟨_, rfl⟩
      have hNh6 : N0 ≤ h6 := by omega
      have HXv := Lib.hid (lit_one W3 N0 z hzW)
      rw [hh6] at HXv
      have HB := Lib.hid (HB.out.alloc (Nat.le_trans hz0 hzW) (.cells #[.int .i64 z] 3))
      have HLw := Lib.hid (show IsInts (W3.alloc (.cells #[.int .i64 z] 3)) W.heap.size (.slice (some ⟨g, 0, none⟩) n cp) xs from World.ownsRow.alloc HLw.out _)
      have HXw := Lib.hid (show IsInts (W3.alloc (.cells #[.int .i64 z] 3)) w4.heap.size sx xs from World.ownsRow.alloc HXw.out _)
      have hsz9 : (W3.alloc (.cells #[.int .i64 z] 3)).heap.size = W3.heap.size + 1 := by simp
      obtain ⟨W4, hW4⟩ : ∃ W4, W3.alloc (.cells #[.int .i64 z] 3) = W4 := ⟨_, rfl⟩
      rw [hW4] at HB hsz9 HLw HXw HXv ⊢
      clear hW4 hA0
      rw [hh6] at hsz9 ⊢
      have hA0 : W4.cell? ⟨g, 0, none⟩ = some (.int .i64 z) := by rw [← hzz]; exact HLw.out.cell (i := 0) (by omega)
      have hzW : N0 ≤ W4.heap.size := by omega
      clear hh6 hsz9
      refine hK.out _ _ hA0 ?_
      clear hK K
      try simp only [Act.put, List.setIfInBounds_toArray, List.set_cons_zero, List.set_cons_succ]
      refine step1 0 (by kernel_rfl) rfl (fun K hK => ?_)
      go_simp
      obtain ⟨h1, hh1⟩ : ∃ h1, W4.heap.size = h1 := ⟨_, rfl⟩
      have hNh1 : N0 ≤ h1 := by omega
      have HX1 := Lib.hid (nil_made W4 N0 hzW)
      rw [hh1] at HX1
      have hne16 : h1 ≠ h6 := by have := (World.ownsRow.lt HXv.out h6 rfl).2; omega
      have HB := Lib.hid (HB.out.alloc (Nat.le_trans hz0 hzW) (.cells #[] 3))
      have HLw := Lib.hid (show IsInts (W4.alloc (.cells #[] 3)) W.heap.size (.slice (some ⟨g, 0, none⟩) n cp) xs from World.ownsRow.alloc HLw.out _)
      have HXw := Lib.hid (show IsInts (W4.alloc (.cells #[] 3)) w4.heap.size sx xs from World.ownsRow.alloc HXw.out _)
      have HXv := Lib.hid (show IsInts (W4.alloc (.cells #[] 3)) N0 (.slice (some ⟨h6, 0, none⟩) 1 1) [z] from World.ownsRow.alloc HXv.out _)
      have hsz9 : (W4.alloc (.cells #[] 3)).heap.size = W4.heap.size + 1 := by simp
      obtain ⟨W5, hW5⟩ : ∃ W5, W4.alloc (.cells #[] 3) = W5 := ⟨_, rfl⟩
      rw [hW5] at HB hsz9 HLw HXw HXv HX1 ⊢
      clear hW5 hA0
      rw [hh1] at hsz9 ⊢
      have hA0 : W5.cell? ⟨g, 0, none⟩ = some (.int .i64 z) := by rw [← hzz]; exact HLw.out.cell (i := 0) (by omega)
      have hzW : N0 ≤ W5.heap.size := by omega
      clear hh1 hsz9
      refine hK.out _ _ hA0 ?_
      clear hK K
      try simp only [Act.put, List.setIfInBounds_toArray, List.set_cons_zero, List.set_cons_succ]
      refine step1 3 (by kernel_rfl) rfl (fun K hK => ?_)
      rw [if_pos (by rfl)]
      refine wp_append_tail (.tmp 61) (.tmp 63) rfl (.slice (some ⟨h1, 0, none⟩) 0 0) [] xs W5 N0 g (n - 1) (cp - 1) cp W.heap.size rfl rfl HX1.out (by rw [hxn]; exact HLw.out) (by omega) (by simp; omega) hzW (fun v2 W6 hX2 hkeep hbelow hgrows => ?_)
      have HX2 := Lib.hid hX2
      rw [List.nil_append] at HX2
      have HLw := Lib.hid (hkeep _ _ _ HLw.out (apart_gh (Nat.ne_of_lt (Nat.lt_of_lt_of_le hgN hNh1))))
      have HXw := Lib.hid (hkeep _ _ _ HXw.out (far_block (fun k hk => hXl k hk) hNh1))
      have HXv := Lib.hid (hkeep _ _ _ HXv.out (apart_gh (fun e => hne16 e.symm)))
      have HB := Lib.hid (hbelow _ _ hz0 HB.out)
      have hzW := Nat.le_trans hzW hgrows
      clear hX2 hkeep hbelow hgrows HX1 hA0
      have hA0 : W6.cell? ⟨g, 0, none⟩ = some (.int .i64 z) := by rw [← hzz]; exact HLw.out.cell (i := 0) (by omega)
      refine hK.out _ _ hA0 ?_
      clear hK K
      try simp only [Act.put, List.setIfInBounds_toArray, List.set_cons_zero, List.set_cons_succ]
      refine step1 8 (by kernel_rfl) rfl (fun K hK => ?_)
      rw [if_pos (by rfl)]
      refine wp_append_any (.tmp 64) (.tmp 68) rfl v2 xs.tail [z] W6 N0 h6 1 N0 rfl rfl HX2.out HXv.out (by simp; omega) hzW (fun v3 W7 hX3 hkeep hbelow hgrows => ?_)
      have HX3 := Lib.hid hX3
      have HXw := Lib.hid (hkeep _ _ _ HXw.out (far_block2 (N := N0) (fun k hk => hXl k hk) (fun k hk => (World.ownsRow.lt HX2.out k hk).1)))
      have HLw := Lib.hid (hkeep _ _ _ HLw.out (far_block2 (N := N0) (far_g hgN) (fun k hk => (World.ownsRow.lt HX2.out k hk).1)))
      have HB := Lib.hid (hbelow _ _ hz0 HB.out)
      clear hX3 hkeep hbelow hgrows HX2 HXv hA0
      have hA0 : W7.cell? ⟨g, 0, none⟩ = some (.int .i64 z) := by rw [← hzz]; exact HLw.out.cell (i := 0) (by omega)
      refine hK.out _ _ hA0 ?_
      clear hK K
      try simp only [Act.put, List.setIfInBounds_toArray, List.set_cons_zero, List.set_cons_succ]
      refine take1 9 (v := ?_) rfl (by kernel_rfl) (by kernel_rfl) (by kernel_rfl) (fun _ _ _ h => h) (by rfl) ?_ hA0 ?_
      rotate_left
      · intro W9 hA
        have d0 := hA
        clear hA
        go_simp
        try with_reducible rfl
      try simp only [Act.put, List.setIfInBounds_toArray, List.set_cons_zero, List.set_cons_succ]
      refine stop1 (by kernel_rfl) ?_
      clear hA0
      go_wp2_with fail
      refine (HT.out _ _ _ HX3.out).mono ?_
      rintro e w9 ⟨sy, rfl, hb9, hI9⟩
      have HLw := Lib.hid (HLw.out.belowAll hb9)
      have HXw := Lib.hid (HXw.out.belowAll hb9)
      have HB := Lib.hid (HB.out.trans (hb9.mono HB.out.size))
      clear hb9 hI9
      go_wp2_with fail
      refine (sameInts_any _ _ xs _ _ _ HXw.out HLw.out).mono ?_
      rintro e w10 ⟨rfl, hb10⟩
      have HB := Lib.hid (HB.out.trans (hb10.mono HB.out.size))
      clear hb10
      go_wp2
      go_ret
      exact ⟨rfl, HB.out⟩
end Go.Proofs.Ytfgolkbafnfblaa
