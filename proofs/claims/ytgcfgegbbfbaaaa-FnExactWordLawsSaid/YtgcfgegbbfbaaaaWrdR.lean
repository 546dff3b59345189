/- Words: the model's WordLaws. -/
import Derived.Test.YtgcfgegbbfbaaaaGX
namespace Go.Proofs.Ytgcfgegbbfbaaaa
open Go.RowKit Go.Shelf
set_option linter.unusedVariables false
theorem take0w {P : Program} {md : Region.Mode} {Q : Exit → Act → World → Prop} {S : World → Prop} {L : List Oper} (i : Nat) {oi : Oper} {fuel : Nat} {listed : Array Bool} {a : Act} {w : World} (hi : L[i]? = some oi)
    (hs : Region.noSelect L.toArray = true) (hf : Region.free md L.toArray listed i = true) (hr : (Region.ready md L.toArray listed).contains i = true)
    (hQ : ∀ c a w, Q (.panic c) (a.put oi.dst undef) w → Q (.panic c) a w) (hw : Region.wanted oi (yielded L.toArray a.tmps) = false) (hS : S w)
    (h : wpAnyH P md L.toArray Q S fuel (listed.setIfInBounds i true) (a.put oi.dst undef) w) : wpAnyH P md L.toArray Q S (fuel + 1) listed a w :=
  wpAnyH_take (by simpa using hi) hs hf hr hQ (.inr ⟨by simpa using hw, rfl⟩) hS h
/-- A list of texts of one's own, and whether it succeeded. -/
def StrsRes (w : World) (ss : List ByteArray) (b : Bool) (e : Ending) (w' : World) : Prop :=
  ∃ sv, e = .returned (.tuple #[sv, .bool b]) ∧ Below w.heap.size w w' ∧ IsStrs w' w.heap.size sv ss
theorem specWordLaws_no (n : Int) (lv : Value) (xs : List Int) (k : Int) (b : Nat) (w : World) (hl : xs.length ≤ 2000000) (hI : IsInts w b lv xs) (h : ¬ (LetIn n xs ∧ 1 ≤ k ∧ k ≤ 6)) :
    Calls Try.prog 19 #[.int .i64 n, lv, .int .i64 k] w (StrsRes w [] false) := by
  have HB := Lib.hid ((Below.refl w.heap.size w).alloc (Nat.le_refl _) (.cells #[] 9))
  have HO := Lib.hid (nil_strs w w.heap.size (Nat.le_refl _))
  obtain ⟨lad, lcap, rfl⟩ := ints_slice hI
  by_cases hL : LetIn n xs
  · have HG := Lib.hid (l10Given_any n _ xs b _ true ⟨fun _ => hL, fun _ => rfl⟩ hl (hI.belowAll HB.out))
    have hk : ¬ (1 ≤ k ∧ k ≤ 6) := fun e => h ⟨hL, e⟩
    have HV := Lib.hid (fun W => by have := l6In_any k 1 6 W; rwa [decide_eq_false hk] at this)
    clear hI hL h hk
    generalize xs.length = K at *
    go_enter Try.func19, Try.ntmps19
    go_wp2_with fail
    refine HG.out.mono ?_
    rintro e w1 ⟨rfl, rfl⟩
    go_wp2_with fail
    refine (HV.out _).mono ?_
    rintro e w1 ⟨rfl, rfl⟩
    go_wp2
    go_ret2
    exact ⟨_, rfl, HB.out, HO.out⟩
  · have HG := Lib.hid (l10Given_any n _ xs b _ false ⟨fun h => (by cases h), fun h => absurd h hL⟩ hl (hI.belowAll HB.out))
    clear hI hL h
    generalize xs.length = K at *
    go_enter Try.func19, Try.ntmps19
    go_wp2_with fail
    refine HG.out.mono ?_
    rintro e w1 ⟨rfl, rfl⟩
    go_wp2
    go_ret2
    exact ⟨_, rfl, HB.out, HO.out⟩
set_option maxRecDepth 100000 in
set_option maxHeartbeats 8000000 in
theorem specWordLaws_yes (n k : Nat) (lv : Value) (xs : List Int) (b : Nat) (w : World) (hI : IsInts w b lv xs) (hL : LetIn (n : Int) xs) (hk1 : 1 ≤ k) (hk6 : k ≤ 6) :
    Calls Try.prog 19 #[.int .i64 (n:Int), lv, .int .i64 (k:Int)] w (StrsRes w ((lawsN n (letL xs) k).map fun cs => toB (textC 0 cs)) true) := by
  obtain ⟨lad, lcap, rfl⟩ := ints_slice hI
  have HB0 := Lib.hid ((Below.refl w.heap.size w).alloc (Nat.le_refl _) (.cells #[] 9))
  have HO := Lib.hid (nil_strs w w.heap.size (Nat.le_refl _))
  have HI := Lib.hid (hI.belowAll HB0.out)
  have h3 := hL.2.2.1
  have HG := Lib.hid (l10Given_any (n : Int) _ xs b _ true ⟨fun _ => hL, fun _ => rfl⟩ (by omega) HI.out)
  have HV := Lib.hid (fun W => by have := l6In_any (k : Int) 1 6 W; rwa [decide_eq_true (by omega)] at this)
  obtain ⟨W0, hW0⟩ : ∃ W0, w.alloc (.cells #[] 9) = W0 := ⟨_, rfl⟩
  have hz0 : w.heap.size < W0.heap.size := by rw [← hW0]; simp
  rw [hW0] at HB0 HO HI HG
  have HAll := Lib.hid (fun K W (hK : K ≤ 12) => l10All_any xs.length h3 K W hK)
  have HEnd := Lib.hid (fun K t cv c W (hK : K ≤ 12) (ht : t < (allC xs.length K).length) (hLv : IsInts W b (.slice lad xs.length lcap) xs) (hJ : IsInts W c cv ((allC xs.length K).getD t [])) =>
    l10End_any n (.slice lad xs.length lcap) cv xs ((allC xs.length K).getD t []) b c W hL (all_row _ _ _ ht) (fun k => by have := abs_get ((allC xs.length K).getD t []) k; rw [all_rowabs _ _ _ ht] at this; omega) hLv hJ)
  have HFew := Lib.hid (fun K (hK : K ≤ 12) => all_few xs.length h3 K hK)
  have HRowL := Lib.hid (fun K t ht => all_row xs.length K t ht)
  have HF := Lib.hid (fun L i (hL6 : L ≤ 6) => fold_facts n (letL xs) xs.length L i h3 hL6)
  have HNx := Lib.hid (fun L i hi => fold_next n (letL xs) xs.length L i hi)
  have HFu := Lib.hid (fun L => fold_full n (letL xs) xs.length L)
  have HLM : Hid (∀ cs, cs ∈ lawsN n (letL xs) k → cs.length = xs.length ∧ absL cs ≤ 60) := Lib.hid (fun cs h => by have := (laws_mem n (letL xs) k cs).1 h; rw [letL_len] at this; exact ⟨this.1, by omega⟩)
  have H00 : Hid (foldC n (letL xs) xs.length 0 0 = []) := Lib.hid rfl
  have HSo : Hid (sortS (foldC n (letL xs) xs.length k 0) = lawsN n (letL xs) k) := Lib.hid (by
    rw [← laws_sort n (letL xs) k]
    unfold foldC
    rw [List.take_zero, List.append_nil, letL_len])
  clear hI hL
  generalize lawsN n (letL xs) k = LN at *
  generalize letL xs = ls at *
  obtain ⟨mm, hmm⟩ : ∃ mm, xs.length = mm := ⟨_, rfl⟩
  rw [hmm] at HI HG HAll HEnd HFew HRowL HF HNx HFu H00 HSo HLM h3 ⊢
  clear hmm
  go_enter Try.func19, Try.ntmps19
  go_wp2_with fail
  refine HG.out.mono ?_
  rintro e w1 ⟨rfl, rfl⟩
  go_wp2_with fail
  refine (HV.out _).mono ?_
  rintro e w1 ⟨rfl, rfl⟩
  have hmx : Try.prog.follows .mixedOrders = true := by kernel_rfl
  have HL0 : Hid (Cts (W0.alloc (.cells #[] 22)) W0.heap.size (.slice (some ⟨W0.heap.size, 0, none⟩) 0 0) [] []) := Lib.hid ⟨World.ownsRow_made W0 #[] 0 (Nat.le_refl _) (by simp [maxLen]) rfl, fun i hi => absurd hi (Nat.not_lt_zero _)⟩
  have HB1 := Lib.hid ((Below.refl W0.heap.size W0).alloc (Nat.le_refl _) (.cells #[] 22))
  go_wp2
  go_loopw [9, 10] (fun a u wr => ∃ (A : Value) (vs : List Value) (L : Nat), A = a ∧ L ≤ k ∧ u = .int .i64 ((L + 1 : Nat) : Int) ∧ Hid (Cts wr W0.heap.size A vs (foldC n ls mm L 0)) ∧ Hid (Below W0.heap.size W0 wr)) (fun _ u _ => k + 1 - (intOf u).toNat)
  case atStart => exact ⟨_, [], 0, rfl, Nat.zero_le _, rfl, Lib.hid (by rw [H00.out]; exact HL0.out), HB1⟩
  case round =>
    obtain ⟨A, vs, L, rfl, hLk, rfl, HC, HB⟩ := hrel
    clear HL0 HB1
    by_cases hlt : L < k
    · have hL1 : L + 1 ≤ 12 := by omega
      have hL6 : L ≤ 6 := by omega
      have HCall := Lib.hid (fun W => HAll.out (L + 1) W hL1)
      have HEn := Lib.hid (fun t cv c W ht h1 h2 => HEnd.out (L + 1) t cv c W hL1 ht h1 h2)
      have HFe := Lib.hid (HFew.out (L + 1) hL1)
      have HRo := Lib.hid (HRowL.out (L + 1))
      have HFi := Lib.hid (fun i => HF.out L i hL6)
      have HNi := Lib.hid (HNx.out L)
      have HFl := Lib.hid (HFu.out L)
      have HAb := Lib.hid (fun g hg => (World.ownsRow.lt HC.out.own g hg).2)
      generalize allC mm (L + 1) = crs at *
      obtain ⟨fo, hfo⟩ : ∃ fo : Nat → List (List Int), fo = foldC n ls mm L := ⟨_, rfl⟩
      rw [← hfo] at HFi HNi HFl HC
      clear hfo
      obtain ⟨L1, hLL⟩ : ∃ L1 : Nat, L + 1 = L1 := ⟨_, rfl⟩
      rw [hLL] at HCall HFl ⊢
      have hL1k : L1 ≤ k := by omega
      have HLL := Lib.hid hLL
      clear hLL hL1
      go_wp2_with fail
      refine (HCall.out wr).mono ?_
      rintro e w1 ⟨R, vr, rfl, hb1, hR1⟩
      have hne1 : R.ownBlock = none ∨ R.ownBlock ≠ A.ownBlock := by
        cases hr : R.ownBlock with
        | none => exact .inl rfl
        | some g =>
          refine .inr fun e => ?_
          have q1 := HAb.out g e.symm
          have q2 := (World.ownsRow.lt hR1.own g hr).1
          omega
      have HNe1 := Lib.hid hne1
      have HR1 := Lib.hid (hR1.base HB.out.size)
      have HB1 := Lib.hid (HB.out.trans (hb1.mono HB.out.size))
      have HC1 := Lib.hid (HC.out.below hb1)
      obtain ⟨ad, cap, rfl⟩ : ∃ ad cap, R = .slice ad crs.length cap := by
        rcases hR1.shape with ⟨rfl, rfl⟩ | ⟨g, cap, rfl, _⟩
        · exact ⟨none, 0, rfl⟩
        · exact ⟨_, cap, rfl⟩
      clear hne1 hR1 hb1 HAb HB HC
      go_wp2
      go_loopw [9, 12] (fun a u wr => ∃ (A : Value) (vs : List Value) (i : Nat), A = a ∧ i ≤ crs.length ∧ u = .int .i64 (i : Int) ∧ Hid (Cts wr W0.heap.size A vs (fo i)) ∧ Hid (Cts wr W0.heap.size (.slice ad crs.length cap) vr crs) ∧ Hid ((Value.slice ad crs.length cap).ownBlock = none ∨ (Value.slice ad crs.length cap).ownBlock ≠ A.ownBlock) ∧ Hid (Below W0.heap.size W0 wr)) (fun _ u _ => crs.length - (intOf u).toNat)
      case atStart => exact ⟨_, vs, 0, rfl, Nat.zero_le _, rfl, HC1, HR1, HNe1, HB1⟩
      case round =>
        clear HC1 HR1 HNe1 HB1
        obtain ⟨A, vs, i, rfl, hi, rfl, HC, HR, HNe, HB⟩ := hrel
        have hc1000 := HFe.out
        by_cases hlt2 : i < crs.length
        · obtain ⟨g, rfl⟩ : ∃ g, ad = some ⟨g, 0, none⟩ := by
            rcases HR.out.shape with ⟨e, e2⟩ | ⟨g, cap2, e, _⟩
            · rw [e2] at hlt2; exact absurd hlt2 (Nat.not_lt_zero _)
            · injection e with e1; exact ⟨g, e1⟩
          obtain ⟨g', c', hc1, hI1⟩ := HR.out.cell hlt2
          have hgl := (World.ownsRow.lt HR.out.own g rfl).2
          have HEc := Lib.hid (HEn.out i _ _ wr hlt2 ((HI.out.belowAll HB.out)) hI1)
          have hrl := HRo.out i hlt2
          have HNn := Lib.hid (HNi.out i hlt2)
          obtain ⟨hf7, hfm⟩ := HFi.out i
          have HFm := Lib.hid hfm
          have HZe := Lib.hid (testA_end n ls (crs.getD i []))
          have HSt := Lib.hid (testB_end n ls (fo i) (crs.getD i []))
          have HCc := Lib.hid (fun W (hb : Below wr.heap.size wr W) => (hb.cell (p := ⟨g, i, none⟩) hgl).trans hc1)
          have HIc := Lib.hid (fun W (hb : Below wr.heap.size wr W) => hI1.belowAll hb)
          have i1 : (0 : Int) ≤ (i : Int) := by omega
          have i2 : (i : Int) < (crs.length : Int) := by omega
          clear hI1 hfm
          obtain ⟨lw, hlw⟩ : ∃ lw, fo i = lw := ⟨_, rfl⟩
          rw [hlw] at HNn hf7 HFm HSt HC
          clear hlw
          generalize crs.getD i [] = cr at *
          obtain ⟨E, hE⟩ : ∃ E, endW n ls cr = E := ⟨_, rfl⟩
          rw [hE] at HEc HZe
          clear hE
          obtain ⟨Z, hZ⟩ : ∃ Z, zeroC n ls cr = Z := ⟨_, rfl⟩
          rw [hZ] at HZe HSt
          clear hZ
          rw [hrl] at HZe hc1 HCc HIc HEc
          have HRl := Lib.hid hrl
          clear hrl
          obtain ⟨p0, hp0⟩ : ∃ p0, (E == 0) = p0 := ⟨_, rfl⟩
          have e1 : ((E : Int) == 0) = p0 := by
            rw [← hp0]
            by_cases h : E = 0
            · simp [h]
            · rw [beq_eq_false_iff_ne.2 h, beq_eq_false_iff_ne.2 (show ¬ (E : Int) = 0 by omega)]
          rw [hp0] at HZe
          clear hp0
          obtain ⟨z0, hz0e⟩ : ∃ z0 : Int, (E : Int) = z0 := ⟨_, rfl⟩
          rw [hz0e] at HEc e1
          clear hz0e
          have e2 : decide (z0 = 0) = p0 := by
            rw [← e1]
            by_cases h : z0 = 0
            · simp [h]
            · rw [beq_eq_false_iff_ne.2 h]
              exact decide_eq_false h
          have HE1 := Lib.hid e1
          have HE2 := Lib.hid e2
          clear e1 e2
          obtain ⟨aa, ac, hA⟩ : ∃ aa ac, A = .slice aa lw.length ac := by
            rcases HC.out.shape with ⟨rfl, rfl⟩ | ⟨g, cap, rfl, _⟩
            · exact ⟨none, 0, rfl⟩
            · exact ⟨_, cap, rfl⟩
          subst hA
          go_wp2_with fail
          refine HEc.out.mono ?_
          rintro e w2 ⟨rfl, hb2⟩
          have HC2 := Lib.hid (HC.out.below hb2)
          have HR2 := Lib.hid (HR.out.below hb2)
          have HB2 := Lib.hid (HB.out.trans (hb2.mono HB.out.size))
          have c2 := HCc.out w2 hb2
          have HI2 := Lib.hid (HIc.out w2 hb2)
          clear hb2 HC HR HB hc1 HCc HIc HEc
          go_wp2
          go_loop [13, 14] (fun o u => ∃ j : Nat, j ≤ mm ∧ o = .bool (testA p0 cr j) ∧ u = .int .i64 (j : Int)) (fun _ u => mm - (intOf u).toNat)
          case atStart => exact ⟨0, Nat.zero_le _, by rw [testA_zero]; first | rw [HE1.out] | rw [HE2.out], rfl⟩
          case round =>
            obtain ⟨j, hj, rfl, rfl⟩ := hrel
            by_cases hjl : j < mm
            · have cj := HI2.out.cell (i := j) (by rw [HRl.out]; exact hjl)
              have HTs := Lib.hid (testA_succ p0 cr j)
              have j1 : (0 : Int) ≤ (j : Int) := by omega
              have j2 : (j : Int) < (mm : Int) := by omega
              generalize cr.getD j 0 = z at *
              cases ht : testA p0 cr j
              · rw [ht, Bool.false_and] at HTs
                clear ht
                go_wp2
                go_round
                case rel => exact ⟨j + 1, by omega, by rw [HTs.out], by go_num⟩
                case measure => simp [intOf]; omega
              · rw [ht, Bool.true_and] at HTs
                clear ht
                by_cases hz : 0 ≤ z
                · rw [decide_eq_true hz] at HTs
                  have d1 : decide (0 ≤ z) = true := decide_eq_true hz
                  go_wp2
                  go_round
                  case rel => exact ⟨j + 1, by omega, by rw [HTs.out], by go_num⟩
                  case measure => simp [intOf]; omega
                · rw [decide_eq_false hz] at HTs
                  have d1 : decide (0 ≤ z) = false := decide_eq_false hz
                  go_wp2
                  go_round
                  case rel => exact ⟨j + 1, by omega, by rw [HTs.out], by go_num⟩
                  case measure => simp [intOf]; omega
            · obtain rfl : mm = j := by omega
              rw [HZe.out]
              clear hjl hj HZe HE1 HE2
              go_wp2
              go_loopw [13, 15] (fun o u wr => ∃ j : Nat, j ≤ lw.length ∧ o = .bool (testB Z lw cr j) ∧ u = .int .i64 (j : Int) ∧ Hid (Below w2.heap.size w2 wr)) (fun _ u _ => lw.length - (intOf u).toNat)
              case atStart => exact ⟨0, Nat.zero_le _, by rw [testB_zero], rfl, Lib.hid (Below.refl _ _)⟩
              case round =>
                obtain ⟨j, hj, rfl, rfl, HB4⟩ := hrel
                have c4 := (HB4.out.cell (p := ⟨g, i, none⟩) (World.ownsRow.lt HR2.out.own g rfl).2).trans c2
                by_cases hjl : j < lw.length
                · obtain ⟨g5, rfl⟩ : ∃ g, aa = some ⟨g, 0, none⟩ := by
                    rcases HC2.out.shape with ⟨e, e2⟩ | ⟨g, cap2, e, _⟩
                    · rw [e2] at hjl; exact absurd hjl (Nat.not_lt_zero _)
                    · injection e with e1; exact ⟨g, e1⟩
                  have HCw := Lib.hid (HC2.out.below HB4.out)
                  obtain ⟨g6, c6, hc6, hI6⟩ := HCw.out.cell hjl
                  have hln := (HFm.out (lw.getD j []) ((mem_getD lw _).2 ⟨j, hjl, rfl⟩)).1
                  have HPa := Lib.hid (l10Part_any _ _ (lw.getD j []) cr _ _ wr.drew (by rw [hln]; exact h3) (by rw [hln]; exact HRl.out) hI6 (HI2.out.belowAll HB4.out.drew) : Calls Try.prog 40 #[.slice (some ⟨g6, 0, none⟩) (lw.getD j []).length c6, .slice (some ⟨g', 0, none⟩) mm c'] wr.drew fun e w' => e = .returned (.bool (partC (lw.getD j []) cr)) ∧ Below wr.drew.heap.size wr.drew w')
                  have HTs := Lib.hid (testB_succ Z lw cr j)
                  have j1 : (0 : Int) ≤ (j : Int) := by omega
                  have j2 : (j : Int) < (lw.length : Int) := by omega
                  rw [hln] at hc6 HPa
                  have hA0 : wr.drew.cell? ⟨g5, j, none⟩ = some (.slice (some ⟨g6, 0, none⟩) mm c6) ∧ wr.drew.cell? ⟨g, i, none⟩ = some (.slice (some ⟨g', 0, none⟩) mm c') := ⟨hc6, c4⟩
                  have hg5 := (World.ownsRow.lt HCw.out.own g5 rfl).2
                  have hg4 := Nat.lt_of_lt_of_le (World.ownsRow.lt HR2.out.own g rfl).2 HB4.out.size
                  have HKp := Lib.hid (fun W (hb : Below wr.drew.heap.size wr.drew W) => (⟨(hb.cell (p := ⟨g5, j, none⟩) hg5).trans hA0.1, (hb.cell (p := ⟨g, i, none⟩) hg4).trans hA0.2⟩ : W.cell? ⟨g5, j, none⟩ = some (.slice (some ⟨g6, 0, none⟩) mm c6) ∧ W.cell? ⟨g, i, none⟩ = some (.slice (some ⟨g', 0, none⟩) mm c')))
                  clear hI6 hln HCw hg5 hg4
                  generalize partC (lw.getD j []) cr = q at *
                  cases ht : testB Z lw cr j
                  · rw [ht, Bool.false_and] at HTs
                    clear ht HPa
                    go_wp2
                    refine wp_region_held_drew (S := fun V => V.cell? ⟨g5, j, none⟩ = some (.slice (some ⟨g6, 0, none⟩) mm c6) ∧ V.cell? ⟨g, i, none⟩ = some (.slice (some ⟨g', 0, none⟩) mm c')) hmx hA0 (fun _ => ?_)
                    refine take1 0 (v := ?_) rfl (by kernel_rfl) (by kernel_rfl) (by kernel_rfl) (fun _ _ _ h => h) (by rfl) ?_ hA0 ?_
                    rotate_left
                    · intro W9 hA
                      obtain ⟨c8, c9⟩ := hA
                      go_simp
                      try with_reducible rfl
                    try simp only [Act.put, List.setIfInBounds_toArray, List.set_cons_zero, List.set_cons_succ]
                    refine take1 1 (v := ?_) rfl (by kernel_rfl) (by kernel_rfl) (by kernel_rfl) (fun _ _ _ h => h) (by rfl) ?_ hA0 ?_
                    rotate_left
                    · intro W9 hA
                      obtain ⟨c8, c9⟩ := hA
                      go_simp
                      try with_reducible rfl
                    try simp only [Act.put, List.setIfInBounds_toArray, List.set_cons_zero, List.set_cons_succ]
                    refine take0w 2 rfl (by kernel_rfl) (by kernel_rfl) (by kernel_rfl) (fun _ _ _ h => h) (by rfl) hA0 ?_
                    try simp only [Act.put, List.setIfInBounds_toArray, List.set_cons_zero, List.set_cons_succ]
                    refine take0w 3 rfl (by kernel_rfl) (by kernel_rfl) (by kernel_rfl) (fun _ _ _ h => h) (by rfl) hA0 ?_
                    try simp only [Act.put, List.setIfInBounds_toArray, List.set_cons_zero, List.set_cons_succ]
                    refine take0w 4 rfl (by kernel_rfl) (by kernel_rfl) (by kernel_rfl) (fun _ _ _ h => h) (by rfl) hA0 ?_
                    try simp only [Act.put, List.setIfInBounds_toArray, List.set_cons_zero, List.set_cons_succ]
                    refine take0w 5 rfl (by kernel_rfl) (by kernel_rfl) (by kernel_rfl) (fun _ _ _ h => h) (by rfl) hA0 ?_
                    try simp only [Act.put, List.setIfInBounds_toArray, List.set_cons_zero, List.set_cons_succ]
                    refine take0w 6 rfl (by kernel_rfl) (by kernel_rfl) (by kernel_rfl) (fun _ _ _ h => h) (by rfl) hA0 ?_
                    try simp only [Act.put, List.setIfInBounds_toArray, List.set_cons_zero, List.set_cons_succ]
                    refine take0w 7 rfl (by kernel_rfl) (by kernel_rfl) (by kernel_rfl) (fun _ _ _ h => h) (by rfl) hA0 ?_
                    try simp only [Act.put, List.setIfInBounds_toArray, List.set_cons_zero, List.set_cons_succ]
                    refine take0w 8 rfl (by kernel_rfl) (by kernel_rfl) (by kernel_rfl) (fun _ _ _ h => h) (by rfl) hA0 ?_
                    try simp only [Act.put, List.setIfInBounds_toArray, List.set_cons_zero, List.set_cons_succ]
                    refine take0w 9 rfl (by kernel_rfl) (by kernel_rfl) (by kernel_rfl) (fun _ _ _ h => h) (by rfl) hA0 ?_
                    try simp only [Act.put, List.setIfInBounds_toArray, List.set_cons_zero, List.set_cons_succ]
                    refine take0w 10 rfl (by kernel_rfl) (by kernel_rfl) (by kernel_rfl) (fun _ _ _ h => h) (by rfl) hA0 ?_
                    try simp only [Act.put, List.setIfInBounds_toArray, List.set_cons_zero, List.set_cons_succ]
                    refine take0w 11 rfl (by kernel_rfl) (by kernel_rfl) (by kernel_rfl) (fun _ _ _ h => h) (by rfl) hA0 ?_
                    try simp only [Act.put, List.setIfInBounds_toArray, List.set_cons_zero, List.set_cons_succ]
                    refine take1 12 (v := ?_) rfl (by kernel_rfl) (by kernel_rfl) (by kernel_rfl) (fun _ _ _ h => h) (by rfl) ?_ hA0 ?_
                    rotate_left
                    · intro W9 hA
                      obtain ⟨c8, c9⟩ := hA
                      go_simp
                      try with_reducible rfl
                    try simp only [Act.put, List.setIfInBounds_toArray, List.set_cons_zero, List.set_cons_succ]
                    refine take1 13 (v := ?_) rfl (by kernel_rfl) (by kernel_rfl) (by kernel_rfl) (fun _ _ _ h => h) (by rfl) ?_ hA0 ?_
                    rotate_left
                    · intro W9 hA
                      obtain ⟨c8, c9⟩ := hA
                      go_simp
                      try with_reducible rfl
                    try simp only [Act.put, List.setIfInBounds_toArray, List.set_cons_zero, List.set_cons_succ]
                    refine stop1 (by kernel_rfl) ?_
                    go_wp2
                    go_roundw
                    case rel => exact ⟨j + 1, by omega, by rw [HTs.out], by go_num, Lib.hid HB4.out.drew⟩
                    case measure => simp [intOf]; omega
                  · rw [ht, Bool.true_and] at HTs
                    clear ht
                    go_wp2
                    refine wp_region_held_drew (S := fun V => V.cell? ⟨g5, j, none⟩ = some (.slice (some ⟨g6, 0, none⟩) mm c6) ∧ V.cell? ⟨g, i, none⟩ = some (.slice (some ⟨g', 0, none⟩) mm c')) hmx hA0 (fun _ => ?_)
                    refine take1 0 (v := ?_) rfl (by kernel_rfl) (by kernel_rfl) (by kernel_rfl) (fun _ _ _ h => h) (by rfl) ?_ hA0 ?_
                    rotate_left
                    · intro W9 hA
                      obtain ⟨c8, c9⟩ := hA
                      go_simp
                      try with_reducible rfl
                    try simp only [Act.put, List.setIfInBounds_toArray, List.set_cons_zero, List.set_cons_succ]
                    refine take1 1 (v := ?_) rfl (by kernel_rfl) (by kernel_rfl) (by kernel_rfl) (fun _ _ _ h => h) (by rfl) ?_ hA0 ?_
                    rotate_left
                    · intro W9 hA
                      obtain ⟨c8, c9⟩ := hA
                      go_simp
                      try with_reducible rfl
                    try simp only [Act.put, List.setIfInBounds_toArray, List.set_cons_zero, List.set_cons_succ]
                    refine take1 2 (v := ?_) rfl (by kernel_rfl) (by kernel_rfl) (by kernel_rfl) (fun _ _ _ h => h) (by rfl) ?_ hA0 ?_
                    rotate_left
                    · intro W9 hA
                      obtain ⟨c8, c9⟩ := hA
                      go_simp
                      try with_reducible rfl
                    try simp only [Act.put, List.setIfInBounds_toArray, List.set_cons_zero, List.set_cons_succ]
                    refine take1 3 (v := ?_) rfl (by kernel_rfl) (by kernel_rfl) (by kernel_rfl) (fun _ _ _ h => h) (by rfl) ?_ hA0 ?_
                    rotate_left
                    · intro W9 hA
                      obtain ⟨c8, c9⟩ := hA
                      go_simp
                      try with_reducible rfl
                    try simp only [Act.put, List.setIfInBounds_toArray, List.set_cons_zero, List.set_cons_succ]
                    refine take1 4 (v := ?_) rfl (by kernel_rfl) (by kernel_rfl) (by kernel_rfl) (fun _ _ _ h => h) (by rfl) ?_ hA0 ?_
                    rotate_left
                    · intro W9 hA
                      obtain ⟨c8, c9⟩ := hA
                      go_simp
                      try with_reducible rfl
                    try simp only [Act.put, List.setIfInBounds_toArray, List.set_cons_zero, List.set_cons_succ]
                    refine take1 5 (v := ?_) rfl (by kernel_rfl) (by kernel_rfl) (by kernel_rfl) (fun _ _ _ h => h) (by rfl) ?_ hA0 ?_
                    rotate_left
                    · intro W9 hA
                      obtain ⟨c8, c9⟩ := hA
                      go_simp
                      try with_reducible rfl
                    try simp only [Act.put, List.setIfInBounds_toArray, List.set_cons_zero, List.set_cons_succ]
                    refine take1 6 (v := ?_) rfl (by kernel_rfl) (by kernel_rfl) (by kernel_rfl) (fun _ _ _ h => h) (by rfl) ?_ hA0 ?_
                    rotate_left
                    · intro W9 hA
                      obtain ⟨c8, c9⟩ := hA
                      go_simp
                      try with_reducible rfl
                    try simp only [Act.put, List.setIfInBounds_toArray, List.set_cons_zero, List.set_cons_succ]
                    refine take1 7 (v := ?_) rfl (by kernel_rfl) (by kernel_rfl) (by kernel_rfl) (fun _ _ _ h => h) (by rfl) ?_ hA0 ?_
                    rotate_left
                    · intro W9 hA
                      obtain ⟨c8, c9⟩ := hA
                      go_simp
                      try with_reducible rfl
                    try simp only [Act.put, List.setIfInBounds_toArray, List.set_cons_zero, List.set_cons_succ]
                    refine take1 8 (v := ?_) rfl (by kernel_rfl) (by kernel_rfl) (by kernel_rfl) (fun _ _ _ h => h) (by rfl) ?_ hA0 ?_
                    rotate_left
                    · intro W9 hA
                      obtain ⟨c8, c9⟩ := hA
                      go_simp
                      try with_reducible rfl
                    try simp only [Act.put, List.setIfInBounds_toArray, List.set_cons_zero, List.set_cons_succ]
                    refine take1 9 (v := ?_) rfl (by kernel_rfl) (by kernel_rfl) (by kernel_rfl) (fun _ _ _ h => h) (by rfl) ?_ hA0 ?_
                    rotate_left
                    · intro W9 hA
                      obtain ⟨c8, c9⟩ := hA
                      go_simp
                      try with_reducible rfl
                    try simp only [Act.put, List.setIfInBounds_toArray, List.set_cons_zero, List.set_cons_succ]
                    refine step1 10 (by kernel_rfl) rfl (fun K hK => ?_)
                    go_simp
                    refine HPa.out.mono ?_
                    rintro e w5 ⟨rfl, hb5⟩
                    go_wp2_with fail
                    have hA5 := HKp.out w5 hb5
                    refine hK.out _ _ hA5 ?_
                    clear hK K
                    try simp only [Act.put, List.setIfInBounds_toArray, List.set_cons_zero, List.set_cons_succ]
                    refine take1 11 (v := ?_) rfl (by kernel_rfl) (by kernel_rfl) (by kernel_rfl) (fun _ _ _ h => h) (by rfl) ?_ hA5 ?_
                    rotate_left
                    · intro W9 hA
                      obtain ⟨c8, c9⟩ := hA
                      go_simp
                      try with_reducible rfl
                    try simp only [Act.put, List.setIfInBounds_toArray, List.set_cons_zero, List.set_cons_succ]
                    refine take1 12 (v := ?_) rfl (by kernel_rfl) (by kernel_rfl) (by kernel_rfl) (fun _ _ _ h => h) (by rfl) ?_ hA5 ?_
                    rotate_left
                    · intro W9 hA
                      obtain ⟨c8, c9⟩ := hA
                      go_simp
                      try with_reducible rfl
                    try simp only [Act.put, List.setIfInBounds_toArray, List.set_cons_zero, List.set_cons_succ]
                    refine take1 13 (v := ?_) rfl (by kernel_rfl) (by kernel_rfl) (by kernel_rfl) (fun _ _ _ h => h) (by rfl) ?_ hA5 ?_
                    rotate_left
                    · intro W9 hA
                      obtain ⟨c8, c9⟩ := hA
                      go_simp
                      try with_reducible rfl
                    try simp only [Act.put, List.setIfInBounds_toArray, List.set_cons_zero, List.set_cons_succ]
                    refine stop1 (by kernel_rfl) ?_
                    have HB5 := Lib.hid (HB4.out.drew.trans (hb5.mono HB4.out.size))
                    clear hb5 hA5
                    go_wp2
                    go_roundw
                    case rel => exact ⟨j + 1, by omega, by rw [HTs.out], by go_num, HB5⟩
                    case measure => simp [intOf]; omega
                · obtain rfl : j = lw.length := by omega
                  have HC4 := Lib.hid (HC2.out.below HB4.out)
                  have HR4 := Lib.hid (HR2.out.below HB4.out)
                  have HI4 := Lib.hid (HI2.out.belowAll HB4.out)
                  have HB6 := Lib.hid (HB2.out.trans (HB4.out.mono HB2.out.size))
                  cases ht : testB Z lw cr lw.length
                  · have HN4 := Lib.hid (HNn.out.trans (by rw [HSt.out, ht]; try rfl))
                    clear ht HNn HSt hjl hj
                    go_wp2
                    go_roundw
                    case rel => exact ⟨_, vs, i + 1, rfl, by omega, by go_num, by rw [HN4.out]; exact HC4, HR4, HNe, HB6⟩
                    case measure => simp [intOf]; omega
                  · have HN4 := Lib.hid (HNn.out.trans (by rw [HSt.out, ht]; try rfl : _ = lw ++ [cr]))
                    have HIx : Hid (IsInts wr W0.heap.size (.slice (some ⟨g', 0, none⟩) cr.length c') cr) := Lib.hid (by rw [HRl.out]; exact HI4.out)
                    have HLc : Hid (lw.length ≤ 100000) := Lib.hid (by omega)
                    have HSz := Lib.hid HB6.out.size
                    clear ht HNn HSt hjl hj
                    rw [← HRl.out] at c4
                    go_wp2_with (at_builtin; refine wpList_plain rfl (fun K hK => ?_); refine wp_append_row _ _ rfl (.slice aa lw.length ac) vs lw g' c' cr wr W0.heap.size rfl rfl HC4.out HIx.out HLc.out HSz.out (fun A3 vs3 W3 hC3 hor hkeep hb3 hlt3 => ?_); have HC3 := Lib.hid hC3; have HR3 := Lib.hid (hkeep _ _ _ _ HR4.out HNe.out); have HB3 := Lib.hid (hb3 _ _ (Nat.le_refl _) HB6.out); have HOr := Lib.hid hor; clear hC3 hkeep hb3 hor hlt3; refine hK _ _ ?_; clear hK)
                    have hne3 : (Value.slice (some ⟨g, 0, none⟩) crs.length cap).ownBlock = none ∨ (Value.slice (some ⟨g, 0, none⟩) crs.length cap).ownBlock ≠ A3.ownBlock := by
                      rcases HOr.out with e | e
                      · rw [e]; exact HNe.out
                      · rw [e]
                        refine .inr fun e2 => ?_
                        have q := (World.ownsRow.lt HR4.out.own g rfl).2
                        have e3 : g = wr.heap.size + 1 := by injection e2
                        omega
                    have HNe3 := Lib.hid hne3
                    clear hne3
                    go_roundw
                    case rel => exact ⟨_, vs3, i + 1, rfl, by omega, by go_num, by rw [HN4.out]; exact HC3, HR3, HNe3, HB3⟩
                    case measure => simp [intOf]; omega
        · obtain rfl : i = crs.length := by omega
          have HC5 : Hid (Cts wr W0.heap.size A vs (foldC n ls mm L1 0)) := Lib.hid (by rw [← HFl.out]; exact HC.out)
          clear hlt2 hi
          go_wp2
          go_roundw
          case rel => exact ⟨_, vs, L1, rfl, hL1k, by go_num, HC5, HB⟩
          case measure => simp [intOf]; omega
    · obtain rfl : k = L := by omega
      obtain ⟨hx7, hxm⟩ := HF.out k 0 hk6
      have HXm := Lib.hid hxm
      have HXs : Hid (outerS (foldC n ls mm k 0) (foldC n ls mm k 0).length = LN) := Lib.hid HSo.out
      clear hxm HAll HEnd HFew HRowL HF HNx HFu H00 HSo hlt hLk
      generalize foldC n ls mm k 0 = X at *
      obtain ⟨len, hlen⟩ : ∃ len, X.length = len := ⟨_, rfl⟩
      have HOl : Hid (∀ i, (outerS X i).length = len) := Lib.hid (fun i => (outer_len X i).trans hlen)
      have HIl : Hid (∀ i t, (innerS (outerS X i) i t).length = len) := Lib.hid (fun i t => (inner_len (outerS X i) i t).trans ((outer_len X i).trans hlen))
      have HOs : Hid (∀ i, outerS X (i + 1) = innerS (outerS X i) i (len - (i + 1))) := Lib.hid (fun i => by rw [← hlen]; rfl)
      have HIs : Hid (∀ i t, innerS (outerS X i) i (t + 1) = swapAt (innerS (outerS X i) i t) i (i + 1 + t)) := Lib.hid (fun i t => rfl)
      have HI0 : Hid (∀ i, innerS (outerS X i) i 0 = outerS X i) := Lib.hid (fun i => rfl)
      have HO0 : Hid (outerS X 0 = X) := Lib.hid rfl
      rw [hlen] at hx7 HXs
      obtain ⟨aa, ac, hA⟩ : ∃ aa ac, A = .slice aa len ac := by
        rcases HC.out.shape with ⟨rfl, e⟩ | ⟨g, cap, rfl, _⟩
        · rw [e] at hlen; exact ⟨none, 0, by rw [← hlen]; rfl⟩
        · exact ⟨_, cap, by rw [hlen]⟩
      subst hA
      have hK1 : (k : Int) < ((k + 1 : Nat) : Int) := by omega
      clear hlen
      generalize ((k + 1 : Nat) : Int) = K1 at *
      go_wp2
      go_loopw [16] (fun u wr => ∃ (vs : List Value) (i : Nat), i ≤ len ∧ u = .int .i64 (i : Int) ∧ Hid (Cts wr W0.heap.size (.slice aa len ac) vs (outerS X i)) ∧ Hid (∀ cs ∈ outerS X i, cs.length = mm) ∧ Hid (Below W0.heap.size W0 wr)) (fun u _ => len - (intOf u).toNat)
      case atStart => exact ⟨vs, 0, Nat.zero_le _, rfl, Lib.hid (by rw [HO0.out]; exact HC.out), Lib.hid (by rw [HO0.out]; exact fun cs h => (HXm.out cs h).1), HB⟩
      case round =>
        clear HC HB
        obtain ⟨vs, i, hi, rfl, HC, HM, HB⟩ := hrel
        by_cases hlt : i < len
        · obtain ⟨g, rfl⟩ : ∃ g, aa = some ⟨g, 0, none⟩ := by
            rcases HC.out.shape with ⟨e, e2⟩ | ⟨g, cap2, e, _⟩
            · have := HOl.out i; rw [e2] at this; simp at this; omega
            · injection e with e1; exact ⟨g, e1⟩
          have HOn := Lib.hid (HOs.out i)
          have HIn := Lib.hid (HIs.out i)
          have HIL := Lib.hid (HIl.out i)
          have HIZ := Lib.hid (HI0.out i)
          obtain ⟨Y, hY⟩ : ∃ Y : Nat → List (List Int), Y = innerS (outerS X i) i := ⟨_, rfl⟩
          rw [← hY] at HOn HIn HIL HIZ
          rw [← HIZ.out] at HC HM
          clear hY
          go_wp2
          go_loopw [17] (fun u wr => ∃ (vs : List Value) (t j : Nat), Hid (j = i + 1 + t) ∧ j ≤ len ∧ u = .int .i64 (j : Int) ∧ Hid (Cts wr W0.heap.size (.slice (some ⟨g, 0, none⟩) len ac) vs (Y t)) ∧ Hid (∀ cs ∈ Y t, cs.length = mm) ∧ Hid (Below W0.heap.size W0 wr)) (fun u _ => len - (intOf u).toNat)
          case atStart => exact ⟨vs, 0, i + 1, Lib.hid rfl, hlt, by go_num, HC, HM, HB⟩
          case round =>
            clear HC HM HB
            obtain ⟨vs, t, j, HJ, hj, rfl, HC, HM, HB⟩ := hrel
            by_cases hlt2 : j < len
            · have hij : i < j := by have := HJ.out; omega
              have hyl := HIL.out t
              obtain ⟨gi, ci, hci, hIi⟩ := HC.out.cell (i := i) (by rw [hyl]; exact hlt)
              obtain ⟨gj, cj, hcj, hIj⟩ := HC.out.cell (i := j) (by rw [hyl]; exact hlt2)
              have hli := HM.out ((Y t).getD i []) ((mem_getD _ _).2 ⟨i, by rw [hyl]; exact hlt, rfl⟩)
              have hlj := HM.out ((Y t).getD j []) ((mem_getD _ _).2 ⟨j, by rw [hyl]; exact hlt2, rfl⟩)
              have hsw : Y (t + 1) = if lessC ((Y t).getD j []) ((Y t).getD i []) then ((Y t).set i ((Y t).getD j [])).set j ((Y t).getD i []) else Y t := by
                rw [HIn.out t, ← HJ.out]; rfl
              have HMs : Hid (∀ cs ∈ Y (t + 1), cs.length = mm) := Lib.hid (fun cs h => by
                rw [HIn.out t, ← HJ.out] at h
                exact HM.out cs ((swap_mem (Y t) i j hij (by rw [hyl]; exact hlt2) cs).1 h))
              have HLe : Hid (Calls Try.prog 41 #[.slice (some ⟨gj, 0, none⟩) ((Y t).getD j []).length cj, .slice (some ⟨gi, 0, none⟩) ((Y t).getD i []).length ci] wr.drew fun e w' => e = .returned (.bool (lessC ((Y t).getD j []) ((Y t).getD i []))) ∧ Below wr.drew.heap.size wr.drew w') := Lib.hid (l10Less_any _ _ ((Y t).getD j []) ((Y t).getD i []) _ _ wr.drew (by rw [hlj]; exact h3) (by rw [hli, hlj]) hIj hIi)
              have hgl := (World.ownsRow.lt HC.out.own g rfl).2
              have hgb := (World.ownsRow.lt HC.out.own g rfl).1
              have hA0 : wr.drew.cell? ⟨g, j, none⟩ = some (.slice (some ⟨gj, 0, none⟩) ((Y t).getD j []).length cj) ∧ wr.drew.cell? ⟨g, i, none⟩ = some (.slice (some ⟨gi, 0, none⟩) ((Y t).getD i []).length ci) := ⟨hcj, hci⟩
              have HKp := Lib.hid (fun W (hb : Below wr.drew.heap.size wr.drew W) => (⟨(hb.cell (p := ⟨g, j, none⟩) hgl).trans hA0.1, (hb.cell (p := ⟨g, i, none⟩) hgl).trans hA0.2⟩ : W.cell? ⟨g, j, none⟩ = some (.slice (some ⟨gj, 0, none⟩) ((Y t).getD j []).length cj) ∧ W.cell? ⟨g, i, none⟩ = some (.slice (some ⟨gi, 0, none⟩) ((Y t).getD i []).length ci)))
              have HSw := Lib.hid hsw
              have HIi := Lib.hid hIi
              have HIj := Lib.hid hIj
              have HYl := Lib.hid hyl
              have HJ2 : Hid (j + 1 = i + 1 + (t + 1)) := Lib.hid (by have := HJ.out; omega)
              have i1 : (0 : Int) ≤ (i : Int) := by omega
              have i2 : (i : Int) < (len : Int) := by omega
              have j1 : (0 : Int) ≤ (j : Int) := by omega
              have j2 : (j : Int) < (len : Int) := by omega
              clear hsw hIi hIj hli hlj hyl hci hcj
              generalize (Y t).getD i [] = yi at *
              generalize (Y t).getD j [] = yj at *
              generalize lessC yj yi = q at *
              go_wp2
              refine wp_region_held_drew (S := fun V => V.cell? ⟨g, j, none⟩ = some (.slice (some ⟨gj, 0, none⟩) yj.length cj) ∧ V.cell? ⟨g, i, none⟩ = some (.slice (some ⟨gi, 0, none⟩) yi.length ci)) hmx hA0 (fun _ => ?_)
              refine take1 0 (v := ?_) rfl (by kernel_rfl) (by kernel_rfl) (by kernel_rfl) (fun _ _ _ h => h) (by rfl) ?_ hA0 ?_
              rotate_left
              · intro W9 hA
                obtain ⟨c8, c9⟩ := hA
                go_simp
                try with_reducible rfl
              try simp only [Act.put, List.setIfInBounds_toArray, List.set_cons_zero, List.set_cons_succ]
              refine take1 1 (v := ?_) rfl (by kernel_rfl) (by kernel_rfl) (by kernel_rfl) (fun _ _ _ h => h) (by rfl) ?_ hA0 ?_
              rotate_left
              · intro W9 hA
                obtain ⟨c8, c9⟩ := hA
                go_simp
                try with_reducible rfl
              try simp only [Act.put, List.setIfInBounds_toArray, List.set_cons_zero, List.set_cons_succ]
              refine take1 2 (v := ?_) rfl (by kernel_rfl) (by kernel_rfl) (by kernel_rfl) (fun _ _ _ h => h) (by rfl) ?_ hA0 ?_
              rotate_left
              · intro W9 hA
                obtain ⟨c8, c9⟩ := hA
                go_simp
                try with_reducible rfl
              try simp only [Act.put, List.setIfInBounds_toArray, List.set_cons_zero, List.set_cons_succ]
              refine take1 3 (v := ?_) rfl (by kernel_rfl) (by kernel_rfl) (by kernel_rfl) (fun _ _ _ h => h) (by rfl) ?_ hA0 ?_
              rotate_left
              · intro W9 hA
                obtain ⟨c8, c9⟩ := hA
                go_simp
                try with_reducible rfl
              try simp only [Act.put, List.setIfInBounds_toArray, List.set_cons_zero, List.set_cons_succ]
              refine take1 4 (v := ?_) rfl (by kernel_rfl) (by kernel_rfl) (by kernel_rfl) (fun _ _ _ h => h) (by rfl) ?_ hA0 ?_
              rotate_left
              · intro W9 hA
                obtain ⟨c8, c9⟩ := hA
                go_simp
                try with_reducible rfl
              try simp only [Act.put, List.setIfInBounds_toArray, List.set_cons_zero, List.set_cons_succ]
              refine take1 5 (v := ?_) rfl (by kernel_rfl) (by kernel_rfl) (by kernel_rfl) (fun _ _ _ h => h) (by rfl) ?_ hA0 ?_
              rotate_left
              · intro W9 hA
                obtain ⟨c8, c9⟩ := hA
                go_simp
                try with_reducible rfl
              try simp only [Act.put, List.setIfInBounds_toArray, List.set_cons_zero, List.set_cons_succ]
              refine take1 6 (v := ?_) rfl (by kernel_rfl) (by kernel_rfl) (by kernel_rfl) (fun _ _ _ h => h) (by rfl) ?_ hA0 ?_
              rotate_left
              · intro W9 hA
                obtain ⟨c8, c9⟩ := hA
                go_simp
                try with_reducible rfl
              try simp only [Act.put, List.setIfInBounds_toArray, List.set_cons_zero, List.set_cons_succ]
              refine take1 7 (v := ?_) rfl (by kernel_rfl) (by kernel_rfl) (by kernel_rfl) (fun _ _ _ h => h) (by rfl) ?_ hA0 ?_
              rotate_left
              · intro W9 hA
                obtain ⟨c8, c9⟩ := hA
                go_simp
                try with_reducible rfl
              try simp only [Act.put, List.setIfInBounds_toArray, List.set_cons_zero, List.set_cons_succ]
              refine step1 8 (by kernel_rfl) rfl (fun K hK => ?_)
              go_simp
              refine HLe.out.mono ?_
              rintro e w5 ⟨rfl, hb5⟩
              go_wp2_with fail
              have hA5 := HKp.out w5 hb5
              refine hK.out _ _ hA5 ?_
              clear hK K
              try simp only [Act.put, List.setIfInBounds_toArray, List.set_cons_zero, List.set_cons_succ]
              refine stop1 (by kernel_rfl) ?_
              have hbd : Below wr.heap.size wr w5 := (Below.refl wr.heap.size wr).drew.trans hb5
              have HC5 := Lib.hid (HC.out.below hbd)
              have HB5 := Lib.hid (HB.out.drew.trans (hb5.mono HB.out.size))
              have HIi5 := Lib.hid (HIi.out.belowAll hbd)
              have HIj5 := Lib.hid (HIj.out.belowAll hbd)
              obtain ⟨c8, c9⟩ := hA5
              clear hb5 hbd
              cases q
              · rw [if_neg (by decide)] at HSw
                go_wp2
                go_roundw
                case rel => exact ⟨vs, t + 1, j + 1, HJ2, by omega, by go_num, by rw [HSw.out]; exact HC5, HMs, HB5⟩
                case measure => simp [intOf]; omega
              · rw [if_pos rfl] at HSw
                have hP1 := HC5.out.put (i := i) HYl.out hlt HIj5.out
                have hIi6 := HIi5.out.aside (g' := g) (fun e => rows_apartW HC5.out.own HIi5.out (by rw [e]; rfl)) i (.slice (some ⟨gj, 0, none⟩) yj.length cj)
                have hP2 := hP1.put (i := j) (by rw [List.length_set]; exact HYl.out) hlt2 hIi6
                have HP2 := Lib.hid hP2
                have HB6 := Lib.hid ((HB5.out.setCell (p := ⟨g, i, none⟩) hgb (.slice (some ⟨gj, 0, none⟩) yj.length cj)).setCell (p := ⟨g, j, none⟩) hgb (.slice (some ⟨gi, 0, none⟩) yi.length ci))
                have ho5 := HC5.out.own
                rw [HYl.out] at ho5
                have ho6 := hP1.own
                rw [List.length_set, HYl.out] at ho6
                have fi := World.ownsRow.frozenAt ho5 i
                have fj := World.ownsRow.frozenAt ho5 j
                have fj2 := World.ownsRow.frozenAt ho6 j
                clear ho5 ho6
                clear hP1 hP2 hIi6
                go_wp2
                go_roundw
                case rel => exact ⟨_, t + 1, j + 1, HJ2, by omega, by go_num, by rw [HSw.out]; exact HP2, HMs, HB6⟩
                case measure => simp [intOf]; omega
            · have HT : Hid (Y t = outerS X (i + 1)) := Lib.hid (by rw [HOn.out, show len - (i + 1) = t by have := HJ.out; omega])
              have HC6 : Hid (Cts wr W0.heap.size (.slice (some ⟨g, 0, none⟩) len ac) vs (outerS X (i + 1))) := Lib.hid (by rw [← HT.out]; exact HC.out)
              have HM6 : Hid (∀ cs ∈ outerS X (i + 1), cs.length = mm) := Lib.hid (by rw [← HT.out]; exact HM.out)
              have hjl : (len : Int) ≤ (j : Int) := by omega
              go_wp2
              go_roundw
              case rel => exact ⟨vs, i + 1, by omega, by go_num, HC6, HM6, HB⟩
              case measure => simp [intOf]; omega
        · obtain rfl : len = i := by omega
          have HCl : Hid (Cts wr W0.heap.size (.slice aa len ac) vs LN) := Lib.hid (by rw [← HXs.out]; exact HC.out)
          have HLl : Hid (LN.length = len) := Lib.hid (by rw [← HXs.out]; exact HOl.out len)
          have HTx : Hid (∀ i, i < len → (LN.take (i + 1)).map (fun cs => toB (textC 0 cs)) = (LN.take i).map (fun cs => toB (textC 0 cs)) ++ [toB (textC 0 (LN.getD i []))]) := Lib.hid (fun i hi => by
            have hi' : i < LN.length := by rw [HLl.out]; exact hi
            rw [List.take_add_one, List.getElem?_eq_getElem hi', List.map_append, List.getD_eq_getElem?_getD, List.getElem?_eq_getElem hi']
            rfl)
          have HT0 : Hid ((LN.take 0).map (fun cs => toB (textC 0 cs)) = []) := Lib.hid rfl
          have HTn : Hid ((LN.take len).map (fun cs => toB (textC 0 cs)) = LN.map (fun cs => toB (textC 0 cs))) := Lib.hid (by rw [← HLl.out, List.take_length])
          have HTl : Hid (∀ i, i ≤ len → ((LN.take i).map (fun cs => toB (textC 0 cs))).length ≤ 100000) := Lib.hid (fun i hi => by rw [List.length_map, List.length_take]; omega)
          have HOw := Lib.hid (strs_belowAll HO.out HB.out)
          have HBw := Lib.hid (HB0.out.trans (HB.out.mono (Nat.le_of_lt hz0)))
          obtain ⟨tx, htx⟩ : ∃ tx : Nat → List ByteArray, tx = fun i => (LN.take i).map (fun cs => toB (textC 0 cs)) := ⟨_, rfl⟩
          have HX1 : Hid (∀ i, i < len → tx (i + 1) = tx i ++ [toB (textC 0 (LN.getD i []))]) := Lib.hid (by rw [htx]; exact HTx.out)
          have HX0 : Hid (tx 0 = []) := Lib.hid (by rw [htx]; exact HT0.out)
          have HXn : Hid (tx len = LN.map (fun cs => toB (textC 0 cs))) := Lib.hid (by rw [htx]; exact HTn.out)
          have HXl : Hid (∀ i, i ≤ len → (tx i).length ≤ 100000) := Lib.hid (by rw [htx]; exact HTl.out)
          clear htx HTx HT0 HTn HTl hlt hi HXs HOl HIl HOs HIs HI0 HO0 HC HB HM
          go_wp2
          go_loopw [8, 19] (fun a u wr => ∃ (a' : Value) (i : Nat), a' = a ∧ i ≤ len ∧ u = .int .i64 (i : Int) ∧ Hid (IsStrs wr w.heap.size a' (tx i)) ∧ Hid (Cts wr W0.heap.size (.slice aa len ac) vs LN) ∧ Hid (Below w.heap.size w wr)) (fun _ u _ => len - (intOf u).toNat)
          case atStart => exact ⟨_, 0, rfl, Nat.zero_le _, rfl, Lib.hid (by rw [HX0.out]; exact HOw.out), HCl, HBw⟩
          case round =>
            clear HOw HCl HBw
            obtain ⟨a, i, rfl, hi, rfl, HA, HC, HB⟩ := hrel
            by_cases hlt : i < len
            · obtain ⟨g, rfl⟩ : ∃ g, aa = some ⟨g, 0, none⟩ := by
                rcases HC.out.shape with ⟨e, e2⟩ | ⟨g, cap2, e, _⟩
                · have := HLl.out; rw [e2] at this; simp at this; omega
                · injection e with e1; exact ⟨g, e1⟩
              obtain ⟨gi, ci, hci, hIi⟩ := HC.out.cell (i := i) (by rw [HLl.out]; exact hlt)
              obtain ⟨hl1, hl2⟩ := HLM.out (LN.getD i []) ((mem_getD _ _).2 ⟨i, by rw [HLl.out]; exact hlt, rfl⟩)
              have HTe := Lib.hid (l10Text_any _ (LN.getD i []) _ wr (by rw [hl1]; exact h3) hl2 hIi)
              have HX2 := Lib.hid (HX1.out i hlt)
              have HLc := Lib.hid (HXl.out i hi)
              have i1 : (0 : Int) ≤ (i : Int) := by omega
              have i2 : (i : Int) < (len : Int) := by omega
              clear hl1 hl2 hIi
              generalize toB (textC 0 (LN.getD i [])) = S at *
              generalize LN.getD i [] = cs at *
              go_wp2_with (first | (go_at_call 33; refine HTe.out.mono ?_; rintro e w5 ⟨rfl, hb5⟩; have HA5 := Lib.hid (strs_belowAll HA.out hb5); have HC5 := Lib.hid (HC.out.below hb5); have HB5 := Lib.hid (HB.out.trans (hb5.mono HB.out.size)); have hz5 := HB5.out.size; clear hb5) | (at_builtin; refine wpList_plain rfl (fun K hK => ?_); refine wp_append_text _ _ rfl a (tx i) S w5 w.heap.size rfl rfl HA5.out HLc.out hz5 (fun A3 w6 hO6 hkeep hb6 => ?_); have HA6 := Lib.hid hO6; have HC6 := Lib.hid (hkeep _ _ _ _ HC5.out); have HB6 := Lib.hid (hb6 _ _ (Nat.le_refl _) HB5.out); clear hO6 hkeep hb6; refine hK _ _ ?_; clear hK))
              rw [← HX2.out] at HA6
              go_roundw
              case rel => exact ⟨_, i + 1, rfl, by omega, by go_num, HA6, HC6, HB6⟩
              case measure => simp [intOf]; omega
            · obtain rfl : len = i := by omega
              clear hlt hi
              go_wp2
              go_ret2
              exact ⟨_, rfl, HB.out, by rw [← HXn.out]; exact HA.out⟩
end Go.Proofs.Ytgcfgegbbfbaaaa
