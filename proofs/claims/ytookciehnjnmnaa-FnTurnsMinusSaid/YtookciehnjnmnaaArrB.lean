/- Walks that go along one arc more: the program. -/
import Derived.Test.YtookciehnjnmnaaArrA
import Derived.Test.YtookciehnjnmnaaMarks
import Derived.LoopTactic
namespace Go.Proofs.Ytookciehnjnmnaa
open Go.RowKit Go.Shelf
set_option linter.unusedVariables false
attribute [local go_sem] Oper.semAt_some
/-- The round that slot 14 tells. -/
def rOf (k : Nat) (a : Act) : Nat := (intOf (a.tmps.getD k undef)).toNat
theorem mark_aside {T : Nat} {W W' : World} (h : Aside T W W') {D : Nat} (hD : Mark W D) {o : Obj} (hT : W.heap[T]? = some o) (hc : o.isCells = true) : Mark W' D :=
  (h.block D (Array.getElem?_eq_some_iff.1 hD).1 (fun e => by
    have hD' : W.heap[D]? = some (.deferred (some [])) := hD
    rw [e, hT] at hD'
    cases hD'
    cases hc)).trans hD
set_option maxRecDepth 100000 in
set_option maxHeartbeats 4000000 in
theorem longer_any (n s : Nat) (f : Nat → Nat) (w : World) (h1 : 1 ≤ n) (h2 : n ≤ 12) (hs : s < 2 ^ n) (hf : ∀ x, x < 12 → f x ≤ 1000000000000) (hm : ∀ v x, v ≤ n → midW n s f v x ≤ 1000000000000) :
    Calls Try.prog 74 #[.agg (arrC f), .agg #[.int .i64 (n:Int), .int .i64 (s:Int)]] w fun e w' => e = .returned (.agg (arrC (midW n s f n))) ∧ Below w.heap.size w w' := by
  have hmx : Try.prog.follows .mixedOrders = true := by kernel_rfl
  have HF := Lib.hid hf
  have HM := Lib.hid hm
  clear hf hm
  refine (callsIn_wide (n := 12)).1 ?_
  refine callsIn_of_wp_marks Try.func74 rfl trivial ?_ rfl
  simp only [Try.ntmps74, List.size_toArray, List.length_cons, List.length_nil, Nat.reduceAdd, Nat.reduceSub, Array.replicate_succ, Array.replicate_zero, List.push_toArray, List.append_toArray, List.nil_append, List.cons_append]
  have hA := (((Arr.new w 58 f).alloc (.cells #[.int .i64 (n:Int), .int .i64 (s:Int)] 41)).alloc (.cells (arrC fun _ => 0) 58)).alloc (.cells (arrC fun _ => 0) 58)
  have hD := ((Duo.new (w.alloc (.cells (arrC f) 58)) 41 (.int .i64 (n:Int)) (.int .i64 (s:Int))).alloc (.cells (arrC fun _ => 0) 58)).alloc (.cells (arrC fun _ => 0) 58)
  have hR := (Arr.new ((w.alloc (.cells (arrC f) 58)).alloc (.cells #[.int .i64 (n:Int), .int .i64 (s:Int)] 41)) 58 (fun _ => 0)).alloc (.cells (arrC fun _ => 0) 58)
  have hT := Arr.new (((w.alloc (.cells (arrC f) 58)).alloc (.cells #[.int .i64 (n:Int), .int .i64 (s:Int)] 41)).alloc (.cells (arrC fun _ => 0) 58)) 58 (fun _ => 0)
  have hB : Below w.heap.size w ((((w.alloc (.cells (arrC f) 58)).alloc (.cells #[.int .i64 (n:Int), .int .i64 (s:Int)] 41)).alloc (.cells (arrC fun _ => 0) 58)).alloc (.cells (arrC fun _ => 0) 58)) := ((((Below.refl _ _).alloc (Nat.le_refl _) _).alloc (by simp) _).alloc (by simp; omega) _).alloc (by simp; omega) _
  simp only [World.size_alloc] at hD hR hT
  rw [← zero_arr] at hA hD hR hT hB
  have HA := Lib.hid hA
  have HD := Lib.hid hD
  have HR := Lib.hid hR
  have HT := Lib.hid hT
  have HB := Lib.hid hB
  clear hA hD hR hT hB
  have hsl := run_sliceArr w.heap.size n h2
  gi_wp2
  obtain ⟨W0, hW0⟩ : ∃ W0, ((((w.alloc (.cells (arrC f) 58)).alloc (.cells #[.int .i64 (n:Int), .int .i64 (s:Int)] 41)).alloc (.cells #[.int .i64 0, .int .i64 0, .int .i64 0, .int .i64 0, .int .i64 0, .int .i64 0, .int .i64 0, .int .i64 0, .int .i64 0, .int .i64 0, .int .i64 0, .int .i64 0] 58)).alloc (.cells #[.int .i64 0, .int .i64 0, .int .i64 0, .int .i64 0, .int .i64 0, .int .i64 0, .int .i64 0, .int .i64 0, .int .i64 0, .int .i64 0, .int .i64 0, .int .i64 0] 58)) = W0 := ⟨_, rfl⟩
  rw [hW0] at HA HD HR HT HB ⊢
  clear hW0 hsl
  refine wpIn_loop (fun a' wr => ∃ (v : Nat) (ds : List Deferred) (u6 u7 u8 u9 u10 u11 u15 u16 u17 u18 u19 u20 u21 u22 u23 u24 u25 u26 u27 u28 u29 u30 u31 : Value), (v ≤ n ∧ Arr wr w.heap.size 58 f ∧ Duo wr (w.heap.size + 1) 41 (.int .i64 (n:Int)) (.int .i64 (s:Int)) ∧ Arr wr (w.heap.size + 1 + 1) 58 (fun _ => 0) ∧ Arr wr (w.heap.size + 1 + 1 + 1) 58 (midW n s f v) ∧ Below w.heap.size w wr ∧ Marks w.heap.size wr ds) ∧ a' = { tmps := #[.agg (arrC f), .agg #[.int .i64 (n:Int), .int .i64 (s:Int)], .pointer (some ⟨w.heap.size, 0, none⟩), .pointer (some ⟨w.heap.size + 1, 0, none⟩), .pointer (some ⟨w.heap.size + 1 + 1, 0, none⟩), .pointer (some ⟨w.heap.size + 1 + 1 + 1, 0, none⟩), u6, u7, u8, u9, u10, u11, .slice (some ⟨w.heap.size, 0, none⟩) n 12, .int .i64 (n:Int), .int .i64 (v:Int), u15, u16, u17, u18, u19, u20, u21, u22, u23, u24, u25, u26, u27, u28, u29, u30, u31], defers := ds }) (fun a' wr => n - rOf 14 a') ?_ ?_
  · exact ⟨0, [], _, _, _, _, _, _, _, _, _, _, _, _, _, _, _, _, _, _, _, _, _, _, _, ⟨Nat.zero_le _, HA.out, HD.out, HR.out, HT.out.congr (fun x _ => rfl), HB.out, .nil⟩, rfl⟩
  clear HA HD HR HT HB
  rintro a' wr ⟨v, ds, u6, u7, u8, u9, u10, u11, u15, u16, u17, u18, u19, u20, u21, u22, u23, u24, u25, u26, u27, u28, u29, u30, u31, ⟨hv, hA, hD, hR, hT, hB, hM⟩, rfl⟩
  have HA := Lib.hid hA
  have HR := Lib.hid hR
  have HT := Lib.hid hT
  have HB := Lib.hid hB
  have HMa := Lib.hid hM
  have HD := Lib.hid hD
  clear hA hR hT hB hM hD
  by_cases hlt : v < n
  · have cv := HA.out.cell v (by omega)
    have d0 := HD.out.cell0
    have d1 := HD.out.cell1
    have lD : w.heap.size + 1 < wr.heap.size := HD.out.lt
    have lT : w.heap.size + 1 + 1 + 1 < wr.heap.size := HT.out.lt
    have j1 : (0 : Int) ≤ (v : Int) := by omega
    have j2 : (v : Int) < (n : Int) := by omega
    have HN := Lib.hid (fun W => next_any n s (v : Int) W h1 h2 hs (by omega) (by omega))
    gi_wp2_with (first
      | (refine ⟨trivial, ?_⟩; gi_at_call 82; refine (callsIn_wide.2 (HN.out _)).mono ?_; rintro e w1 ⟨rfl, hb1⟩)
      | (refine ⟨trivial, ?_⟩; gi_at_call 66; refine (callsIn_wide.2 (places_any _ _)).mono ?_; rintro e w' ⟨rfl, rfl⟩))
    have z1 := hb1.size
    rw [World.size_alloc] at z1
    have bM := (boxed_below (Boxed.new wr 3 (.int .i64 ((f v : Nat) : Int))) (by simp) hb1).alloc (.cells #[.int .i64 ((shiftN n s (v:Int) : Nat) : Int)] 39)
    have bA := ((HA.out.alloc (.cells #[.int .i64 ((f v : Nat) : Int)] 3)).below (HA.out.alloc (.cells #[.int .i64 ((f v : Nat) : Int)] 3)).lt hb1).alloc (.cells #[.int .i64 ((shiftN n s (v:Int) : Nat) : Int)] 39)
    have bR := ((HR.out.alloc (.cells #[.int .i64 ((f v : Nat) : Int)] 3)).below (HR.out.alloc (.cells #[.int .i64 ((f v : Nat) : Int)] 3)).lt hb1).alloc (.cells #[.int .i64 ((shiftN n s (v:Int) : Nat) : Int)] 39)
    have bT := ((HT.out.alloc (.cells #[.int .i64 ((f v : Nat) : Int)] 3)).below (HT.out.alloc (.cells #[.int .i64 ((f v : Nat) : Int)] 3)).lt hb1).alloc (.cells #[.int .i64 ((shiftN n s (v:Int) : Nat) : Int)] 39)
    have bD := (duo_below (HD.out.alloc (.cells #[.int .i64 ((f v : Nat) : Int)] 3)) (HD.out.alloc (.cells #[.int .i64 ((f v : Nat) : Int)] 3)).lt hb1).alloc (.cells #[.int .i64 ((shiftN n s (v:Int) : Nat) : Int)] 39)
    have bMa := marks_alloc (marks_below (marks_alloc HMa.out (.cells #[.int .i64 ((f v : Nat) : Int)] 3)) hb1) (.cells #[.int .i64 ((shiftN n s (v:Int) : Nat) : Int)] 39)
    have bB := ((HB.out.alloc HB.out.size (.cells #[.int .i64 ((f v : Nat) : Int)] 3)).trans (hb1.mono (by have := HB.out.size; simp; omega))).alloc (by have := HB.out.size; omega) (.cells #[.int .i64 ((shiftN n s (v:Int) : Nat) : Int)] 39)
    have bP := Boxed.new w1 39 (.int .i64 ((shiftN n s (v:Int) : Nat) : Int))
    have hsz : (w1.alloc (.cells #[.int .i64 ((shiftN n s (v:Int) : Nat) : Int)] 39)).heap.size = w1.heap.size + 1 := by simp
    have hL := shiftN_lt n s (v : Int)
    have zB := HB.out.size
    obtain ⟨W9, hW9⟩ : ∃ W9, w1.alloc (.cells #[.int .i64 ((shiftN n s (v:Int) : Nat) : Int)] 39) = W9 := ⟨_, rfl⟩
    rw [hW9] at bM bA bR bT bD bMa bB bP hsz ⊢
    have HEnd := Lib.hid (fun x => addR_end n s f v x h1 h2 hs hlt)
    obtain ⟨L, hLe⟩ : ∃ L, shiftN n s (v : Int) = L := ⟨_, rfl⟩
    rw [hLe] at bP hL HEnd ⊢
    have HLe := Lib.hid hLe
    clear hW9 hb1 HA HR HT HB HMa HD cv d0 d1 HN hLe
    refine wpIn_rangeFunc_ownG rfl (by omega) (gf := 78) (lb := #[.pointer (some ⟨w1.heap.size, 0, none⟩)]) rfl trivial (enters_of Try.func78 (by kernel_rfl) rfl)
      (places_stops 11 (by omega) w1.heap.size w.heap.size n L hL h2 W9 bP) KB.trans (KB.put (by omega)) (Below.refl _ _) (fun _ => rfl)
      (fun pre W => ((((((Arr W w.heap.size 58 f ∧ Duo W (w.heap.size + 1) 41 (.int .i64 (n:Int)) (.int .i64 (s:Int))) ∧ Arr W (w.heap.size + 1 + 1) 58 (fun _ => 0)) ∧ Arr W (w.heap.size + 1 + 1 + 1) 58 (addR n s f v (vals pre))) ∧ Boxed W wr.heap.size 3 (.int .i64 ((f v : Nat) : Int))) ∧ Below w.heap.size w W) ∧ (Marks w.heap.size W ds ∧ ∀ D, Mark W9 D → Mark W D)))
      (fun _ _ _ => False)
      (OwnFrom.and (OwnFrom.and (OwnFrom.and (OwnFrom.and (OwnFrom.and (OwnFrom.and (Own.from (arr_own _ _ (fun _ => f)) _) (Own.from (duo_own _ _ _ _) _)) (Own.from (arr_own _ _ (fun _ _ => 0)) _)) (Own.from (arr_own _ _ (fun pre => addR n s f v (vals pre))) _)) (Own.from (boxed_own _ _ _) _)) (ownFrom_below (Nat.le_refl _) (by omega))) (marks_own bMa (Nat.le_refl _)))
      (fun _ _ _ _ _ hs _ _ => hs)
      ⟨⟨⟨⟨⟨⟨bA, bD⟩, bR⟩, bT.congr (fun x _ => (addR_nil n s f v x).symm)⟩, bM⟩, bB⟩, bMa, fun D h => h⟩
      (fun x => { tmps := #[.agg (arrC f), .agg #[.int .i64 (n:Int), .int .i64 (s:Int)], .pointer (some ⟨w.heap.size, 0, none⟩), .pointer (some ⟨w.heap.size + 1, 0, none⟩), .pointer (some ⟨w.heap.size + 1 + 1, 0, none⟩), .pointer (some ⟨w.heap.size + 1 + 1 + 1, 0, none⟩), .int .i64 (v:Int), .pointer (some ⟨wr.heap.size, 0, none⟩), .int .i64 (x.val : Int), u9, u10, u11, .slice (some ⟨w.heap.size, 0, none⟩) n 12, .int .i64 (n:Int), .int .i64 (v:Int), .bool true, .int .i64 (v:Int), .pointer (some ⟨w.heap.size, v, none⟩), .int .i64 ((f v : Nat) : Int), .agg #[.int .i64 (n:Int), .int .i64 (s:Int)], .int .i64 (v:Int), .int .i64 (L:Int), .func (.func 78) #[] #[.pointer (some ⟨w1.heap.size, 0, none⟩)], .int .i64 (x.val : Int), u24, u25, u26, u27, u28, u29, u30, u31], defers := [] }) ?assign ?body ?done ?stop
    case assign =>
      intro l x W K hK
      gi_wp2
      exact hK
    case body =>
      rintro l pre x W ⟨⟨⟨⟨⟨⟨bA1, bD1⟩, bR1⟩, bT1⟩, bM1⟩, bB1⟩, bMa1, bm1⟩ hlen
      have hx := x.isLt
      have hcl := count_len (vals pre) x.val
      have hpl : (vals pre).length < 100 := by simpa [vals] using hlen
      have hadd : addR n s f v (vals pre) x.val ≤ 1000000000000 + 1000000000000 * 100 := by
        unfold addR
        have a := HM.out v x.val hv
        have b := Nat.mul_le_mul (HF.out v (by omega)) (show (vals pre).count x.val ≤ 100 by omega)
        omega
      have hfv := HF.out v (by omega)
      have T0 : w.heap.size + 1 + 1 + 1 < W.heap.size := bT1.lt
      obtain ⟨oT, hoT, hcT⟩ := bT1.obj
      have hc := bT1.cell x.val (by omega)
      have hfz := bT1.frozen x.val
      have HS := Lib.hid (fun y => addR_snoc n s f v pre x y)
      obtain ⟨z, hz⟩ : ∃ z, addR n s f v (vals pre) x.val = z := ⟨_, rfl⟩
      rw [hz] at hc hadd
      have HZ := Lib.hid hz
      have HT1 := Lib.hid bT1
      have i1 : (0 : Int) ≤ (x.val : Int) := by omega
      have i2 : (x.val : Int) < 12 := by omega
      obtain ⟨q, hq⟩ : ∃ q, f v = q := ⟨_, rfl⟩
      have HQ := Lib.hid hq
      rw [hq] at bM1 hfv ⊢
      have HA1 := Lib.hid bA1
      have HMa1 := Lib.hid bMa1
      have Hm1 := Lib.hid bm1
      have E := IntWalk.i64_in ((z : Int) + (q : Int)) ⟨by omega, by omega⟩
      have E2 : (((z + q : Nat)) : Int) = (z : Int) + (q : Int) := by omega
      clear hz hq bT1 bA1 bMa1 bm1 hcl hpl
      gi_wp2
      have hA0 := Aside.start (w.heap.size + 1 + 1 + 1) W
      refine region_round (fun W2 => Aside (w.heap.size + 1 + 1 + 1) W W2) hmx (by kernel_rfl) (fun ⟨_, _, h⟩ => h) hA0 (fun _ => ?_)
      refine take1 0 (v := ?_) rfl (by kernel_rfl) (by kernel_rfl) (by kernel_rfl) (fun _ _ _ h => h) (by rfl) ?_ hA0 ?_
      rotate_left
      · intro W2 hA
        have c2 := (hA.box bM1 (by omega)).cell
        clear hA
        go_simp
        try with_reducible rfl
      try simp only [Act.put, List.setIfInBounds_toArray, List.set_cons_zero, List.set_cons_succ]
      refine take1 1 (v := ?_) rfl (by kernel_rfl) (by kernel_rfl) (by kernel_rfl) (fun _ _ _ h => h) (by rfl) ?_ hA0 ?_
      rotate_left
      · intro W2 hA
        have c2 := (hA.box bM1 (by omega)).cell
        clear hA
        go_simp
        try with_reducible rfl
      try simp only [Act.put, List.setIfInBounds_toArray, List.set_cons_zero, List.set_cons_succ]
      refine take1 3 (v := ?_) rfl (by kernel_rfl) (by kernel_rfl) (by kernel_rfl) (fun _ _ _ h => h) (by rfl) ?_ hA0 ?_
      rotate_left
      · intro W2 hA
        have c2 := (hA.box bM1 (by omega)).cell
        clear hA
        go_simp
        try with_reducible rfl
      try simp only [Act.put, List.setIfInBounds_toArray, List.set_cons_zero, List.set_cons_succ]
      refine step1 2 (by kernel_rfl) rfl (fun K hK => ?_)
      go_simp
      refine hK.out _ _ hA0 ?_
      clear hK K
      try simp only [Act.put, List.setIfInBounds_toArray, List.set_cons_zero, List.set_cons_succ]
      refine take1 4 (v := ?_) rfl (by kernel_rfl) (by kernel_rfl) (by kernel_rfl) (fun _ _ _ h => h) (by rfl) ?_ hA0 ?_
      rotate_left
      · intro W2 hA
        have c2 := (hA.box bM1 (by omega)).cell
        clear hA
        go_simp
        try with_reducible rfl
      try simp only [Act.put, List.setIfInBounds_toArray, List.set_cons_zero, List.set_cons_succ]
      refine take1 5 (v := ?_) rfl (by kernel_rfl) (by kernel_rfl) (by kernel_rfl) (fun _ _ _ h => h) (by rfl) ?_ hA0 ?_
      rotate_left
      · intro W2 hA
        have c2 := (hA.box bM1 (by omega)).cell
        clear hA
        go_simp
        try with_reducible rfl
      try simp only [Act.put, List.setIfInBounds_toArray, List.set_cons_zero, List.set_cons_succ]
      refine step1 6 (by kernel_rfl) rfl (fun K hK => ?_)
      go_simp
      refine hK.out _ _ (hA0.setAt _ _) ?_
      clear hK K
      try simp only [Act.put, List.setIfInBounds_toArray, List.set_cons_zero, List.set_cons_succ]
      refine stop1 (by kernel_rfl) ?_
      have hT2 := (HT1.out.set x.val (z + q) (by omega)).congr (g := addR n s f v (vals (pre ++ [x]))) (fun y _ => by rw [HS.out y, HZ.out, HQ.out])
      rw [E2] at hT2
      have hA2 := hA0.setAt x.val (.int .i64 (((z + q : Nat)) : Int))
      rw [E2] at hA2
      have HT2 := Lib.hid hT2
      have HA2 := Lib.hid hA2
      clear hT2 hA2
      gi_wp2
      have hKo := HA2.out.others' hoT hcT
      exact ⟨hKo.from _, HA2.out.kb (by omega) (by omega) bB1.size, ⟨⟨⟨⟨⟨⟨HA2.out.arr HA1.out (by omega), HA2.out.duo bD1 (by omega)⟩, HA2.out.arr bR1 (by omega)⟩, HT2.out⟩, HA2.out.box bM1 (by omega)⟩, bB1.trans (HA2.out.below (by omega) bB1.size)⟩,
        HMa1.out.same (fun D hD => mark_aside HA2.out hD hoT hcT), fun D hD => mark_aside HA2.out (Hm1.out D hD) hoT hcT⟩⟩
    case done =>
      rintro D ys W hD rfl ⟨⟨⟨⟨⟨⟨bA1, bD1⟩, bR1⟩, bT1⟩, bM1⟩, bB1⟩, bMa1, _⟩ hK
      have HA1 := Lib.hid bA1
      have HD1 := Lib.hid bD1
      have HR1 := Lib.hid bR1
      have HT1 := Lib.hid (bT1.congr (fun x _ => HEnd.out x))
      have HB1 := Lib.hid bB1
      have HM1 : Hid (Marks w.heap.size W ({ target := .collected D, args := #[] } :: ds)) := Lib.hid (.cons D ds hK (by have := bB.size; omega) (bMa.fresh hD) bMa1)
      clear bA1 bD1 bR1 bT1 bB1 bMa1
      gi_wp2
      refine ⟨⟨v + 1, _, _, _, _, _, _, _, _, _, _, _, _, _, _, _, _, _, _, _, _, _, _, _, _, ⟨hlt, HA1.out, HD1.out, HR1.out, HT1.out, HB1.out, HM1.out⟩, rfl⟩, ?_⟩
      simp [rOf, intOf]
      omega
    case stop =>
      rintro D c pre W _ _ h _
      exact h.elim
  · obtain rfl : v = n := by omega
    gi_wp2_with (first
      | (refine wpListIn_loadArr _ rfl _ rfl (w.heap.size + 1 + 1 + 1) 58 (midW v s f v) rfl HT.out ?_)
      | (refine wpListIn_storeArr _ rfl _ _ rfl (w.heap.size + 1 + 1) 58 _ (midW v s f v) rfl rfl HR.out ?_))
    refine leaves_marks (N := w.heap.size) (fun W => Arr W (w.heap.size + 1 + 1) 58 (midW v s f v) ∧ Below w.heap.size w W) ?_ ?_ ds _ ?_ ⟨HR.out.row _, row_below HB.out (by omega) _⟩
    · rintro W D ⟨g1, g2⟩ hD hN
      have hD' : W.heap[D]? = some (.deferred (some [])) := hD
      have n1 : w.heap.size + 1 + 1 ≠ D := fun e => by
        have g1' : W.heap[w.heap.size + 1 + 1]? = some _ := g1
        rw [e, hD'] at g1'
        cases g1'
      exact ⟨g1.kept (grownBy_putObj' W D _) (fun e => n1 (by cases e; rfl)), belowK_b (w := w) (Nat.le_refl _) W D _ (.deferred none) hN hD' rfl rfl |> fun h => g2.trans h⟩
    · rintro W ⟨g1, g2⟩
      have hl := g1.loadVar
      refine ⟨.agg (arrC (midW v s f v)), ?_, rfl, g2⟩
      rw [results_cell1 rfl]
      simp [asAddr, Result.andThen, hl, Act.put]
    · exact marks_ne HMa.out (w.heap.size + 1 + 1) ⟨_, HR.out, fun x e => by cases e⟩ (fun k _ hk => setRow_other _ _ _ _ hk)
end Go.Proofs.Ytookciehnjnmnaa
