/- Plays, the program's side: the first order. Written by gen103.py. -/
import Derived.Test.YtaklmepioeoohaaOrdC
import Derived.Test.YtaklmepioeoohaaOrdM
import Derived.Test.YtaklmepioeoohaaGT
import Derived.Test.YtaklmepioeoohaaPlyP
namespace Go.Proofs.Ytaklmepioeoohaa
open Go.RowKit Go.Shelf
set_option linter.unusedVariables false
attribute [local go_sem] Oper.semAt_some
theorem ints_outside {B M b : Nat} {A A' : World} {v : Value} {xs : List Int} (h : IsInts A b v xs) (hM : M ≤ b) (k : Outside B M A A') : IsInts A' b v xs := by
  refine ⟨h.1, ?_⟩
  rcases h.2 with hn | ⟨g, cap, cur, rfl, h1, hgg, rest⟩
  · exact .inl hn
  · exact .inr ⟨g, cap, cur, rfl, h1, k.high g _ (Nat.le_trans hM h1) hgg rfl, rest⟩
theorem slice_of {W : World} {b : Nat} {v : Value} {xs : List Int} (h : IsInts W b v xs) : ∃ ad cap, v = .slice ad xs.length cap := by
  rcases h.shape with ⟨a, c⟩ | ⟨g, c, e, _⟩
  · exact ⟨none, 0, by rw [a, c]; rfl⟩
  · exact ⟨_, c, e⟩
set_option maxRecDepth 100000 in
set_option maxHeartbeats 4000000 in
theorem firstOrder_any (n s : Nat) (w : World) (h2 : n ≤ 9) (hs : s < 2 ^ n) (hp : playB n s = true) :
    Calls Try.prog 69 #[.agg #[.int .i64 (n:Int), .int .i64 (s:Int)]] w fun e w' => ∃ sv, e = .returned sv ∧ Below w.heap.size w w' ∧ IsInts w' w.heap.size sv (ordL n s) := by
  have h3 := ((play_iff n s).1 hp).1
  have hF := ord_first n s h2 hs hp
  have hO : ordersO n s [0] = allO n s (n - 1) [0] 0 1 := rfl
  rw [← hO] at hF
  have hbs : Begins n [0] := ⟨by simp, by simp; omega, fun i hi => by
    obtain rfl : i = 0 := by simp at hi; omega
    exact ⟨rfl, by show (0 : Nat) < n; omega⟩⟩
  have HF := Lib.hid hF
  have HBS := Lib.hid hbs
  have hD0 := Duo.new w 47 (.int .i64 (n:Int)) (.int .i64 (s:Int))
  have d0 := hD0.cell0
  have d1 := hD0.cell1
  clear hF hO hbs hp
  refine (callsIn_wide (n := 10)).1 ?_
  refine callsIn_of_wp_marks Try.func69 rfl trivial ?_ rfl
  simp only [Try.ntmps69, List.size_toArray, List.length_cons, List.length_nil, Nat.reduceAdd, Nat.reduceSub, Array.replicate_succ, Array.replicate_zero, List.push_toArray, List.append_toArray, List.nil_append, List.cons_append]
  gi_wp2_with (refine ⟨trivial, ?_⟩; gi_at_call 90; refine (callsIn_wide.2 (orders_any _ _ _ _ _ _)).mono ?_; rintro e W1 ⟨rfl, rfl⟩)
  clear d0 d1 hD0
  have bT := (((Boxed.new (w.alloc (.cells #[.int .i64 (n:Int), .int .i64 (s:Int)] 47)) 31 (.slice none 0 0)).alloc (.cells #[.int .i64 0] 3)).alloc (.cells #[.int .i64 (n:Int), .int .i64 (s:Int)] 45)).alloc (.cells #[.slice (some ⟨w.heap.size + 1 + 1, 0, none⟩) 1 1] 31)
  have bS := (Duo.new (((w.alloc (.cells #[.int .i64 (n:Int), .int .i64 (s:Int)] 47)).alloc (.cells #[.slice none 0 0] 31)).alloc (.cells #[.int .i64 0] 3)) 45 (.int .i64 (n:Int)) (.int .i64 (s:Int))).alloc (.cells #[.slice (some ⟨w.heap.size + 1 + 1, 0, none⟩) 1 1] 31)
  have bB := Boxed.new ((((w.alloc (.cells #[.int .i64 (n:Int), .int .i64 (s:Int)] 47)).alloc (.cells #[.slice none 0 0] 31)).alloc (.cells #[.int .i64 0] 3)).alloc (.cells #[.int .i64 (n:Int), .int .i64 (s:Int)] 45)) 31 (.slice (some ⟨w.heap.size + 1 + 1, 0, none⟩) 1 1)
  have hI0 := lit_one ((w.alloc (.cells #[.int .i64 (n:Int), .int .i64 (s:Int)] 47)).alloc (.cells #[.slice none 0 0] 31)) 0 0 (Nat.zero_le _)
  have hI := hI0.belowAll ((((Below.refl (((w.alloc (.cells #[.int .i64 (n:Int), .int .i64 (s:Int)] 47)).alloc (.cells #[.slice none 0 0] 31)).alloc (.cells #[.int .i64 0] 3)).heap.size (((w.alloc (.cells #[.int .i64 (n:Int), .int .i64 (s:Int)] 47)).alloc (.cells #[.slice none 0 0] 31)).alloc (.cells #[.int .i64 0] 3))).alloc (Nat.le_refl _) (.cells #[.int .i64 (n:Int), .int .i64 (s:Int)] 45))).alloc (by simp) (.cells #[.slice (some ⟨w.heap.size + 1 + 1, 0, none⟩) 1 1] 31))
  have hB0 : Below w.heap.size w (((((w.alloc (.cells #[.int .i64 (n:Int), .int .i64 (s:Int)] 47)).alloc (.cells #[.slice none 0 0] 31)).alloc (.cells #[.int .i64 0] 3)).alloc (.cells #[.int .i64 (n:Int), .int .i64 (s:Int)] 45)).alloc (.cells #[.slice (some ⟨w.heap.size + 1 + 1, 0, none⟩) 1 1] 31)) := (((((Below.refl _ w).alloc (Nat.le_refl _) _).alloc (by simp) _).alloc (by simp; omega) _).alloc (by simp; omega) _).alloc (by simp; omega) _
  have hsz : (((((w.alloc (.cells #[.int .i64 (n:Int), .int .i64 (s:Int)] 47)).alloc (.cells #[.slice none 0 0] 31)).alloc (.cells #[.int .i64 0] 3)).alloc (.cells #[.int .i64 (n:Int), .int .i64 (s:Int)] 45)).alloc (.cells #[.slice (some ⟨w.heap.size + 1 + 1, 0, none⟩) 1 1] 31)).heap.size = w.heap.size + 5 := by simp
  simp only [World.size_alloc] at bT bS bB hI
  clear hI0
  obtain ⟨W0, hW0⟩ : ∃ W0, (((((w.alloc (.cells #[.int .i64 (n:Int), .int .i64 (s:Int)] 47)).alloc (.cells #[.slice none 0 0] 31)).alloc (.cells #[.int .i64 0] 3)).alloc (.cells #[.int .i64 (n:Int), .int .i64 (s:Int)] 45)).alloc (.cells #[.slice (some ⟨w.heap.size + 1 + 1, 0, none⟩) 1 1] 31)) = W0 := ⟨_, rfl⟩
  rw [hW0] at bT bS bB hI hB0 hsz ⊢
  clear hW0
  have hT0 : w.heap.size + 1 < W0.heap.size := by omega
  refine rangeReads (p := 9) rfl (by omega) (gf := 100) (lb := #[.pointer (some ⟨w.heap.size + 1 + 1 + 1 + 1, 0, none⟩), .pointer (some ⟨w.heap.size + 1 + 1 + 1, 0, none⟩)]) rfl trivial (enters_of Try.func100 (by kernel_rfl) rfl)
    (orders_reads n s (w.heap.size + 1 + 1 + 1 + 1) (w.heap.size + 1 + 1 + 1) (w.heap.size + 1 + 1) 1 (101 ^ (n - 1)) [0] W0 (by omega) (by omega) hs HBS.out bB bS hI (Nat.le_refl _)) (by rintro k (rfl | rfl) <;> omega) (Below.refl _ _) (rdL_put n)
    (fun pre W => pre = [] ∧ Boxed W (w.heap.size + 1) 31 (.slice none 0 0) ∧ Below w.heap.size w W)
    (fun c M pre W => c = .exit 0 ∧ ∃ x sv, pre = [x] ∧ Boxed W (w.heap.size + 1) 31 sv ∧ IsInts W M sv x ∧ Below w.heap.size w W)
    (by rintro pre X Y ⟨rfl, hb, hw⟩ k; exact ⟨rfl, boxed_below hb hT0 k, hw.trans (k.mono (by omega))⟩)
    (by
      rintro c M pre X Y hM ⟨rfl, x, sv, rfl, hb, hi, hw⟩ k
      exact ⟨rfl, x, sv, rfl, (k.low _ hT0).trans hb, ints_outside hi (Nat.le_refl _) k, hw.trans ⟨k.os, k.tape, k.output, k.size, fun q hq => k.low q (by omega)⟩⟩)
    ⟨rfl, bT, hB0⟩
    (fun v => { tmps := #[.agg #[.int .i64 (n:Int), .int .i64 (s:Int)], .pointer (some ⟨w.heap.size, 0, none⟩), .slice none 0 0, .pointer (some ⟨w.heap.size + 1, 0, none⟩), v, .pointer (some ⟨w.heap.size, 0, none⟩), .agg #[.int .i64 (n:Int), .int .i64 (s:Int)], .slice (some ⟨w.heap.size + 1 + 1, 0, none⟩) 1 1, .func (.func 100) #[] #[.pointer (some ⟨w.heap.size + 1 + 1 + 1 + 1, 0, none⟩), .pointer (some ⟨w.heap.size + 1 + 1 + 1, 0, none⟩)], v, undef, undef, undef], defers := [] }) ?assign ?body ?done ?stop
  case assign =>
    intro l v W K hK
    gi_wp2
    exact hK
  case body =>
    rintro l pre x v W hz ⟨rfl, bT1, hB1⟩ hx hlen
    have HC := Lib.hid (clone_any n x v W (by omega) (by omega) hx)
    have lT := bT1.lt
    gi_wp2_with (refine ⟨trivial, ?_⟩; gi_at_call 91; refine (CallsIn.inRound l (callsIn_wide.2 HC.out)).mono ?_; rintro e W2 ⟨sv, rfl, hb2, hI2⟩; have bT2 := boxed_below bT1 lT hb2; have cT2 := bT2.cell; have fT2 := bT2.frozen; obtain ⟨ad9, cap9, rfl⟩ := slice_of hI2; have HI2 := Lib.hid hI2; have HB2 := Lib.hid hb2; clear hI2 hb2)
    have hne9 : ∀ k, (Value.slice ad9 x.length cap9).ownBlock = some k → W.heap.size ≤ k := fun k hk => (World.ownsRow.lt HI2.out k hk).1
    refine ⟨(Stays.below HB2.out).trans (Stays.setCell _ _ _ (by show w.heap.size + 1 < _; omega) (by show ¬ (w.heap.size + 1 = w.heap.size + 1 + 1 + 1 + 1 ∨ w.heap.size + 1 = w.heap.size + 1 + 1 + 1); omega)), rfl, x, _, rfl, bT2.set _, World.ownsRow.kept HI2.out (grownBy_setCell' W2 _ _) ?_, (hB1.trans (HB2.out.mono (by omega))).setCell (p := ⟨w.heap.size + 1, 0, none⟩) (by simp) _⟩
    cases hv : (Value.slice ad9 x.length cap9).ownBlock with
    | none => exact .inl rfl
    | some k =>
      refine .inr fun e => ?_
      have := hne9 k hv
      injection e with e
      omega
  case done =>
    rintro D ys W2 hD hys ⟨rfl, _, _⟩ hK
    have h := HF.out
    rw [← hys] at h
    cases h
  case stop =>
    rintro D c M pre W2 hD hDM hSp ⟨rfl, x, sv, rfl, bT1, hI1, hB1⟩ hK
    have hx : x = ordL n s := by
      obtain ⟨r, hr⟩ := hSp
      have h := HF.out
      rw [← hr] at h
      simpa using h
    subst hx
    have cT := bT1.cell
    have HI1 := Lib.hid hI1
    have HB1 := Lib.hid hB1
    clear hI1 hB1 hSp
    gi_wp2
    refine ⟨by simp, .inl ⟨_, _, rfl, run_takeDeferred hK, ?_⟩⟩
    have hI9 : IsInts (W2.putObj D (.deferred none)) w.heap.size sv (ordL n s) := IsInts.base (b := M) (ownsRow_putObj HI1.out _ hK rfl) (by omega)
    exact ⟨_, results_tmp rfl _ _ _, sv, rfl, HB1.out.trans (belowK_b (w := w) (Nat.le_refl _) W2 D _ _ (by omega) hK rfl rfl), hI9⟩
theorem no_PlayOrder : NoPlayOrder := by
  intro n s W h
  by_cases hn : NoPlay n s
  · have HO := Lib.hid (fun W => playOf_no n s W hn)
    clear h hn
    go_enter Try.func38, Try.ntmps38
    go_wp2_with fail
    refine (HO.out _).mono ?_
    rintro e w1 ⟨rfl, hb1⟩
    go_wp2
    go_ret2
    exact nil_res ⟨rfl, by
      have := hb1.size
      first
      | exact hb1
      | exact hb1.alloc (by omega) _⟩
  · have h9 : 9 < n := h.resolve_left hn
    obtain ⟨m, t, rfl, rfl, a, b, c, d⟩ := not_noPlay hn
    have HO := Lib.hid (fun W => playOf_yes m t W b c d)
    have k1 : (m : Int) > 9 := h9
    have k2 : decide ((9 : Int) < (m : Int)) = true := decide_eq_true h9
    clear h hn c d
    go_enter Try.func38, Try.ntmps38
    go_wp2_with fail
    refine (HO.out _).mono ?_
    rintro e w1 ⟨rfl, hb1⟩
    go_wp2
    go_ret2
    exact nil_res ⟨rfl, by
      have := hb1.size
      first
      | exact hb1
      | exact hb1.alloc (by omega) _⟩
theorem yes_PlayOrder : YesPlayOrder := by
  intro n s W h9 hs hp
  have HO := Lib.hid (fun W => playOf_yes n s W (by omega) hs hp)
  have HS := Lib.hid (fun W => firstOrder_any n s W h9 hs hp)
  have k1 : ¬ (9 : Int) < (n : Int) := by omega
  have k2 : decide ((9 : Int) < (n : Int)) = false := decide_eq_false k1
  clear hs hp
  go_enter Try.func38, Try.ntmps38
  go_wp2_with fail
  refine (HO.out _).mono ?_
  rintro e w1 ⟨rfl, hb1⟩
  have z1 := hb1.size
  go_wp2_with (go_at_call 69; refine (HS.out _).mono ?_; rintro e w2 ⟨sv, rfl, hb2, hI2⟩)
  go_ret2
  exact ⟨_, rfl, by first | exact hb1.trans (hb2.mono (by omega)) | exact (hb1.alloc (by omega) _).trans (hb2.mono (by simp; omega)), hI2.base (by first | omega | (simp; omega))⟩
end Go.Proofs.Ytaklmepioeoohaa
