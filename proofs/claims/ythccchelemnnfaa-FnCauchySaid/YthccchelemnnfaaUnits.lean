import Derived.Test.YthccchelemnnfaaHeld
namespace Go.Proofs.Ythccchelemnnfaa
open Go.RowKit Go.Shelf
set_option linter.unusedVariables false
attribute [local go_sem] Oper.semAt_some
set_option maxRecDepth 100000 in
set_option maxHeartbeats 4000000 in
theorem units_any (n : Nat) (w : World) (h1 : 1 ≤ n) (h2 : n ≤ 12) :
    Calls Try.prog 53 #[.agg #[.int .i64 (n:Int)]] w fun e w' => e = .returned (.int .i64 ((unitsN n : Nat) : Int)) ∧ Below w.heap.size w w' := by
  refine (callsIn_wide (n := 9)).1 ?_
  refine callsIn_of_wp_marks Try.func53 rfl trivial ?_ rfl
  simp only [Try.ntmps53, List.size_toArray, List.length_cons, List.length_nil, Nat.reduceAdd, Nat.reduceSub, Array.replicate_succ, Array.replicate_zero, List.push_toArray, List.append_toArray, List.nil_append, List.cons_append]
  gi_wp2_with (first | (refine ⟨trivial, ?_⟩; gi_at_call 64; refine (callsIn_wide.2 (all_any n _ h2)).mono ?_; rintro e W1 ⟨rfl, hb1⟩) | (refine ⟨trivial, ?_⟩; gi_at_call 65; refine (callsIn_wide.2 (places_any _ _)).mono ?_; rintro e w' ⟨rfl, rfl⟩))
  have bR0 := (Boxed.new w 42 (.int .i64 (n:Int))).alloc (.cells #[.int .i64 0] 45)
  have bT0 := Boxed.new (w.alloc (.cells #[.int .i64 (n:Int)] 42)) 45 (.int .i64 0)
  simp only [World.size_alloc] at bT0
  have hA0 : Below w.heap.size w ((w.alloc (.cells #[.int .i64 (n:Int)] 42)).alloc (.cells #[.int .i64 0] 45)) := (((Below.refl _ w).alloc (Nat.le_refl _) _).alloc (by simp) _)
  have hz0 : ((w.alloc (.cells #[.int .i64 (n:Int)] 42)).alloc (.cells #[.int .i64 0] 45)).heap.size = w.heap.size + 2 := by simp
  obtain ⟨A0, hA⟩ : ∃ A0, ((w.alloc (.cells #[.int .i64 (n:Int)] 42)).alloc (.cells #[.int .i64 0] 45)) = A0 := ⟨_, rfl⟩
  rw [hA] at hb1 hA0 hz0 bR0 bT0
  clear hA
  have hz1 := hb1.size
  have bR := (boxed_below bR0 bR0.lt hb1).alloc (.cells #[.int .i64 ((2 ^ n - 1 : Nat) : Int)] 45)
  have bT := (boxed_below bT0 bT0.lt hb1).alloc (.cells #[.int .i64 ((2 ^ n - 1 : Nat) : Int)] 45)
  have bP := Boxed.new W1 45 (.int .i64 ((2 ^ n - 1 : Nat) : Int))
  have hB0 : Below w.heap.size w (W1.alloc (.cells #[.int .i64 ((2 ^ n - 1 : Nat) : Int)] 45)) := (hA0.trans (hb1.mono (by omega))).alloc (by omega) _
  have hsz : (W1.alloc (.cells #[.int .i64 ((2 ^ n - 1 : Nat) : Int)] 45)).heap.size = W1.heap.size + 1 := by simp
  obtain ⟨W0, hW0⟩ : ∃ W0, W1.alloc (.cells #[.int .i64 ((2 ^ n - 1 : Nat) : Int)] 45) = W0 := ⟨_, rfl⟩
  rw [hW0] at bR bT bP hB0 hsz ⊢
  clear hW0
  refine wpIn_rangeFunc_ownF rfl (by omega) (gf := 72) (lb := #[.pointer (some ⟨W1.heap.size, 0, none⟩)]) rfl trivial (enters_of Try.func72 (by kernel_rfl) rfl)
    (places_stops 8 (by omega) W1.heap.size w.heap.size n (2 ^ n - 1) (by have := Nat.two_pow_pos n; omega) h2 W0 bP) KB.trans (KB.put (by omega)) (Below.refl _ _) (fun _ => rfl)
    (fun pre W => (Boxed W (w.heap.size) 42 (.int .i64 (n:Int)) ∧ Boxed W (w.heap.size + 1) 45 (.int .i64 ((fold (unitS n) 0 (vals pre) : Nat) : Int))) ∧ Below w.heap.size w W)
    (fun _ _ _ => False)
    (OwnFrom.and (OwnFrom.and (Own.from (boxed_own _ _ _) _) (Own.from (boxed_own _ _ _) _)) (ownFrom_below (Nat.le_refl _) (by omega)))
    (fun _ _ _ _ _ hs _ _ => hs)
    ⟨⟨bR, bT⟩, hB0⟩
    (fun x => { tmps := #[.agg #[.int .i64 (n:Int)], .pointer (some ⟨w.heap.size, 0, none⟩), .int .i64 0, .pointer (some ⟨w.heap.size + 1, 0, none⟩), .int .i64 (x.val : Int), .agg #[.int .i64 (n:Int)], .int .i64 ((2 ^ n - 1 : Nat) : Int), .func (.func 72) #[] #[.pointer (some ⟨W1.heap.size, 0, none⟩)], .int .i64 (x.val : Int), undef, undef, undef, undef, undef, undef, undef, undef, undef], defers := [] }) ?assign ?body ?done ?stop
  case assign =>
    intro l x W K hK
    gi_wp2
    exact hK
  case body =>
    rintro l pre x W ⟨⟨bR1, bT1⟩, hB1⟩ _
    have cR := bR1.cell
    have cT := bT1.cell
    have hx := x.isLt
    have ho := fold_lt (unitS n) n (2 ^ n) 0 (Nat.two_pow_pos n) (unitS_lt n) pre
    have hp := pow_le n h2
    have hsW := hB1.size
    have lR := bR1.lt
    have lT := bT1.lt
    have HS := Lib.hid (fold_snoc (unitS n) 0 pre x)
    have Hwith := Lib.hid (fun W => with_any (fold (unitS n) 0 (vals pre)) x.val W (by omega) (by omega))
    have hgcd := fun W => gcd_any x.val n W (by omega) (by omega)
    by_cases hg : Nat.gcd x.val n = 1
    · rw [hg] at hgcd
      have HU := Lib.hid (show unitS n x.val (fold (unitS n) 0 (vals pre)) = fold (unitS n) 0 (vals pre) ||| 2 ^ x.val from by simp [unitS, hg])
      have Hgcd := Lib.hid hgcd
      clear hgcd hg
      gi_wp2_with (first | (refine ⟨trivial, ?_⟩; gi_at_call 70; refine (CallsIn.inRound l (callsIn_wide.2 (Hgcd.out _))).mono ?_; rintro e W2 ⟨rfl, hb2⟩; have bT2 := boxed_below bT1 lT hb2; have cT2 := bT2.cell; have fT2 := bT2.frozen) | (refine ⟨trivial, ?_⟩; gi_at_call 67; refine (CallsIn.inRound l (callsIn_wide.2 (Hwith.out _))).mono ?_; rintro e W3 ⟨rfl, rfl⟩))
      exact ⟨(others_below hb2).trans (KeepsOthers.setCell _ _ _),
        (KB.call (KB.refl _ _ W) hsW hb2).setCell (p := w.heap.size + 1) (by omega) (by omega) _,
        ⟨(boxed_below bR1 lR hb2).other (by omega) _, by rw [HS.out, HU.out]; exact bT2.set _⟩,
        (hB1.trans (hb2.mono hsW)).setCell (p := ⟨w.heap.size + 1, 0, none⟩) (by simp) _⟩
    · have HU := Lib.hid (show unitS n x.val (fold (unitS n) 0 (vals pre)) = fold (unitS n) 0 (vals pre) from by simp [unitS, hg])
      generalize Nat.gcd x.val n = g at hgcd hg
      have hq : (((g : Int)) == 1) = false := by simp; omega
      have Hgcd := Lib.hid hgcd
      clear hgcd
      gi_wp2_with (refine ⟨trivial, ?_⟩; gi_at_call 70; refine (CallsIn.inRound l (callsIn_wide.2 (Hgcd.out _))).mono ?_; rintro e W2 ⟨rfl, hb2⟩)
      exact ⟨others_below hb2, KB.call (KB.refl _ _ W) hsW hb2, ⟨boxed_below bR1 lR hb2, by rw [HS.out, HU.out]; exact boxed_below bT1 lT hb2⟩, hB1.trans (hb2.mono hsW)⟩
  case done =>
    rintro D ys W hD rfl ⟨⟨_, bT1⟩, hB⟩ hK
    have cT := bT1.cell
    rw [fold_come] at cT
    gi_wp2
    refine ⟨by simp, .inl ⟨_, _, rfl, run_takeDeferred hK, ?_⟩⟩
    exact ⟨_, results_tmp rfl _ _ _, rfl, hB.trans (belowK_b (w := w) (Nat.le_refl _) W D _ _ (by omega) hK rfl rfl)⟩
  case stop =>
    rintro D c pre W _ _ h _
    exact h.elim
end Go.Proofs.Ythccchelemnnfaa
