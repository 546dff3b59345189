/- Whether places can be given two colours: the program. -/
import Derived.Test.YtfjcdcjhdjkjaaaGC
namespace Go.Proofs.Ytfjcdcjhdjkjaaa
open Go.RowKit Go.Shelf
set_option linter.unusedVariables false
attribute [local go_sem] Oper.semAt_some
theorem quo_nat (a b : Nat) (ha : a < 2 ^ 40) : wrap64 ((a : Int) / (b : Int)) = ((a / b : Nat) : Int) := by
  have h : (a : Int) / (b : Int) = ((a / b : Nat) : Int) := (Int.natCast_ediv a b).symm
  have hd : a / b ≤ a := Nat.div_le_self a b
  rw [h]
  generalize a / b = q at hd
  exact IntWalk.wrap64_in _ (by omega)
theorem rem2_nat (a : Nat) : (a : Int).tmod 2 = ((a % 2 : Nat) : Int) := (Int.ofNat_tmod a 2).symm
set_option maxRecDepth 100000 in
set_option maxHeartbeats 4000000 in
theorem halves_any (n s : Nat) (w : World) (h1 : 1 ≤ n) (h2 : n ≤ 12) (hs : s < 2 ^ n) :
    Calls Try.prog 59 #[.agg #[.int .i64 (n:Int), .int .i64 (s:Int)]] w fun e w' => e = .returned (.bool (halvesN n s)) ∧ Below w.heap.size w w' := by
  have hno := halves_not n s
  have hal := halves_all n s
  obtain ⟨hg1, hg2⟩ := partsN_pos n s h1
  have HP := Lib.hid (fun W => parts_any n s W h1 h2 hs)
  generalize partsN n s = g at *
  have HNO := Lib.hid hno
  have HAL := Lib.hid hal
  clear hno hal
  refine (callsIn_wide (n := 9)).1 ?_
  refine callsIn_of_wp_marks Try.func59 rfl trivial ?_ rfl
  simp only [Try.ntmps59, List.size_toArray, List.length_cons, List.length_nil, Nat.reduceAdd, Nat.reduceSub, Array.replicate_succ, Array.replicate_zero, List.push_toArray, List.append_toArray, List.nil_append, List.cons_append]
  have bR0 := (Duo.new w 43 (.int .i64 (n:Int)) (.int .i64 (s:Int))).alloc (.cells #[.bool false] 4)
  have bM0 := Boxed.new (w.alloc (.cells #[.int .i64 (n:Int), .int .i64 (s:Int)] 43)) 4 (.bool false)
  simp only [World.size_alloc] at bM0
  have hA0 : Below w.heap.size w ((w.alloc (.cells #[.int .i64 (n:Int), .int .i64 (s:Int)] 43)).alloc (.cells #[.bool false] 4)) := (((Below.refl _ w).alloc (Nat.le_refl _) _).alloc (by simp) _)
  have hz0 : ((w.alloc (.cells #[.int .i64 (n:Int), .int .i64 (s:Int)] 43)).alloc (.cells #[.bool false] 4)).heap.size = w.heap.size + 2 := by simp
  gi_wp2_with (first | (refine ⟨trivial, ?_⟩; gi_at_call 82; refine (callsIn_wide.2 (HP.out _)).mono ?_; rintro e W1 ⟨rfl, hb1⟩; have bR1 := duo_below bR0 bR0.lt hb1; have bM1 := boxed_below bM0 bM0.lt hb1; have cR := bR1.cell0; have dR := bR1.cell1; have hz1 := hb1.size; have hlt : w.heap.size < W1.heap.size := by omega) | (refine ⟨trivial, ?_⟩; gi_at_call 83; refine (callsIn_wide.2 (places_any _ _)).mono ?_; rintro e w' ⟨rfl, rfl⟩))
  have hB1 : Below w.heap.size w W1 := hA0.trans (hb1.mono (by omega))
  have bR := (bR1.alloc (.cells #[.int .i64 (g:Int)] 3)).alloc (.cells #[.int .i64 (s:Int)] 41)
  have bM := (bM1.alloc (.cells #[.int .i64 (g:Int)] 3)).alloc (.cells #[.int .i64 (s:Int)] 41)
  have bT := (Boxed.new W1 3 (.int .i64 (g:Int))).alloc (.cells #[.int .i64 (s:Int)] 41)
  have bP := Boxed.new (W1.alloc (.cells #[.int .i64 (g:Int)] 3)) 41 (.int .i64 (s:Int))
  simp only [World.size_alloc] at bP
  have hB0 : Below w.heap.size w ((W1.alloc (.cells #[.int .i64 (g:Int)] 3)).alloc (.cells #[.int .i64 (s:Int)] 41)) := (hB1.alloc (by omega) _).alloc (by simp; omega) _
  have hsz : ((W1.alloc (.cells #[.int .i64 (g:Int)] 3)).alloc (.cells #[.int .i64 (s:Int)] 41)).heap.size = W1.heap.size + 2 := by simp
  obtain ⟨W0, hW0⟩ : ∃ W0, ((W1.alloc (.cells #[.int .i64 (g:Int)] 3)).alloc (.cells #[.int .i64 (s:Int)] 41)) = W0 := ⟨_, rfl⟩
  rw [hW0] at bR bM bT bP hB0 hsz ⊢
  clear hW0 bR0 bM0 bR1 bM1 cR dR hA0 hz0 hb1 hB1
  refine wpIn_rangeFunc_ownF rfl (by omega) (gf := 92) (lb := #[.pointer (some ⟨W1.heap.size + 1, 0, none⟩)]) rfl trivial (enters_of Try.func92 (by kernel_rfl) rfl)
    (places_stops 8 (by omega) (W1.heap.size + 1) w.heap.size n s hs h2 W0 bP) KB.trans (KB.put (by omega)) (Below.refl _ _) (fun _ => rfl)
    (fun pre W => (((Duo W w.heap.size 43 (.int .i64 (n:Int)) (.int .i64 (s:Int)) ∧ Boxed W (w.heap.size + 1) 4 (.bool false)) ∧ Boxed W W1.heap.size 3 (.int .i64 (g:Int))) ∧ Below w.heap.size w W) ∧ (∀ x, x ∈ pre → ¬ (x.val / g % 2 = 0 ∨ n / g % 2 = 1)))
    (fun c pre W => (c = Code.ret ∧ ∃ x, x ∈ pre ∧ (x.val / g % 2 = 0 ∨ n / g % 2 = 1)) ∧ (Boxed W (w.heap.size + 1) 4 (.bool false) ∧ Below w.heap.size w W))
    (OwnFrom.and (OwnFrom.and (OwnFrom.and (OwnFrom.and (Own.from (duo_own _ _ _ _) _) (Own.from (boxed_own _ _ _) _)) (Own.from (boxed_own _ _ _) _)) (ownFrom_below (Nat.le_refl _) (by omega))) (ownFrom_pure _ _))
    (fun c => OwnFrom.and (ownFrom_pure _ _) (OwnFrom.and (Own.from (boxed_own _ _ _) _) (ownFrom_below (Nat.le_refl _) (by omega))))
    ⟨⟨⟨⟨bR, bM⟩, bT⟩, hB0⟩, fun x hx => by simp at hx⟩
    (fun x => { tmps := #[.agg #[.int .i64 (n:Int), .int .i64 (s:Int)], .pointer (some ⟨w.heap.size, 0, none⟩), .pointer (some ⟨w.heap.size + 1, 0, none⟩), .pointer (some ⟨W1.heap.size, 0, none⟩), .int .i64 (x.val : Int), .agg #[.int .i64 (n:Int), .int .i64 (s:Int)], .int .i64 (g:Int), .pointer (some ⟨w.heap.size, 1, none⟩), .int .i64 (s:Int), .func (.func 92) #[] #[.pointer (some ⟨W1.heap.size + 1, 0, none⟩)], .int .i64 (x.val : Int), undef, undef, undef, undef, undef, undef, undef, undef, undef, undef, undef, undef, undef, undef], defers := [] }) ?assign ?body ?done ?stop
  case assign =>
    intro l x W K hK
    gi_wp2
    exact hK
  case body =>
    rintro l pre x W ⟨⟨⟨⟨bR1, bM1⟩, bT1⟩, hB1⟩, hok⟩ _
    have cR := bR1.cell0
    have cM := bM1.cell
    have fM := bM1.frozen
    have cT := bT1.cell
    have hx := x.isLt
    have hsW := hB1.size
    have hgz : ((g : Int) = 0) = False := by simp; omega
    have hgz2 : ((g : Int) == 0) = false := by simp; omega
    have q1 := quo_nat x.val g (by omega)
    have q2 := quo_nat n g (by omega)
    have HOK := Lib.hid hok
    have hK1 : Hid ((x.val / g % 2 = 0 ∨ n / g % 2 = 1) → ∃ y, y ∈ pre ++ [x] ∧ (y.val / g % 2 = 0 ∨ n / g % 2 = 1)) := Lib.hid (fun h => ⟨x, by simp, h⟩)
    have hK2 : Hid (¬ (x.val / g % 2 = 0 ∨ n / g % 2 = 1) → ∀ y, y ∈ pre ++ [x] → ¬ (y.val / g % 2 = 0 ∨ n / g % 2 = 1)) := Lib.hid (fun h y hy => by
      rcases List.mem_append.1 hy with hy | hy
      · exact hok y hy
      · rw [List.mem_singleton.1 hy]; exact h)
    clear hok
    obtain ⟨a, ha⟩ : ∃ a, x.val / g = a := ⟨_, rfl⟩
    obtain ⟨b, hb⟩ : ∃ b, n / g = b := ⟨_, rfl⟩
    have HA := Lib.hid ha
    have HB := Lib.hid hb
    rw [ha] at q1
    rw [hb] at q2
    clear ha hb
    have r1 := rem2_nat a
    have r2 := rem2_nat b
    rcases Nat.mod_two_eq_zero_or_one a with h3 | h3
    · rw [h3] at r1
      have H3 := Lib.hid h3
      clear h3 r2
      gi_wp2
      exact ⟨KeepsOthers.setCell _ _ _, ⟨rfl, hK1.out (.inl (by rw [HA.out]; exact H3.out))⟩, bM1.set _, hB1.setCell (p := ⟨w.heap.size + 1, 0, none⟩) (by simp) _⟩
    · rw [h3] at r1
      rcases Nat.mod_two_eq_zero_or_one b with h4 | h4
      · rw [h4] at r2
        have H3 := Lib.hid h3
        have H4 := Lib.hid h4
        clear h3 h4
        gi_wp2
        exact ⟨others_below (Below.refl _ _), KB.refl _ _ W, ⟨⟨⟨bR1, bM1⟩, bT1⟩, hB1⟩, hK2.out (by rw [HA.out, HB.out, H3.out, H4.out]; omega)⟩
      · rw [h4] at r2
        have H4 := Lib.hid h4
        clear h3 h4
        gi_wp2
        exact ⟨KeepsOthers.setCell _ _ _, ⟨rfl, hK1.out (.inr (by rw [HB.out]; exact H4.out))⟩, bM1.set _, hB1.setCell (p := ⟨w.heap.size + 1, 0, none⟩) (by simp) _⟩
  case done =>
    rintro D ys W hD rfl ⟨⟨⟨⟨_, bM1⟩, _⟩, hB⟩, hok⟩ hK
    have cM := bM1.cell
    have fM := bM1.frozen
    have hKs : (W.setCell ⟨w.heap.size + 1, 0, none⟩ (.bool true)).heap[D]? = some (.deferred (some [])) := (Below.heap_setCell W ⟨w.heap.size + 1, 0, none⟩ (.bool true) D (by simp; omega)).trans hK
    have HV := Lib.hid (HAL.out (fun v hv hb => hok ⟨v, hv⟩ (comeTo_has n s n ⟨v, hv⟩ hv hb)))
    gi_wp2
    refine ⟨by simp, .inl ⟨_, _, rfl, run_takeDeferred (hKs), ?_⟩⟩
    have hc5 := ((bM1.set (.bool true)).kept (grownBy_putObj' (W.setCell ⟨w.heap.size + 1, 0, none⟩ (.bool true)) D (.deferred none)) (by intro e; cases e; omega)).cell
    exact ⟨.bool true, by simp [results, Try.results59, go_sem, hc5], by rw [HV.out], (hB.setCell (p := ⟨w.heap.size + 1, 0, none⟩) (by simp) _).trans (belowK_b (w := w) (Nat.le_refl _) _ D _ _ (by omega) hKs rfl rfl)⟩
  case stop =>
    rintro D c pre W hD ⟨k, hk, hpre⟩ ⟨⟨rfl, x, hx, hbad⟩, bM1, hB⟩ hK
    have cM := bM1.cell
    rw [hpre] at hx
    have HV := Lib.hid (HNO.out x.val x.isLt (comeTo_mem n s k x hx) hbad)
    gi_wp2
    refine ⟨by simp, .inl ⟨_, _, rfl, run_takeDeferred hK, ?_⟩⟩
    have hc5 := (bM1.kept (grownBy_putObj' W D (.deferred none)) (by intro e; cases e; omega)).cell
    exact ⟨.bool false, by simp [results, Try.results59, go_sem, hc5], by rw [HV.out], hB.trans (belowK_b (w := w) (Nat.le_refl _) W D _ _ (by omega) hK rfl rfl)⟩
end Go.Proofs.Ytfjcdcjhdjkjaaa
