/- Steps and a number of arcs; full sets and lengths of rounds: the program. -/
import Derived.Test.YtookciehnjnmnaaArrD
import Derived.Test.YtookciehnjnmnaaWalkC
namespace Go.Proofs.Ytookciehnjnmnaa
open Go.RowKit Go.Shelf
set_option linter.unusedVariables false
attribute [local go_sem] Oper.semAt_some
theorem duo_frozen {W : World} {B : Nat} {t : TypeId} {u v : Value} (h : Duo W B t u v) (i : Nat) : W.frozen? ⟨B, i, none⟩ = false := by
  have h' : W.heap[B]? = some (.cells #[u, v] t (0, 0)) := h
  simp [World.frozen?, h']
theorem wso_yes (n s k most : Nat) (w : World) (h1 : 1 ≤ n) (h2 : n ≤ 12) (hs : s < 2 ^ n) (h0 : s.testBit 0 = false) (hk : k ≤ most) (hm : most ≤ 1000) :
    Calls Try.prog 48 #[.int .i64 (n:Int), .int .i64 (s:Int), .int .i64 (k:Int), .int .i64 (most:Int)] w fun e w' => e = .returned (.tuple #[.agg #[.int .i64 (n:Int), .int .i64 (s:Int)], .bool true]) ∧ Below w.heap.size w w' := by
  have hO := stepsOf_yes n s (w.alloc (.cells #[.int .i64 0, .int .i64 0] 41)) h1 h2 hs h0
  simp only [World.size_alloc] at hO
  have HO := Lib.hid hO
  clear hO
  have k1 : ¬ (k : Int) < 0 := by omega
  have k2 : ¬ (most : Int) < (k : Int) := by omega
  have k3 : decide ((k : Int) < 0) = false := decide_eq_false k1
  have k4 : decide ((most : Int) < (k : Int)) = false := decide_eq_false k2
  go_enter Try.func48, Try.ntmps48
  go_wp2_with fail
  refine HO.out.mono ?_
  rintro e w1 ⟨rfl, hb⟩
  have hR := (Duo.new w 41 (.int .i64 0) (.int .i64 0)).same (hb.block _ (by simp))
  have hB : Below w.heap.size w w1 := ((Below.refl _ _).alloc (Nat.le_refl _) _).trans (hb.mono (by simp))
  have hz : w.heap.size + 1 ≤ w1.heap.size := by have := hb.size; simpa using this
  have hlt : w.heap.size < w1.heap.size := by omega
  have c0 := hR.cell0
  have c1 := hR.cell1
  have g0 := duo_frozen hR 0
  have g1 := duo_frozen hR 1
  clear hb
  go_wp2
  refine bodyPost_ret (v := .tuple #[.agg #[.int .i64 (n:Int), .int .i64 (s:Int)], .bool true]) ?_ rfl ⟨rfl, ?_⟩
  · simp [results, Try.results48, go_sem, c0, c1, hlt]
  · exact ((hB.setCell (p := ⟨w.heap.size, 0, none⟩) (Nat.le_refl _) _).setCell (p := ⟨w.heap.size, 1, none⟩) (Nat.le_refl _) _).alloc (by simp; omega) _
theorem wso_no (n s k most : Int) (w : World) (h : NoStep n s) :
    Calls Try.prog 48 #[.int .i64 n, .int .i64 s, .int .i64 k, .int .i64 most] w fun e w' => e = .returned (.tuple #[.agg #[.int .i64 0, .int .i64 0], .bool false]) ∧ Below w.heap.size w w' := by
  have hO := stepsOf_no n s (w.alloc (.cells #[.int .i64 0, .int .i64 0] 41)) h
  simp only [World.size_alloc] at hO
  have HO := Lib.hid hO
  clear hO
  clear h
  go_enter Try.func48, Try.ntmps48
  go_wp2_with fail
  refine HO.out.mono ?_
  rintro e w1 ⟨rfl, hb⟩
  have hR := (Duo.new w 41 (.int .i64 0) (.int .i64 0)).same (hb.block _ (by simp))
  have hB : Below w.heap.size w w1 := ((Below.refl _ _).alloc (Nat.le_refl _) _).trans (hb.mono (by simp))
  have hz : w.heap.size + 1 ≤ w1.heap.size := by have := hb.size; simpa using this
  have hlt : w.heap.size < w1.heap.size := by omega
  have c0 := hR.cell0
  have c1 := hR.cell1
  have g0 := duo_frozen hR 0
  have g1 := duo_frozen hR 1
  clear hb
  go_wp2
  refine bodyPost_ret (v := .tuple #[.agg #[.int .i64 0, .int .i64 0], .bool false]) ?_ rfl ⟨rfl, ?_⟩
  · simp [results, Try.results48, go_sem, c0, c1, hlt]
  · exact ((hB.setCell (p := ⟨w.heap.size, 0, none⟩) (Nat.le_refl _) _).setCell (p := ⟨w.heap.size, 1, none⟩) (Nat.le_refl _) _).alloc (by simp; omega) _
theorem wso_low (n s : Nat) (k most : Int) (w : World) (h1 : 1 ≤ n) (h2 : n ≤ 12) (hs : s < 2 ^ n) (h0 : s.testBit 0 = false) (hk : k < 0) :
    Calls Try.prog 48 #[.int .i64 (n:Int), .int .i64 (s:Int), .int .i64 k, .int .i64 most] w fun e w' => e = .returned (.tuple #[.agg #[.int .i64 0, .int .i64 0], .bool false]) ∧ Below w.heap.size w w' := by
  have hO := stepsOf_yes n s (w.alloc (.cells #[.int .i64 0, .int .i64 0] 41)) h1 h2 hs h0
  simp only [World.size_alloc] at hO
  have HO := Lib.hid hO
  clear hO
  have k3 : decide (k < 0) = true := decide_eq_true hk
  go_enter Try.func48, Try.ntmps48
  go_wp2_with fail
  refine HO.out.mono ?_
  rintro e w1 ⟨rfl, hb⟩
  have hR := (Duo.new w 41 (.int .i64 0) (.int .i64 0)).same (hb.block _ (by simp))
  have hB : Below w.heap.size w w1 := ((Below.refl _ _).alloc (Nat.le_refl _) _).trans (hb.mono (by simp))
  have hz : w.heap.size + 1 ≤ w1.heap.size := by have := hb.size; simpa using this
  have hlt : w.heap.size < w1.heap.size := by omega
  have c0 := hR.cell0
  have c1 := hR.cell1
  have g0 := duo_frozen hR 0
  have g1 := duo_frozen hR 1
  clear hb
  go_wp2
  refine bodyPost_ret (v := .tuple #[.agg #[.int .i64 0, .int .i64 0], .bool false]) ?_ rfl ⟨rfl, ?_⟩
  · simp [results, Try.results48, go_sem, c0, c1, hlt]
  · exact ((hB.setCell (p := ⟨w.heap.size, 0, none⟩) (Nat.le_refl _) _).setCell (p := ⟨w.heap.size, 1, none⟩) (Nat.le_refl _) _).alloc (by simp; omega) _
theorem wso_high (n s : Nat) (k most : Int) (w : World) (h1 : 1 ≤ n) (h2 : n ≤ 12) (hs : s < 2 ^ n) (h0 : s.testBit 0 = false) (hk0 : ¬ k < 0) (hk : most < k) :
    Calls Try.prog 48 #[.int .i64 (n:Int), .int .i64 (s:Int), .int .i64 k, .int .i64 most] w fun e w' => e = .returned (.tuple #[.agg #[.int .i64 0, .int .i64 0], .bool false]) ∧ Below w.heap.size w w' := by
  have hO := stepsOf_yes n s (w.alloc (.cells #[.int .i64 0, .int .i64 0] 41)) h1 h2 hs h0
  simp only [World.size_alloc] at hO
  have HO := Lib.hid hO
  clear hO
  have k3 : decide (k < 0) = false := decide_eq_false hk0
  have k4 : decide (most < k) = true := decide_eq_true hk
  go_enter Try.func48, Try.ntmps48
  go_wp2_with fail
  refine HO.out.mono ?_
  rintro e w1 ⟨rfl, hb⟩
  have hR := (Duo.new w 41 (.int .i64 0) (.int .i64 0)).same (hb.block _ (by simp))
  have hB : Below w.heap.size w w1 := ((Below.refl _ _).alloc (Nat.le_refl _) _).trans (hb.mono (by simp))
  have hz : w.heap.size + 1 ≤ w1.heap.size := by have := hb.size; simpa using this
  have hlt : w.heap.size < w1.heap.size := by omega
  have c0 := hR.cell0
  have c1 := hR.cell1
  have g0 := duo_frozen hR 0
  have g1 := duo_frozen hR 1
  clear hb
  go_wp2
  refine bodyPost_ret (v := .tuple #[.agg #[.int .i64 0, .int .i64 0], .bool false]) ?_ rfl ⟨rfl, ?_⟩
  · simp [results, Try.results48, go_sem, c0, c1, hlt]
  · exact ((hB.setCell (p := ⟨w.heap.size, 0, none⟩) (Nat.le_refl _) _).setCell (p := ⟨w.heap.size, 1, none⟩) (Nat.le_refl _) _).alloc (by simp; omega) _
/-- 1 at what has come. -/
def oneP (pre : List Nat) (x : Nat) : Nat := if 0 < pre.count x then 1 else 0
theorem oneP_snoc {r : Nat} (pre : List (Fin r)) (y : Fin r) (x : Nat) : oneP (vals (pre ++ [y])) x = if x = y.val then 1 else oneP (vals pre) x := by
  unfold oneP
  rw [count_snoc]
  by_cases e : x = y.val
  · simp [e]
  · simp [e]
/-- 1 at all places of a ring of n. -/
def allP (n x : Nat) : Nat := if x < n then 1 else 0
theorem oneP_end (n x : Nat) : oneP (vals (comeTo n (2 ^ n - 1) n)) x = allP n x := by
  unfold oneP allP
  rw [count_come n _ n x (Nat.le_refl n), Nat.testBit_two_pow_sub_one]
  by_cases c : x < n <;> simp [c]
set_option maxRecDepth 100000 in
set_option maxHeartbeats 4000000 in
theorem allMarked_any (n : Nat) (w : World) (h1 : 1 ≤ n) (h2 : n ≤ 12) :
    Calls Try.prog 65 #[.agg #[.int .i64 (n:Int)]] w fun e w' => e = .returned (.agg (arrC (allP n))) ∧ Below w.heap.size w w' := by
  have HAll := Lib.hid (fun W => all_any n W h2)
  refine (callsIn_wide (n := 12)).1 ?_
  refine callsIn_of_wp_marks Try.func65 rfl trivial ?_ rfl
  simp only [Try.ntmps65, List.size_toArray, List.length_cons, List.length_nil, Nat.reduceAdd, Nat.reduceSub, Array.replicate_succ, Array.replicate_zero, List.push_toArray, List.append_toArray, List.nil_append, List.cons_append]
  have hR := (Arr.new (w.alloc (.cells #[.int .i64 (n:Int)] 38)) 58 (fun _ => 0)).alloc (.cells (arrC fun _ => 0) 58)
  have hT := Arr.new ((w.alloc (.cells #[.int .i64 (n:Int)] 38)).alloc (.cells (arrC fun _ => 0) 58)) 58 (fun _ => 0)
  have hB : Below w.heap.size w (((w.alloc (.cells #[.int .i64 (n:Int)] 38)).alloc (.cells (arrC fun _ => 0) 58)).alloc (.cells (arrC fun _ => 0) 58)) := (((Below.refl _ _).alloc (Nat.le_refl _) _).alloc (by simp) _).alloc (by simp; omega) _
  simp only [World.size_alloc] at hR hT
  rw [← zero_arr] at hR hT hB
  have HR := Lib.hid hR
  have HT := Lib.hid hT
  have HB := Lib.hid hB
  clear hR hT hB
  gi_wp2_with (first
    | (refine ⟨trivial, ?_⟩; gi_at_call 67; refine (callsIn_wide.2 (HAll.out _)).mono ?_; rintro e w1 ⟨rfl, hb1⟩)
    | (refine ⟨trivial, ?_⟩; gi_at_call 66; refine (callsIn_wide.2 (places_any _ _)).mono ?_; rintro e w' ⟨rfl, rfl⟩))
  have z1 := hb1.size
  rw [World.size_alloc, World.size_alloc, World.size_alloc] at z1
  have bR := (HR.out.below HR.out.lt hb1).alloc (.cells #[.int .i64 ((2 ^ n - 1 : Nat) : Int)] 39)
  have bT := (HT.out.below HT.out.lt hb1).alloc (.cells #[.int .i64 ((2 ^ n - 1 : Nat) : Int)] 39)
  have bB := (HB.out.trans (hb1.mono HB.out.size)).alloc (by omega) (.cells #[.int .i64 ((2 ^ n - 1 : Nat) : Int)] 39)
  have bP := Boxed.new w1 39 (.int .i64 ((2 ^ n - 1 : Nat) : Int))
  have hsz : (w1.alloc (.cells #[.int .i64 ((2 ^ n - 1 : Nat) : Int)] 39)).heap.size = w1.heap.size + 1 := by simp
  have hL : 2 ^ n - 1 < 2 ^ n := by have := Nat.two_pow_pos n; omega
  obtain ⟨W9, hW9⟩ : ∃ W9, w1.alloc (.cells #[.int .i64 ((2 ^ n - 1 : Nat) : Int)] 39) = W9 := ⟨_, rfl⟩
  rw [hW9] at bR bT bB bP hsz ⊢
  have HEnd := Lib.hid (fun x => oneP_end n x)
  obtain ⟨L, hLe⟩ : ∃ L, 2 ^ n - 1 = L := ⟨_, rfl⟩
  rw [hLe] at bP hL HEnd ⊢
  clear hW9 hb1 HR HT HB HAll hLe
  refine wpIn_rangeFunc_ownG rfl (by omega) (gf := 78) (lb := #[.pointer (some ⟨w1.heap.size, 0, none⟩)]) rfl trivial (enters_of Try.func78 (by kernel_rfl) rfl)
    (places_stops 11 (by omega) w1.heap.size w.heap.size n L hL h2 W9 bP) KB.trans (KB.put (by omega)) (Below.refl _ _) (fun _ => rfl)
    (fun pre W => (Arr W (w.heap.size + 1) 58 (fun _ => 0) ∧ Arr W (w.heap.size + 1 + 1) 58 (oneP (vals pre))) ∧ Below w.heap.size w W)
    (fun _ _ _ => False)
    (OwnFrom.and (OwnFrom.and (Own.from (arr_own _ _ (fun _ _ => 0)) _) (Own.from (arr_own _ _ (fun pre => oneP (vals pre))) _)) (ownFrom_below (Nat.le_refl _) (by omega)))
    (fun _ _ _ _ _ hs _ _ => hs)
    ⟨⟨bR, bT.congr (fun x _ => by simp [oneP, vals])⟩, bB⟩
    (fun x => { tmps := #[.agg #[.int .i64 (n:Int)], .pointer (some ⟨w.heap.size, 0, none⟩), .pointer (some ⟨w.heap.size + 1, 0, none⟩), .pointer (some ⟨w.heap.size + 1 + 1, 0, none⟩), .int .i64 (x.val : Int), .agg #[.int .i64 (n:Int)], .int .i64 (L:Int), .func (.func 78) #[] #[.pointer (some ⟨w1.heap.size, 0, none⟩)], .int .i64 (x.val : Int), undef, undef, undef], defers := [] }) ?assign ?body ?done ?stop
  case assign =>
    intro l x W K hK
    gi_wp2
    exact hK
  case body =>
    rintro l pre x W ⟨⟨bR1, bT1⟩, bB1⟩ hlen
    have hx := x.isLt
    have T0 : w.heap.size + 1 + 1 < W.heap.size := bT1.lt
    obtain ⟨oT, hoT, hcT⟩ := bT1.obj
    have hc := bT1.cell x.val (by omega)
    have hfz := bT1.frozen x.val
    have i1 : (0 : Int) ≤ (x.val : Int) := by omega
    have i2 : (x.val : Int) < 12 := by omega
    have hT2 := (bT1.set x.val 1 (by omega)).congr (g := oneP (vals (pre ++ [x]))) (fun y _ => (oneP_snoc pre x y).symm)
    have hA2 : Aside (w.heap.size + 1 + 1) W (W.setCell ⟨w.heap.size + 1 + 1, x.val, none⟩ (.int .i64 1)) := (Aside.refl _ W).setAt x.val _
    have HT2 := Lib.hid hT2
    have HA2 := Lib.hid hA2
    have HR1 := Lib.hid bR1
    have HB1 := Lib.hid bB1
    have zB := bB1.size
    clear hT2 hA2 bR1 bT1 bB1
    gi_wp2
    have hKo := HA2.out.others' hoT hcT
    exact ⟨hKo.from _, HA2.out.kb (by omega) (by omega) zB, ⟨HA2.out.arr HR1.out (by omega), HT2.out⟩, HB1.out.trans (HA2.out.below (by omega) zB)⟩
  case done =>
    rintro D ys W hD rfl ⟨⟨bR1, bT1⟩, bB1⟩ hK
    have HT1 := Lib.hid (bT1.congr (fun x _ => HEnd.out x))
    have HR1 := Lib.hid bR1
    have HB1 := Lib.hid bB1
    have hRr := HR1.out.row (allP n)
    have HM1 : Hid (Marks w.heap.size (W.setRow (w.heap.size + 1) (arrC (allP n))) [{ target := .collected D, args := #[] }]) := Lib.hid (.cons D [] ((setRow_other _ _ _ _ (fun e => by
      have h : W.heap[w.heap.size + 1]? = _ := bR1
      rw [← e, hK] at h
      cases h)).trans hK) (by have := bB.size; omega) (fun d hd => by cases hd) .nil)
    clear bR1 bT1 bB1
    gi_wp2_with (first
      | (refine wpListIn_loadArr _ rfl _ rfl (w.heap.size + 1 + 1) 58 (allP n) rfl HT1.out ?_)
      | (refine wpListIn_storeArr _ rfl _ _ rfl (w.heap.size + 1) 58 _ (allP n) rfl rfl HR1.out ?_))
    refine leaves_marks (N := w.heap.size) (fun W => Arr W (w.heap.size + 1) 58 (allP n) ∧ Below w.heap.size w W) ?_ ?_ _ _ HM1.out ⟨hRr, row_below HB1.out (by omega) _⟩
    · rintro W D ⟨g1, g2⟩ hD hN
      have hD' : W.heap[D]? = some (.deferred (some [])) := hD
      have n1 : w.heap.size + 1 ≠ D := fun e => by
        have g1' : W.heap[w.heap.size + 1]? = some _ := g1
        rw [e, hD'] at g1'
        cases g1'
      exact ⟨g1.kept (grownBy_putObj' W D _) (fun e => n1 (by cases e; rfl)), belowK_b (w := w) (Nat.le_refl _) W D _ (.deferred none) hN hD' rfl rfl |> fun h => g2.trans h⟩
    · rintro W ⟨g1, g2⟩
      have hl := g1.loadVar
      refine ⟨.agg (arrC (allP n)), ?_, rfl, g2⟩
      rw [results_cell1 rfl]
      simp [asAddr, Result.andThen, hl, Act.put]
  case stop =>
    rintro D c pre W _ _ h _
    exact h.elim
end Go.Proofs.Ytookciehnjnmnaa
