/- Rows, the program's side: a row out of a list, its sum, all positions, a choice without one. Written by gen108.py. -/
import Derived.Test.YtkdgbnjpjkhopaaZrpM
import Derived.Test.YtkdgbnjpjkhopaaGY
import Derived.Test.YtkdgbnjpjkhopaaGC
import Derived.Test.YtkdgbnjpjkhopaaGJ
import Derived.Test.YtkdgbnjpjkhopaaRoA
import Derived.Test.YtkdgbnjpjkhopaaGD
import Derived.Laws.Slices
import Derived.Laws.CopyOwn
import Derived.Deep.Upon
namespace Go.Proofs.Ytkdgbnjpjkhopaa
open Go.RowKit Go.Shelf
set_option linter.unusedVariables false
/-- Block g reads as a list. -/
structure Shows (W : World) (g len : Nat) (xs : List Int) : Prop where
  lt : g < W.heap.size
  size : xs.length = len
  blk : ∃ cur, W.heap[g]? = some (.cells cur 3 (0, 0))
  cell : ∀ i, i < len → W.cell? ⟨g, i, none⟩ = some (.int .i64 (xs.getD i 0))
theorem Shows.same {W W' : World} {g len : Nat} {xs : List Int} (h : Shows W g len xs) (e : W'.heap[g]? = W.heap[g]?) : Shows W' g len xs :=
  have e' := e
  ⟨by
    rw [Array.getElem?_eq_getElem h.lt] at e
    exact (Array.getElem?_eq_some_iff.1 e).1, h.size, h.blk.imp fun cur hc => e'.trans hc, fun i hi => (World.cell?_of_block (a := ⟨g, i, none⟩) e').trans (h.cell i hi)⟩
theorem Shows.belowAll {W W' : World} {g len : Nat} {xs : List Int} (h : Shows W g len xs) (hb : Below W.heap.size W W') : Shows W' g len xs := h.same (hb.block g h.lt)
theorem shows_of {W : World} {b g len cap : Nat} {xs : List Int} (h : IsInts W b (.slice (some ⟨g, 0, none⟩) len cap) xs) : Shows W g xs.length xs :=
  ⟨(World.ownsRow.lt h g rfl).2, rfl, by
    rcases h.2 with ⟨hv, _⟩ | ⟨g', cap', cur, hv, h1, hgg, _⟩
    · cases hv
    · cases hv; exact ⟨cur, hgg⟩, fun i hi => h.cell hi⟩
/-- A box of three cells. -/
def Trip (W : World) (B : Nat) (t : TypeId) (u v x : Value) : Prop := W.heap[B]? = some (.cells #[u, v, x] t (0, 0))
theorem Trip.lt {W : World} {B : Nat} {t : TypeId} {u v x : Value} (h : Trip W B t u v x) : B < W.heap.size := (Array.getElem?_eq_some_iff.1 h).1
theorem Trip.cell0 {W : World} {B : Nat} {t : TypeId} {u v x : Value} (h : Trip W B t u v x) : W.cell? ⟨B, 0, none⟩ = some u := by simp [World.cell?, show W.heap[B]? = _ from h]
theorem Trip.cell1 {W : World} {B : Nat} {t : TypeId} {u v x : Value} (h : Trip W B t u v x) : W.cell? ⟨B, 1, none⟩ = some v := by simp [World.cell?, show W.heap[B]? = _ from h]
theorem Trip.cell2 {W : World} {B : Nat} {t : TypeId} {u v x : Value} (h : Trip W B t u v x) : W.cell? ⟨B, 2, none⟩ = some x := by simp [World.cell?, show W.heap[B]? = _ from h]
theorem Trip.frozen {W : World} {B : Nat} {t : TypeId} {u v x : Value} (h : Trip W B t u v x) (i : Nat) : W.frozen? ⟨B, i, none⟩ = false := by simp [World.frozen?, show W.heap[B]? = _ from h]
theorem Trip.new (W : World) (t : TypeId) (u v x : Value) : Trip (W.alloc (.cells #[u, v, x] t)) W.heap.size t u v x := World.alloc_heap_new W _
theorem Trip.same {W W' : World} {B : Nat} {t : TypeId} {u v x : Value} (h : Trip W B t u v x) (e : W'.heap[B]? = W.heap[B]?) : Trip W' B t u v x := e.trans h
theorem Trip.belowAll {W W' : World} {B : Nat} {t : TypeId} {u v x : Value} (h : Trip W B t u v x) (hb : Below W.heap.size W W') : Trip W' B t u v x := h.same (hb.block B h.lt)
theorem Duo.belowAll {W W' : World} {B : Nat} {t : TypeId} {u v : Value} (h : Duo W B t u v) (hb : Below W.heap.size W W') : Duo W' B t u v := h.same (hb.block B h.lt)
theorem Trip.alloc {W : World} {B : Nat} {t : TypeId} {u v x : Value} (h : Trip W B t u v x) (o : Obj) : Trip (W.alloc o) B t u v x := h.same (Below.heap_alloc W o B h.lt)
theorem trip_set {W : World} {B : Nat} {t : TypeId} {u v x : Value} (h : Trip W B t u v x) (u' v' x' : Value) : Trip (((W.setCell ⟨B, 0, none⟩ u').setCell ⟨B, 1, none⟩ v').setCell ⟨B, 2, none⟩ x') B t u' v' x' := by
  unfold Trip at *
  simp [World.setCell, Array.getElem?_modify, h]
theorem rowOf_no (n : Int) (most : Nat) (sv : Value) (xs : List Int) (b : Nat) (w : World) (h : ¬ ((1 ≤ n ∧ n ≤ 12) ∧ xs.length ≤ most ∧ ∀ i, i < xs.length → 0 ≤ xs.getD i 0 ∧ xs.getD i 0 < n)) (hl : xs.length ≤ 2000000) (hm : most ≤ 12) (hI : IsInts w b sv xs) :
    Calls Try.prog 21 #[.int .i64 n, sv, .int .i64 (most:Int)] w fun e w' => e = .returned (.tuple #[.agg #[.int .i64 0, .slice none 0 0], .bool false]) ∧ Below w.heap.size w w' := by
  have hz := (Duo.new w 40 (.int .i64 0) (.slice none 0 0))
  by_cases hn : 1 ≤ n ∧ n ≤ 12
  · obtain ⟨m, rfl⟩ : ∃ m : Nat, n = (m : Int) := ⟨n.toNat, by omega⟩
    have HO := Lib.hid (fun W => ringOf_nil m W (by omega) (by omega))
    have HP := Lib.hid (fun v W => isPlace_any m v W)
    have HH := Lib.hid h
    rcases hI.shape with ⟨rfl, rfl⟩ | ⟨g, cap, rfl, hg1, hg2, hg3⟩
    · exact absurd ⟨hn, by simp, fun i hi => by simp at hi⟩ h
    · have HI := Lib.hid (shows_of hI)
      generalize hL : xs.length = L at *
      clear hI hg1 hg3 h
      by_cases hlm : L ≤ most
      · have c1 : ¬ ((L : Int) > (most : Int)) := by omega
        have c2 : ¬ ((most : Int) < (L : Int)) := by omega
        have c3 : decide (most < L) = false := decide_eq_false (by omega)
        go_enter Try.func21, Try.ntmps21
        go_wp2_with fail
        refine (HO.out _).mono ?_
        rintro e w1 ⟨rfl, hb1⟩
        have hz1 := hz.belowAll (hb1.mono (by simp))
        have hB1 : Below w.heap.size w (w1.alloc (.cells #[.int .i64 (m:Int)] 38)) := (((Below.refl _ w).alloc (Nat.le_refl _) _).trans (hb1.mono (by simp))).alloc (by have := hb1.size; simp at this; omega) _
        have hR1 := Boxed.new w1 38 (.int .i64 (m:Int))
        have hz2 := hz1.alloc (.cells #[.int .i64 (m:Int)] 38)
        have hI1 := HI.out.belowAll (hB1.mono (Nat.le_refl _))
        have hlt := hb1.size
        simp only [World.size_alloc] at hlt
        obtain ⟨W1, hW1⟩ : ∃ W1, w1.alloc (.cells #[.int .i64 (m:Int)] 38) = W1 := ⟨_, rfl⟩
        rw [hW1] at hB1 hR1 hz2 hI1
        have HS := Lib.hid (⟨hB1, hR1, hz2, hI1⟩ : Below w.heap.size w W1 ∧ Boxed W1 w1.heap.size 38 (.int .i64 (m:Int)) ∧ Duo W1 w.heap.size 40 (.int .i64 0) (.slice none 0 0) ∧ Shows W1 g L xs)
        clear hB1 hR1 hz2 hI1 hz1 hb1 hz
        go_wp2
        try simp only [hW1]
        generalize w1.heap.size = R at *
        clear hW1
        go_loopw [7, 11, 29] (fun u7 u v wr => ∃ i : Nat, i ≤ L ∧ v = .int .i64 (i : Int) ∧ (Below w.heap.size w wr ∧ Boxed wr R 38 (.int .i64 (m:Int)) ∧ Duo wr w.heap.size 40 (.int .i64 0) (.slice none 0 0) ∧ Shows wr g L xs) ∧ Hid (∀ j, j < i → 0 ≤ xs.getD j 0 ∧ xs.getD j 0 < (m : Int))) (fun _ _ v _ => L - (intOf v).toNat)
        case atStart => exact ⟨0, Nat.zero_le _, rfl, HS.out, Lib.hid (fun j hj => absurd hj (by omega))⟩
        case round =>
          obtain ⟨i, hi, rfl, ⟨hBr, hRr, hzr, hIr⟩, HA⟩ := hrel
          have cR := hRr.cell
          by_cases hlt : i < L
          · have ci := hIr.cell i hlt
            have k1 : (i : Int) < (L : Int) := by omega
            have k2 : (0 : Int) ≤ (i : Int) := by omega
            have hwk : IntKind.i64.wrap ((i : Int) + 1) = ((i + 1 : Nat) : Int) := by rw [IntWalk.i64_in _ ⟨by omega, by omega⟩]; rfl
            have HPi := HP.out (xs.getD i 0)
            have HAn : Hid ((0 ≤ xs.getD i 0 ∧ xs.getD i 0 < (m : Int)) → ∀ j, j < i + 1 → 0 ≤ xs.getD j 0 ∧ xs.getD j 0 < (m : Int)) := Lib.hid (fun h j hj => by
              by_cases e : j = i
              · subst e; exact h
              · exact HA.out j (by omega))
            have z0 := hzr.cell0
            have z1 := hzr.cell1
            by_cases hpl : 0 ≤ xs.getD i 0 ∧ xs.getD i 0 < (m : Int)
            · rw [decide_eq_true hpl] at HPi
              have HAn' := Lib.hid (HAn.out hpl)
              have HPi := Lib.hid HPi
              clear hpl
              generalize xs.getD i 0 = z at *
              go_wp2_with (go_at_call 31; refine (HPi.out _).mono ?_; rintro e w2 ⟨rfl, hb2⟩)
              go_roundw
              case rel => exact ⟨i + 1, by omega, by go_num, ⟨hBr.trans (hb2.mono hBr.size), boxed_below hRr hRr.lt hb2, hzr.belowAll hb2, hIr.belowAll hb2⟩, HAn'⟩
              case measure => simp [intOf]; omega
            · rw [decide_eq_false hpl] at HPi
              have HPi := Lib.hid HPi
              clear hpl
              generalize xs.getD i 0 = z at *
              have f0 := duoFrozen hzr 0
              have f1 := duoFrozen hzr 1
              go_wp2_with (go_at_call 31; refine (HPi.out _).mono ?_; rintro e w2 ⟨rfl, hb2⟩; have hz3 := hzr.belowAll hb2; have q0 := hz3.cell0; have q1 := hz3.cell1; have g0 := duoFrozen hz3 0; have g1 := duoFrozen hz3 1; have hB2 := hBr.trans (hb2.mono hBr.size); have hS3 := duoSet2 hz3 (.int .i64 0) (.slice none 0 0); have s0 := hS3.cell0; have s1 := hS3.cell1; clear f0 f1 z0 z1)
              refine bodyPost_ret (v := .tuple #[.agg #[.int .i64 0, .slice none 0 0], .bool false]) (by simp [results, Try.results21, go_sem, s0, s1]) rfl ⟨rfl, ?_⟩
              exact (hB2.setCell (p := ⟨w.heap.size, 0, none⟩) (Nat.le_refl _) _).setCell (p := ⟨w.heap.size, 1, none⟩) (Nat.le_refl _) _
          · exact absurd ⟨hn, hlm, fun j hj => HA.out j (by omega)⟩ HH.out
      · have c1 : (L : Int) > (most : Int) := by omega
        have c2 : (most : Int) < (L : Int) := by omega
        go_enter Try.func21, Try.ntmps21
        go_wp2_with fail
        refine (HO.out _).mono ?_
        rintro e w1 ⟨rfl, hb1⟩
        have hz1 := hz.belowAll (hb1.mono (by simp))
        have hz2 := hz1.alloc (.cells #[.int .i64 (m:Int)] 38)
        have hB1 : Below w.heap.size w (w1.alloc (.cells #[.int .i64 (m:Int)] 38)) := (((Below.refl _ w).alloc (Nat.le_refl _) _).trans (hb1.mono (by simp))).alloc (by have := hb1.size; simp at this; omega) _
        have q0 := hz2.cell0
        have q1 := hz2.cell1
        have g0 := duoFrozen hz2 0
        have g1 := duoFrozen hz2 1
        have hS3 := duoSet2 hz2 (.int .i64 0) (.slice none 0 0)
        have s0 := hS3.cell0
        have s1 := hS3.cell1
        go_wp2
        refine bodyPost_ret (v := .tuple #[.agg #[.int .i64 0, .slice none 0 0], .bool false]) (by simp [results, Try.results21, go_sem, s0, s1]) rfl ⟨rfl, ?_⟩
        exact (hB1.setCell (p := ⟨w.heap.size, 0, none⟩) (Nat.le_refl _) _).setCell (p := ⟨w.heap.size, 1, none⟩) (Nat.le_refl _) _
  · have HO := Lib.hid (fun sv W => ringOf_out n sv W hn)
    clear h hI hn
    go_enter Try.func21, Try.ntmps21
    go_wp2_with fail
    refine (HO.out _ _).mono ?_
    rintro e w1 ⟨rfl, hb1⟩
    have hz1 := hz.belowAll (hb1.mono (by simp))
    have hz2 := hz1.alloc (.cells #[.int .i64 0] 38)
    have hB1 : Below w.heap.size w (w1.alloc (.cells #[.int .i64 0] 38)) := (((Below.refl _ w).alloc (Nat.le_refl _) _).trans (hb1.mono (by simp))).alloc (by have := hb1.size; simp at this; omega) _
    have q0 := hz2.cell0
    have q1 := hz2.cell1
    have g0 := duoFrozen hz2 0
    have g1 := duoFrozen hz2 1
    have hS3 := duoSet2 hz2 (.int .i64 0) (.slice none 0 0)
    have s0 := hS3.cell0
    have s1 := hS3.cell1
    go_wp2
    refine bodyPost_ret (v := .tuple #[.agg #[.int .i64 0, .slice none 0 0], .bool false]) (by simp [results, Try.results21, go_sem, s0, s1]) rfl ⟨rfl, ?_⟩
    exact (hB1.setCell (p := ⟨w.heap.size, 0, none⟩) (Nat.le_refl _) _).setCell (p := ⟨w.heap.size, 1, none⟩) (Nat.le_refl _) _
theorem wpList_copy_row {ops : Array Oper} {rest : List Oper} {o : Oper} {act : Act} {Q : Exit → Act → World → Prop} (hgd : o.guard = none) (d s : Operand) (ho : o.op = .call { callee := .builtin .copy, args := #[d, s], argTypes := #[23, 23] })
    (xs : List Int) (L cap G : Nat) (A : Option Addr) (W : World) (hL : xs.length = L) (hd : act.eval d = .slice (some ⟨G, 0, none⟩) L L) (hG : W.heap[G]? = some (.cells (madeCells #[.int .i64 0] L) 3 (0, 0))) (hs : act.eval s = .slice A L cap)
    (hA : 0 < L → ∃ g, A = some ⟨g, 0, none⟩ ∧ Shows W g L xs)
    (h : ∀ w1 : World, w1.heap[G]? = some (.cells (xs.map (Value.int .i64)).toArray 3 (0, 0)) → (∀ k, k ≠ G → w1.heap[k]? = W.heap[k]?) → w1.heap.size = W.heap.size → Below G W w1 → wpList Try.prog ops Q rest (act.put o.dst (goInt L)) w1) : wpList Try.prog ops Q (o :: rest) act W := by
  have hsz : (Try.prog.info? 3).map (·.size) = some 1 := by kernel_rfl
  have hlG : G < W.heap.size := (Array.getElem?_eq_some_iff.1 hG).1
  rcases Nat.eq_zero_or_pos L with h0 | hpos
  · have hx0 : xs = [] := List.eq_nil_of_length_eq_zero (by omega)
    have hrun := run_copy_none (P := Try.prog) W 23 23 o.type 3 (some ⟨G, 0, none⟩) A L L L cap Try.underlying23 hsz (by rw [h0]; rfl)
    refine wpList_plain hgd fun K hK => ?_
    unfold Oper.wp
    simp [execOp, ho, resolve, invoke, builtin, hd, hs, hrun, Result.andThen]
    refine hK _ _ ?_
    have := h W (by
      rw [hG, hx0, h0]
      have e : madeCells #[Value.int .i64 0] 0 = #[] := by apply Array.eq_empty_of_size_eq_zero; rw [size_madeCells]
      rw [e]; rfl) (fun _ _ => rfl) rfl (Below.refl _ _)
    rw [h0] at this
    exact this
  · obtain ⟨g, rfl, hS⟩ := hA hpos
    refine wpList_copy_own hgd d s 23 23 ho 3 Try.underlying23 hsz G 0 L L ⟨g, 0, none⟩ L cap hd hs (madeCells #[.int .i64 0] L) 3 hG (xs.map (Value.int .i64)) (by rw [List.length_map, hL]; exact (Nat.min_self L).symm) (fun j v hv => ?_) (by simp [hL, size_madeCells]) (fun v hv => by
      obtain ⟨z, _, rfl⟩ := List.mem_map.1 hv
      rfl) ?_
    · have hj : j < L := by
        have := (List.getElem?_eq_some_iff.1 hv).1
        rw [List.length_map] at this; omega
      have hadd : (⟨g, 0, none⟩ : Addr).add j = ⟨g, j, none⟩ := by unfold Addr.add; split <;> simp_all
      rw [hadd, hS.cell j hj]
      rw [List.getElem?_map, List.getElem?_eq_getElem (by omega)] at hv
      rw [List.getD_eq_getElem?_getD, List.getElem?_eq_getElem (by omega)]
      simpa using hv
    · have e : ((madeCells #[Value.int .i64 0] L).toList.take 0 ++ (xs.map (Value.int .i64) ++ (madeCells #[Value.int .i64 0] L).toList.drop (0 + (xs.map (Value.int .i64)).length))).toArray = (xs.map (Value.int .i64)).toArray := by
        rw [Nat.zero_add, List.take_zero, List.nil_append, List.length_map, hL, List.drop_of_length_le (by rw [Array.length_toList, size_madeCells]; exact Nat.le_refl _), List.append_nil]
      rw [e, List.length_map, hL]
      exact h _ (setRow_heap W G _ _ _ _ hG) (fun k hk => setRow_other W G k _ hk) (by simp) (below_setRow (Below.refl _ _) (Nat.le_refl _) _)
theorem ints_cells (W : World) (b g n : Nat) (xs : List Int) (hl : xs.length = n) (hb : b ≤ g) (hn : n ≤ 1000) (h : W.heap[g]? = some (.cells ((xs.map (Value.int .i64)).toArray) 3 (0, 0))) : IsInts W b (.slice (some ⟨g, 0, none⟩) n n) xs :=
  ⟨by simp, .inr ⟨g, n, _, by rw [hl], hb, h, by omega, by unfold maxLen; omega, by simp [hl], by simp [List.take_of_length_le]⟩⟩
set_option maxHeartbeats 1000000 in
theorem rowOf_yes (n most L cap : Nat) (A : Option Addr) (xs : List Int) (w : World) (h1 : 1 ≤ n) (h2 : n ≤ 12) (hL : xs.length = L) (hlm : L ≤ most) (hm : most ≤ 12) (hx : ∀ i, i < L → 0 ≤ xs.getD i 0 ∧ xs.getD i 0 < (n:Int)) (hA : 0 < L → ∃ g, A = some ⟨g, 0, none⟩ ∧ Shows w g L xs) :
    Calls Try.prog 21 #[.int .i64 (n:Int), .slice A L cap, .int .i64 (most:Int)] w fun e w' => ∃ g', e = .returned (.tuple #[.agg #[.int .i64 (n:Int), .slice (some ⟨g', 0, none⟩) L L], .bool true]) ∧ Below w.heap.size w w' ∧ IsInts w' w.heap.size (.slice (some ⟨g', 0, none⟩) L L) xs := by
  have hz := (Duo.new w 40 (.int .i64 0) (.slice none 0 0))
  have HO := Lib.hid (fun W => ringOf_nil n W (by omega) (by omega))
  have HP := Lib.hid (fun v W => isPlace_any n v W)
  have HX := Lib.hid hx
  have HA := Lib.hid hA
  have HL := Lib.hid hL
  clear hx hA hL
  have c1 : ¬ ((L : Int) > (most : Int)) := by omega
  have c2 : ¬ ((most : Int) < (L : Int)) := by omega
  have c3 : decide (most < L) = false := decide_eq_false (by omega)
  go_enter Try.func21, Try.ntmps21
  go_wp2_with fail
  refine (HO.out _).mono ?_
  rintro e w1 ⟨rfl, hb1⟩
  have hz1 := hz.belowAll (hb1.mono (by simp))
  have hB1 : Below w.heap.size w (w1.alloc (.cells #[.int .i64 (n:Int)] 38)) := (((Below.refl _ w).alloc (Nat.le_refl _) _).trans (hb1.mono (by simp))).alloc (by have := hb1.size; simp at this; omega) _
  have hR1 := Boxed.new w1 38 (.int .i64 (n:Int))
  have hz2 := hz1.alloc (.cells #[.int .i64 (n:Int)] 38)
  have hwR := hb1.size
  simp only [World.size_alloc] at hwR
  obtain ⟨W1, hW1⟩ : ∃ W1, w1.alloc (.cells #[.int .i64 (n:Int)] 38) = W1 := ⟨_, rfl⟩
  rw [hW1] at hB1 hR1 hz2
  have HS := Lib.hid (⟨hB1, hR1, hz2⟩ : Below w.heap.size w W1 ∧ Boxed W1 w1.heap.size 38 (.int .i64 (n:Int)) ∧ Duo W1 w.heap.size 40 (.int .i64 0) (.slice none 0 0))
  clear hB1 hR1 hz2 hz1 hb1 hz
  go_wp2
  try simp only [hW1]
  generalize w1.heap.size = R at *
  clear hW1
  go_loopw [7, 11, 29] (fun u7 u v wr => ∃ i : Nat, i ≤ L ∧ v = .int .i64 (i : Int) ∧ u7 = .bool false ∧ (Below w.heap.size w wr ∧ Boxed wr R 38 (.int .i64 (n:Int)) ∧ Duo wr w.heap.size 40 (.int .i64 0) (.slice none 0 0))) (fun _ _ v _ => L - (intOf v).toNat)
  case atStart => exact ⟨0, Nat.zero_le _, rfl, rfl, HS.out⟩
  case round =>
    obtain ⟨i, hi, rfl, rfl, ⟨hBr, hRr, hzr⟩⟩ := hrel
    have cR := hRr.cell
    by_cases hlt : i < L
    · obtain ⟨g, rfl, hS⟩ := HA.out (by omega)
      have ci := (hS.belowAll hBr).cell i hlt
      have k1 : (i : Int) < (L : Int) := by omega
      have k2 : (0 : Int) ≤ (i : Int) := by omega
      have hwk : IntKind.i64.wrap ((i : Int) + 1) = ((i + 1 : Nat) : Int) := by rw [IntWalk.i64_in _ ⟨by omega, by omega⟩]; rfl
      have hPi := HP.out (xs.getD i 0)
      rw [decide_eq_true (HX.out i hlt)] at hPi
      have HPi := Lib.hid hPi
      clear hPi hS
      generalize xs.getD i 0 = z at *
      go_wp2_with (go_at_call 31; refine (HPi.out _).mono ?_; rintro e w2 ⟨rfl, hb2⟩)
      go_roundw
      case rel => exact ⟨i + 1, by omega, by go_num, rfl, ⟨hBr.trans (hb2.mono hBr.size), boxed_below hRr hRr.lt hb2, hzr.belowAll hb2⟩⟩
      case measure => simp [intOf]; omega
    · have k1 : ¬ ((i : Int) < (L : Int)) := by omega
      obtain rfl : i = L := by omega
      have hmk := make_ints i (by omega) wr
      have HB0 : Hid (Below w.heap.size w (wr.alloc (.cells (madeCells #[.int .i64 0] i) 3))) := Lib.hid (hBr.alloc hBr.size _)
      have HG0 : Hid ((wr.alloc (.cells (madeCells #[.int .i64 0] i) 3)).heap[wr.heap.size]? = some (.cells (madeCells #[.int .i64 0] i) 3 (0, 0))) := Lib.hid (World.alloc_heap_new wr _)
      have HA2 : Hid (0 < i → ∃ g, A = some ⟨g, 0, none⟩ ∧ Shows (wr.alloc (.cells (madeCells #[.int .i64 0] i) 3)) g i xs) := Lib.hid (fun hp => (HA.out hp).imp fun g hg => ⟨hg.1, hg.2.belowAll HB0.out⟩)
      have hR2 := hRr.alloc (.cells (madeCells #[.int .i64 0] i) 3)
      have hz2 := hzr.alloc (.cells (madeCells #[.int .i64 0] i) 3)
      have hRl := hRr.lt
      have hzl := hzr.lt
      have hsr := hBr.size
      have HR2 := Lib.hid hR2
      have HZ2 := Lib.hid hz2
      clear hR2 hz2 hRr hzr cR hlt
      go_wp2_with (first | (refine wpList_copy_row rfl _ _ rfl xs i cap wr.heap.size A _ HL.out rfl HG0.out rfl HA2.out (fun w2 hg2 ho2 hz2 hb2 => ?_); have hR3 : Boxed w2 R 38 (.int .i64 (n:Int)) := (ho2 R (by omega)).trans HR2.out; have hz3 : Duo w2 w.heap.size 40 (.int .i64 0) (.slice none 0 0) := HZ2.out.same (ho2 _ (by omega)); have HG2 := Lib.hid hg2; have HB2 := Lib.hid (HB0.out.trans (hb2.mono hsr)); have cR := hR3.cell; have q0 := hz3.cell0; have q1 := hz3.cell1; have g0 := duoFrozen hz3 0; have g1 := duoFrozen hz3 1; have HS3 := Lib.hid (duoSet2 hz3 (.int .i64 (n:Int)) (.slice (some ⟨wr.heap.size, 0, none⟩) i i)); clear hg2 ho2 hz2 hb2) | go_in)
      have s0 := HS3.out.cell0
      have s1 := HS3.out.cell1
      refine bodyPost_ret (v := .tuple #[.agg #[.int .i64 (n:Int), .slice (some ⟨wr.heap.size, 0, none⟩) i i], .bool true]) (by simp [results, Try.results21, go_sem, s0, s1]) rfl ⟨_, rfl, ?_, ?_⟩
      · exact (HB2.out.setCell (p := ⟨w.heap.size, 0, none⟩) (Nat.le_refl _) _).setCell (p := ⟨w.heap.size, 1, none⟩) (Nat.le_refl _) _
      · refine ints_cells _ _ _ _ xs HL.out hsr (by omega) ?_
        have hne : wr.heap.size ≠ w.heap.size := by omega
        exact (Below.heap_setCell _ ⟨w.heap.size, 1, none⟩ _ _ hne).trans ((Below.heap_setCell _ ⟨w.heap.size, 0, none⟩ _ _ hne).trans HG2.out)
theorem row_nat_at (n : Nat) (xs : List Int) (i : Nat) (h : 0 ≤ xs.getD i 0 ∧ xs.getD i 0 < (n:Int)) : xs.getD i 0 = ((rowZ xs i : Nat) : Int) ∧ rowZ xs i < n := by
  unfold rowZ
  omega
set_option maxHeartbeats 1000000 in
theorem total_any (n g L cap : Nat) (xs : List Int) (w : World) (h1 : 1 ≤ n) (h2 : n ≤ 12) (hS : Shows w g L xs) (hL : L ≤ 12) (hx : ∀ i, i < L → 0 ≤ xs.getD i 0 ∧ xs.getD i 0 < (n:Int)) :
    Calls Try.prog 44 #[.agg #[.int .i64 (n:Int), .slice (some ⟨g, 0, none⟩) L cap]] w fun e w' => e = .returned (.int .i64 ((sumTo (rowZ xs) L % n : Nat) : Int)) ∧ Below w.heap.size w w' := by
  have hD := Duo.new w 40 (.int .i64 (n:Int)) (.slice (some ⟨g, 0, none⟩) L cap)
  have d0 := hD.cell0
  have d1 := hD.cell1
  have hsum : ∀ i, i ≤ L → sumTo (rowZ xs) i ≤ 12 * i := fun i hi => by
    induction i with
    | zero => exact Nat.le_refl _
    | succ i ih =>
      have := ih (by omega)
      have := (row_nat_at n xs i (hx i (by omega))).2
      show sumTo (rowZ xs) i + rowZ xs i ≤ _
      omega
  have HSum := Lib.hid hsum
  have HR := Lib.hid (fun (x : Nat) (hx : x ≤ 144) W => rest_any n (x : Int) W h1 h2 ⟨by omega, by omega⟩)
  have HS := Lib.hid (hS.belowAll ((Below.refl _ w).alloc (Nat.le_refl _) (.cells #[.int .i64 (n:Int), .slice (some ⟨g, 0, none⟩) L cap] 40)))
  have HX := Lib.hid (fun i hi => row_nat_at n xs i (hx i hi))
  have HB := Lib.hid ((Below.refl _ w).alloc (Nat.le_refl _) (.cells #[.int .i64 (n:Int), .slice (some ⟨g, 0, none⟩) L cap] 40))
  clear hsum hx hS hD
  go_enter Try.func44, Try.ntmps44
  go_wp2
  generalize w.alloc (.cells #[.int .i64 (n:Int), .slice (some ⟨g, 0, none⟩) L cap] 40) = W1 at *
  go_loopw [3, 5, 9] (fun u v5 v wr => ∃ i : Nat, i ≤ L ∧ u = .int .i64 ((sumTo (rowZ xs) i : Nat) : Int) ∧ v = .int .i64 (i : Int) ∧ W1 = wr) (fun _ _ v _ => L - (intOf v).toNat)
  case atStart => exact ⟨0, Nat.zero_le _, rfl, rfl, rfl⟩
  case round =>
    obtain ⟨i, hi, rfl, rfl, hw⟩ := hrel
    subst hw
    have hb := HSum.out i hi
    by_cases hlt : i < L
    · have ci := HS.out.cell i hlt
      obtain ⟨e1, e2⟩ := HX.out i hlt
      rw [e1] at ci
      have k1 : (i : Int) < (L : Int) := by omega
      have k2 : (0 : Int) ≤ (i : Int) := by omega
      have hwk : IntKind.i64.wrap ((i : Int) + 1) = ((i + 1 : Nat) : Int) := by rw [IntWalk.i64_in _ ⟨by omega, by omega⟩]; rfl
      have HE : Hid (sumTo (rowZ xs) (i + 1) = sumTo (rowZ xs) i + rowZ xs i) := Lib.hid rfl
      clear e1
      generalize sumTo (rowZ xs) i = s at *
      generalize rowZ xs i = z at *
      have hws : IntKind.i64.wrap ((s : Int) + (z : Int)) = ((s + z : Nat) : Int) := by rw [IntWalk.i64_in _ ⟨by omega, by omega⟩]; rfl
      go_wp2
      go_roundw
      case rel => exact ⟨i + 1, by omega, by rw [HE.out]; first | rfl | go_num, by go_num, by first | rfl | trivial⟩
      case measure => simp [intOf]; omega
    · obtain rfl : i = L := by omega
      have k1 : ¬ ((i : Int) < (i : Int)) := by omega
      have HE : Hid (rest n ((sumTo (rowZ xs) i : Nat) : Int) = sumTo (rowZ xs) i % n) := Lib.hid (by
        unfold rest
        rw [← Int.natCast_emod, Int.toNat_natCast])
      have HRi := Lib.hid (HR.out (sumTo (rowZ xs) i) (by omega))
      clear hlt
      generalize hs : sumTo (rowZ xs) i = s at *
      have HHs := Lib.hid hs
      clear hs
      go_wp2_with fail
      refine (HRi.out _).mono ?_
      rintro e w2 ⟨rfl, hb2⟩
      have HB2 := Lib.hid (HB.out.trans (hb2.mono HB.out.size))
      go_wp2
      go_ret
      exact ⟨ret_int (congrArg Nat.cast (HE.out.trans (by rw [HHs.out]))), HB2.out⟩
set_option maxHeartbeats 1000000 in
theorem allPositions_any (n g L cap : Nat) (w : World) (hL : L ≤ 12) :
    Calls Try.prog 49 #[.agg #[.int .i64 (n:Int), .slice (some ⟨g, 0, none⟩) L cap]] w fun e w' => e = .returned (.agg #[.int .i64 (n:Int), .slice (some ⟨g, 0, none⟩) L cap, .int .i64 ((2 ^ L - 1 : Nat) : Int)]) ∧ Below w.heap.size w w' := by
  have hmx : Try.prog.follows .mixedOrders = true := by kernel_rfl
  have hp := pow_le L hL
  have hp1 := Nat.two_pow_pos L
  have hD := (Duo.new w 40 (.int .i64 (n:Int)) (.slice (some ⟨g, 0, none⟩) L cap)).alloc (.cells #[.int .i64 0, .slice none 0 0, .int .i64 0] 74)
  have hT := Trip.new (w.alloc (.cells #[.int .i64 (n:Int), .slice (some ⟨g, 0, none⟩) L cap] 40)) 74 (.int .i64 0) (.slice none 0 0) (.int .i64 0)
  have hB0 : Below w.heap.size w ((w.alloc (.cells #[.int .i64 (n:Int), .slice (some ⟨g, 0, none⟩) L cap] 40)).alloc (.cells #[.int .i64 0, .slice none 0 0, .int .i64 0] 74)) := ((Below.refl _ w).alloc (Nat.le_refl _) _).alloc (by simp) _
  simp only [World.size_alloc] at hT
  have hall2 : IntKind.i64.wrap (IntKind.i64.wrap (2 ^ L) - 1) = ((2 ^ L - 1 : Nat) : Int) := by
    simp only [IntWalk.i64_left]
    exact all_nat L hL
  go_enter Try.func49, Try.ntmps49
  go_wp2
  obtain ⟨W0, hW0⟩ : ∃ W0, ((w.alloc (.cells #[.int .i64 (n:Int), .slice (some ⟨g, 0, none⟩) L cap] 40)).alloc (.cells #[.int .i64 0, .slice none 0 0, .int .i64 0] 74)) = W0 := ⟨_, rfl⟩
  try simp only [hW0]
  rw [hW0] at hD hT hB0
  clear hW0
  have hA0 : Duo W0.drew w.heap.size 40 (.int .i64 (n:Int)) (.slice (some ⟨g, 0, none⟩) L cap) := hD
  have hT0 : Trip W0.drew (w.heap.size + 1) 74 (.int .i64 0) (.slice none 0 0) (.int .i64 0) := hT
  have hB1 : Below w.heap.size w W0.drew := hB0.drew
  clear hD hT hB0
  refine wp_region_held_drew (S := fun W => Duo W w.heap.size 40 (.int .i64 (n:Int)) (.slice (some ⟨g, 0, none⟩) L cap)) hmx hA0 (fun _ => ?_)
  generalize W0.drew = W4 at *
  refine take1 0 (v := ?_) rfl (by kernel_rfl) (by kernel_rfl) (by kernel_rfl) (fun _ _ _ h => h) (by rfl) ?_ hA0 ?_
  rotate_left
  · intro W9 hA
    have hp := hA
    clear hA
    have c0 := hp.cell0
    have c1 := hp.cell1
    clear hp
    go_simp
    try with_reducible rfl
  try simp only [Act.put, List.setIfInBounds_toArray, List.set_cons_zero, List.set_cons_succ]
  refine take1 1 (v := ?_) rfl (by kernel_rfl) (by kernel_rfl) (by kernel_rfl) (fun _ _ _ h => h) (by rfl) ?_ hA0 ?_
  rotate_left
  · intro W9 hA
    have hp := hA
    clear hA
    have c0 := hp.cell0
    have c1 := hp.cell1
    clear hp
    go_simp
    try with_reducible rfl
  try simp only [Act.put, List.setIfInBounds_toArray, List.set_cons_zero, List.set_cons_succ]
  refine take1 2 (v := ?_) rfl (by kernel_rfl) (by kernel_rfl) (by kernel_rfl) (fun _ _ _ h => h) (by rfl) ?_ hA0 ?_
  rotate_left
  · intro W9 hA
    have hp := hA
    clear hA
    have c0 := hp.cell0
    have c1 := hp.cell1
    clear hp
    go_simp
    try with_reducible rfl
  try simp only [Act.put, List.setIfInBounds_toArray, List.set_cons_zero, List.set_cons_succ]
  refine take1 3 (v := ?_) rfl (by kernel_rfl) (by kernel_rfl) (by kernel_rfl) (fun _ _ _ h => h) (by rfl) ?_ hA0 ?_
  rotate_left
  · intro W9 hA
    have hp := hA
    clear hA
    have c0 := hp.cell0
    have c1 := hp.cell1
    clear hp
    go_simp
    try with_reducible rfl
  try simp only [Act.put, List.setIfInBounds_toArray, List.set_cons_zero, List.set_cons_succ]
  refine take1 4 (v := ?_) rfl (by kernel_rfl) (by kernel_rfl) (by kernel_rfl) (fun _ _ _ h => h) (by rfl) ?_ hA0 ?_
  rotate_left
  · intro W9 hA
    have hp := hA
    clear hA
    have c0 := hp.cell0
    have c1 := hp.cell1
    clear hp
    go_simp
    try with_reducible rfl
  try simp only [Act.put, List.setIfInBounds_toArray, List.set_cons_zero, List.set_cons_succ]
  refine take1 5 (v := ?_) rfl (by kernel_rfl) (by kernel_rfl) (by kernel_rfl) (fun _ _ _ h => h) (by rfl) ?_ hA0 ?_
  rotate_left
  · intro W9 hA
    have hp := hA
    clear hA
    have c0 := hp.cell0
    have c1 := hp.cell1
    clear hp
    go_simp
    try with_reducible rfl
  try simp only [Act.put, List.setIfInBounds_toArray, List.set_cons_zero, List.set_cons_succ]
  refine take1 6 (v := ?_) rfl (by kernel_rfl) (by kernel_rfl) (by kernel_rfl) (fun _ _ _ h => h) (by rfl) ?_ hA0 ?_
  rotate_left
  · intro W9 hA
    have hp := hA
    clear hA
    have c0 := hp.cell0
    have c1 := hp.cell1
    clear hp
    go_simp
    try with_reducible rfl
  try simp only [Act.put, List.setIfInBounds_toArray, List.set_cons_zero, List.set_cons_succ]
  refine step1 7 (by kernel_rfl) rfl (fun K hK => ?_)
  have hT9 := trip_set hT0 (.int .i64 (n:Int)) (.slice (some ⟨g, 0, none⟩) L cap) (.int .i64 ((2 ^ L - 1 : Nat) : Int))
  have hB9 : Below w.heap.size w (((W4.setCell ⟨w.heap.size + 1, 0, none⟩ (.int .i64 (n:Int))).setCell ⟨w.heap.size + 1, 1, none⟩ (.slice (some ⟨g, 0, none⟩) L cap)).setCell ⟨w.heap.size + 1, 2, none⟩ (.int .i64 ((2 ^ L - 1 : Nat) : Int))) := ((hB1.setCell (p := ⟨w.heap.size + 1, 0, none⟩) (by simp) _).setCell (p := ⟨w.heap.size + 1, 1, none⟩) (by simp) _).setCell (p := ⟨w.heap.size + 1, 2, none⟩) (by simp) _
  have hA9 : Duo (((W4.setCell ⟨w.heap.size + 1, 0, none⟩ (.int .i64 (n:Int))).setCell ⟨w.heap.size + 1, 1, none⟩ (.slice (some ⟨g, 0, none⟩) L cap)).setCell ⟨w.heap.size + 1, 2, none⟩ (.int .i64 ((2 ^ L - 1 : Nat) : Int))) w.heap.size 40 (.int .i64 (n:Int)) (.slice (some ⟨g, 0, none⟩) L cap) :=
    ((hA0.same (Below.heap_setCell _ ⟨w.heap.size + 1, 0, none⟩ _ _ (by simp))).same (Below.heap_setCell _ ⟨w.heap.size + 1, 1, none⟩ _ _ (by simp))).same (Below.heap_setCell _ ⟨w.heap.size + 1, 2, none⟩ _ _ (by simp))
  have c0 := hT0.cell0
  have c1 := hT0.cell1
  have c2 := hT0.cell2
  have f0 := hT0.frozen 0
  have f1 := hT0.frozen 1
  have f2 := hT0.frozen 2
  clear hT0 hA0
  go_simp
  refine hK.out _ _ hA9 ?_
  clear hK K
  try simp only [Act.put, List.setIfInBounds_toArray, List.set_cons_zero, List.set_cons_succ]
  refine stop1 (by kernel_rfl) ?_
  have q0 := hT9.cell0
  have q1 := hT9.cell1
  have q2 := hT9.cell2
  generalize (((W4.setCell ⟨w.heap.size + 1, 0, none⟩ (.int .i64 (n:Int))).setCell ⟨w.heap.size + 1, 1, none⟩ (.slice (some ⟨g, 0, none⟩) L cap)).setCell ⟨w.heap.size + 1, 2, none⟩ (.int .i64 ((2 ^ L - 1 : Nat) : Int))) = W9 at *
  go_wp2
  refine bodyPost_ret (v := .agg #[.int .i64 (n:Int), .slice (some ⟨g, 0, none⟩) L cap, .int .i64 ((2 ^ L - 1 : Nat) : Int)]) (by simp [results, Try.results49, go_sem, q0, q1, q2]) rfl ⟨rfl, hB9⟩
theorem addr_add (g o j : Nat) : (⟨g, o, none⟩ : Addr).add j = ⟨g, o + j, none⟩ := by unfold Addr.add; split <;> simp_all
theorem getD_cells (xs : List Int) (j : Nat) (v : Value) (h : (xs.map (Value.int .i64))[j]? = some v) : j < xs.length ∧ v = .int .i64 (xs.getD j 0) := by
  have hj : j < xs.length := by
    have := (List.getElem?_eq_some_iff.1 h).1
    rwa [List.length_map] at this
  refine ⟨hj, ?_⟩
  rw [List.getElem?_map, List.getElem?_eq_getElem hj] at h
  rw [List.getD_eq_getElem?_getD, List.getElem?_eq_getElem hj]
  simpa using h.symm
/-- What lies ahead of a place and behind it, put together: in new memory, or, where nothing lies behind it, where it lay. -/
theorem wp_append_less {o : Oper} {act : Act} {K : Act → World → Prop} {Q : Exit → Act → World → Prop} (s x : Operand) (ho : o.op = .call { callee := .builtin .append, args := #[s, x], argTypes := #[23, 23] })
    (g p cap m : Nat) (xs T : List Int) (z : Int) (W : World) (hS : Shows W g (p + 1 + m) (xs ++ z :: T)) (hp : xs.length = p) (hm : T.length = m) (hpm : p + m ≤ 1000) (hcap : p + 1 + m ≤ cap)
    (hs : act.eval s = .slice (some ⟨g, 0, none⟩) p p) (hx : act.eval x = .slice (if cap = p + 1 then some ⟨g, 0, none⟩ else some ⟨g, p + 1, none⟩) m (cap - (p + 1)))
    (h : ∀ (g' c' : Nat) (w1 : World), Shows w1 g' (p + m) (xs ++ T) → p + m ≤ c' → (g' = g ∨ W.heap.size ≤ g') → Below W.heap.size W w1 → K (act.put o.dst (.slice (some ⟨g', 0, none⟩) (p + m) c')) w1) : o.wp Try.prog act W K Q := by
  obtain ⟨i0, hi, hz0, hz1, hz2⟩ := info_parts Try.infoQ
  have hold : ∀ j v, (xs.map (Value.int .i64))[j]? = some v → W.cell? ((⟨g, 0, none⟩ : Addr).add j) = some v := fun j v hj => by
    obtain ⟨a, rfl⟩ := getD_cells xs j v hj
    rw [addr_add, Nat.zero_add, hS.cell j (by omega)]
    rw [List.getD_eq_getElem?_getD, List.getElem?_append_left a, List.getD_eq_getElem?_getD]
  have fin : ∀ v' w1, (Builtin.append_ #[23, 23] o.type #[act.eval s, act.eval x]).run Try.prog W = .ok v' w1 → K (act.put o.dst v') w1 → o.wp Try.prog act W K Q := fun v' w1 hr hk => by
    unfold Oper.wp execOp
    simp only [ho, resolve, invoke, builtin, Sem.run_bind, Sem.run_pure, Result.andThen_ok, List.map_toArray, List.map_cons, List.map_nil, hr]
    exact hk
  rcases Nat.eq_zero_or_pos m with h0 | hpos
  · subst h0
    have hT : T = [] := List.eq_nil_of_length_eq_zero hm
    subst hT
    have hsrc : Src Try.prog i0.size 23 (.slice (if cap = p + 1 then some ⟨g, 0, none⟩ else some ⟨g, p + 1, none⟩) 0 (cap - (p + 1))) 0 [] W := by
      split <;> exact Src.ofSlice W Try.underlying23 _ 0 _ [] (by simp) (fun j u hu => by simp at hu) (fun u hu => by simp at hu)
    refine fin _ _ (by rw [hs, hx]; exact run_append_nothing (P := Try.prog) W 23 23 o.type 3 i0 Try.underlying23 hi _ p p (Nat.le_refl _) _ hsrc) ?_
    refine h g p W ⟨hS.lt, by simp [hp], hS.blk, fun i hi' => ?_⟩ (Nat.le_refl _) (.inl rfl) (Below.refl _ _)
    rw [hS.cell i (by omega), List.getD_eq_getElem?_getD, List.getElem?_append_left (by omega), List.getD_eq_getElem?_getD, List.append_nil]
  · have hne : cap ≠ p + 1 := by omega
    rw [if_neg hne] at hx
    have hnew : ∀ j v, (T.map (Value.int .i64))[j]? = some v → W.cell? ((⟨g, p + 1, none⟩ : Addr).add j) = some v := fun j v hj => by
      obtain ⟨a, rfl⟩ := getD_cells T j v hj
      rw [addr_add, hS.cell (p + 1 + j) (by omega)]
      rw [List.getD_eq_getElem?_getD, List.getElem?_append_right (by omega), List.getD_eq_getElem?_getD, show p + 1 + j - xs.length = j + 1 by omega, List.getElem?_cons_succ]
    have hrun := run_append_grow (P := Try.prog) (w := W) 23 o.type 3 i0 _ Try.underlying23 hi hz0 ⟨g, 0, none⟩ p p (xs.map (Value.int .i64)) (by rw [List.length_map, hz1, Nat.mul_one, hp]) hold ⟨g, p + 1, none⟩ m (cap - (p + 1)) (T.map (Value.int .i64)) (by rw [List.length_map, hz1, Nat.mul_one, hm]) hnew (by omega) (by omega) (growslice_fits (by omega) (by rw [hz2]; omega))
    refine fin _ _ (by rw [hs, hx]; exact hrun) ?_
    refine h W.heap.size _ _ ⟨by simp, by simp [hp, hm], ⟨_, World.alloc_heap_new W.drew _⟩, fun i hi' => ?_⟩ (grownCap_ge W (p + m) p 3) (.inr (Nat.le_refl _)) ((Below.refl _ W).drew.alloc (Nat.le_refl _) _)
    have e1 : (W.drew.alloc (.cells ((xs.map (Value.int .i64)).toArray ++ (T.map (Value.int .i64)).toArray ++ Builtin.zeroCells (Value.int .i64 0).cells (grownCap W (p + m) p 3 - (p + m))) 3)).cell? ⟨W.heap.size, i, none⟩ = _ := World.cell?_alloc_new W.drew _ _ i
    rw [e1, Array.getElem?_append_left (by simp; omega), List.append_toArray, List.getElem?_toArray, ← List.map_append, List.getElem?_map, List.getElem?_eq_getElem (by simp; omega), List.getD_eq_getElem?_getD, List.getElem?_eq_getElem (by simp; omega)]
    rfl
theorem Shows.append_len {W : World} {g p m : Nat} {xs T : List Int} {z : Int} (h : Shows W g (p + 1 + m) (xs ++ z :: T)) (hp : xs.length = p) : T.length = m := by
  have := h.size
  rw [List.length_append, List.length_cons, hp] at this
  omega
set_option maxRecDepth 100000 in
set_option maxHeartbeats 4000000 in
theorem without_any (n g p m cap x : Nat) (xs T : List Int) (z : Int) (w : World) (hS : Shows w g (p + 1 + m) (xs ++ z :: T)) (hp : xs.length = p) (hpm : p + m < 12) (hcap : p + 1 + m ≤ cap) (hx : x < 4096) :
    Calls Try.prog 48 #[.agg #[.int .i64 (n:Int), .slice (some ⟨g, 0, none⟩) (p + 1 + m) cap, .int .i64 (x:Int)], .int .i64 (p:Int)] w fun e w' => ∃ g' c', e = .returned (.agg #[.int .i64 (n:Int), .slice (some ⟨g', 0, none⟩) (p + m) c', .int .i64 ((lessN x (2 ^ p) : Nat) : Int)]) ∧ Below w.heap.size w w' ∧ Shows w' g' (p + m) (xs ++ T) ∧ p + m ≤ c' ∧ (g' = g ∨ w.heap.size ≤ g') := by
  have hmx : Try.prog.follows .mixedOrders = true := by kernel_rfl
  have hTl := hS.append_len hp
  obtain ⟨L, hL⟩ : ∃ L, p + 1 + m = L := ⟨_, rfl⟩
  have k0 : (0 : Int) ≤ (p : Int) := by omega
  have k1 : (p : Int) ≤ (cap : Int) := by omega
  have k2 : (0 : Int) ≤ (p : Int) + 1 := by omega
  have k3 : (p : Int) + 1 ≤ (L : Int) := by omega
  have hLm : L - (p + 1) = m := by omega
  have hwa : IntKind.i64.wrap ((p : Int) + 1) = ((p + 1 : Nat) : Int) := by rw [IntWalk.i64_in _ ⟨by omega, by omega⟩]; rfl
  have hp2 : 2 ^ p < 2 ^ 62 := Nat.pow_lt_pow_right (by omega) (by omega)
  have hwp : IntKind.i64.wrap (2 ^ p) = ((2 ^ p : Nat) : Int) := by
    simp only [IntWalk.i64_left]
    exact wrap_pow p (by omega)
  have hless : bits .andNot .i64 (x : Int) (2 ^ p) = ((lessN x (2 ^ p) : Nat) : Int) := by
    have e : ((2 ^ p : Nat) : Int) = 2 ^ p := by simp
    rw [← e]
    exact less_nat x (2 ^ p) (by omega) hp2
  have hT0 := (Trip.new w 74 (.int .i64 (n:Int)) (.slice (some ⟨g, 0, none⟩) L cap) (.int .i64 (x:Int))).alloc (.cells #[.int .i64 0, .slice none 0 0, .int .i64 0] 74)
  have hR0 := Trip.new (w.alloc (.cells #[.int .i64 (n:Int), .slice (some ⟨g, 0, none⟩) L cap, .int .i64 (x:Int)] 74)) 74 (.int .i64 0) (.slice none 0 0) (.int .i64 0)
  have hB0 : Below w.heap.size w ((w.alloc (.cells #[.int .i64 (n:Int), .slice (some ⟨g, 0, none⟩) L cap, .int .i64 (x:Int)] 74)).alloc (.cells #[.int .i64 0, .slice none 0 0, .int .i64 0] 74)) := ((Below.refl _ w).alloc (Nat.le_refl _) _).alloc (by simp) _
  have hZ0 : ((w.alloc (.cells #[.int .i64 (n:Int), .slice (some ⟨g, 0, none⟩) L cap, .int .i64 (x:Int)] 74)).alloc (.cells #[.int .i64 0, .slice none 0 0, .int .i64 0] 74)).heap.size = w.heap.size + 2 := by simp
  simp only [World.size_alloc] at hR0
  rw [hL]
  rw [hL] at hS
  have HS := Lib.hid hS
  have HL := Lib.hid hL
  have HTl := Lib.hid hTl
  have HPx := Lib.hid hp
  clear hS hL hTl hp
  go_enter Try.func48, Try.ntmps48
  go_wp2
  obtain ⟨W0, hW0⟩ : ∃ W0, ((w.alloc (.cells #[.int .i64 (n:Int), .slice (some ⟨g, 0, none⟩) L cap, .int .i64 (x:Int)] 74)).alloc (.cells #[.int .i64 0, .slice none 0 0, .int .i64 0] 74)) = W0 := ⟨_, rfl⟩
  try simp only [hW0]
  rw [hW0] at hT0 hR0 hB0 hZ0
  clear hW0
  have hA0 : Trip W0.drew w.heap.size 74 (.int .i64 (n:Int)) (.slice (some ⟨g, 0, none⟩) L cap) (.int .i64 (x:Int)) := hT0
  have hR1 : Trip W0.drew (w.heap.size + 1) 74 (.int .i64 0) (.slice none 0 0) (.int .i64 0) := hR0
  have hB1 : Below w.heap.size w W0.drew := hB0.drew
  have hZ1 : W0.drew.heap.size = w.heap.size + 2 := hZ0
  clear hT0 hR0 hB0 hZ0
  refine wp_region_held_drew (S := fun W => Trip W w.heap.size 74 (.int .i64 (n:Int)) (.slice (some ⟨g, 0, none⟩) L cap) (.int .i64 (x:Int))) hmx hA0 (fun _ => ?_)
  generalize W0.drew = W4 at *
  refine take1 0 (v := ?_) rfl (by kernel_rfl) (by kernel_rfl) (by kernel_rfl) (fun _ _ _ h => h) (by rfl) ?_ hA0 ?_
  rotate_left
  · intro W9 hA
    have hp := hA
    clear hA
    have c0 := hp.cell0
    have c1 := hp.cell1
    have c2 := hp.cell2
    clear hp
    go_simp
    try with_reducible rfl
  try simp only [Act.put, List.setIfInBounds_toArray, List.set_cons_zero, List.set_cons_succ]
  refine take1 1 (v := ?_) rfl (by kernel_rfl) (by kernel_rfl) (by kernel_rfl) (fun _ _ _ h => h) (by rfl) ?_ hA0 ?_
  rotate_left
  · intro W9 hA
    have hp := hA
    clear hA
    have c0 := hp.cell0
    have c1 := hp.cell1
    have c2 := hp.cell2
    clear hp
    go_simp
    try with_reducible rfl
  try simp only [Act.put, List.setIfInBounds_toArray, List.set_cons_zero, List.set_cons_succ]
  refine take1 2 (v := ?_) rfl (by kernel_rfl) (by kernel_rfl) (by kernel_rfl) (fun _ _ _ h => h) (by rfl) ?_ hA0 ?_
  rotate_left
  · intro W9 hA
    have hp := hA
    clear hA
    have c0 := hp.cell0
    have c1 := hp.cell1
    have c2 := hp.cell2
    clear hp
    go_simp
    try with_reducible rfl
  try simp only [Act.put, List.setIfInBounds_toArray, List.set_cons_zero, List.set_cons_succ]
  refine take1 3 (v := ?_) rfl (by kernel_rfl) (by kernel_rfl) (by kernel_rfl) (fun _ _ _ h => h) (by rfl) ?_ hA0 ?_
  rotate_left
  · intro W9 hA
    have hp := hA
    clear hA
    have c0 := hp.cell0
    have c1 := hp.cell1
    have c2 := hp.cell2
    clear hp
    go_simp
    try with_reducible rfl
  try simp only [Act.put, List.setIfInBounds_toArray, List.set_cons_zero, List.set_cons_succ]
  refine take1 4 (v := ?_) rfl (by kernel_rfl) (by kernel_rfl) (by kernel_rfl) (fun _ _ _ h => h) (by rfl) ?_ hA0 ?_
  rotate_left
  · intro W9 hA
    have hp := hA
    clear hA
    have c0 := hp.cell0
    have c1 := hp.cell1
    have c2 := hp.cell2
    clear hp
    go_simp
    try with_reducible rfl
  try simp only [Act.put, List.setIfInBounds_toArray, List.set_cons_zero, List.set_cons_succ]
  refine take1 5 (v := ?_) rfl (by kernel_rfl) (by kernel_rfl) (by kernel_rfl) (fun _ _ _ h => h) (by rfl) ?_ hA0 ?_
  rotate_left
  · intro W9 hA
    have hp := hA
    clear hA
    have c0 := hp.cell0
    have c1 := hp.cell1
    have c2 := hp.cell2
    clear hp
    go_simp
    try with_reducible rfl
  try simp only [Act.put, List.setIfInBounds_toArray, List.set_cons_zero, List.set_cons_succ]
  refine take1 6 (v := ?_) rfl (by kernel_rfl) (by kernel_rfl) (by kernel_rfl) (fun _ _ _ h => h) (by rfl) ?_ hA0 ?_
  rotate_left
  · intro W9 hA
    have hp := hA
    clear hA
    have c0 := hp.cell0
    have c1 := hp.cell1
    have c2 := hp.cell2
    clear hp
    go_simp
    try with_reducible rfl
  try simp only [Act.put, List.setIfInBounds_toArray, List.set_cons_zero, List.set_cons_succ]
  refine take1 7 (v := ?_) rfl (by kernel_rfl) (by kernel_rfl) (by kernel_rfl) (fun _ _ _ h => h) (by rfl) ?_ hA0 ?_
  rotate_left
  · intro W9 hA
    have hp := hA
    clear hA
    have c0 := hp.cell0
    have c1 := hp.cell1
    have c2 := hp.cell2
    clear hp
    go_simp
    try with_reducible rfl
  try simp only [Act.put, List.setIfInBounds_toArray, List.set_cons_zero, List.set_cons_succ]
  refine take1 8 (v := ?_) rfl (by kernel_rfl) (by kernel_rfl) (by kernel_rfl) (fun _ _ _ h => h) (by rfl) ?_ hA0 ?_
  rotate_left
  · intro W9 hA
    have hp := hA
    clear hA
    have c0 := hp.cell0
    have c1 := hp.cell1
    have c2 := hp.cell2
    clear hp
    go_simp
    try with_reducible rfl
  try simp only [Act.put, List.setIfInBounds_toArray, List.set_cons_zero, List.set_cons_succ]
  refine take1 9 (v := ?_) rfl (by kernel_rfl) (by kernel_rfl) (by kernel_rfl) (fun _ _ _ h => h) (by rfl) ?_ hA0 ?_
  rotate_left
  · intro W9 hA
    have hp := hA
    clear hA
    have c0 := hp.cell0
    have c1 := hp.cell1
    have c2 := hp.cell2
    clear hp
    go_simp
    try with_reducible rfl
  try simp only [Act.put, List.setIfInBounds_toArray, List.set_cons_zero, List.set_cons_succ]
  refine take1 10 (v := ?_) rfl (by kernel_rfl) (by kernel_rfl) (by kernel_rfl) (fun _ _ _ h => h) (by rfl) ?_ hA0 ?_
  rotate_left
  · intro W9 hA
    have hp := hA
    clear hA
    have c0 := hp.cell0
    have c1 := hp.cell1
    have c2 := hp.cell2
    clear hp
    go_simp
    try with_reducible rfl
  try simp only [Act.put, List.setIfInBounds_toArray, List.set_cons_zero, List.set_cons_succ]
  refine take1 11 (v := ?_) rfl (by kernel_rfl) (by kernel_rfl) (by kernel_rfl) (fun _ _ _ h => h) (by rfl) ?_ hA0 ?_
  rotate_left
  · intro W9 hA
    have hp := hA
    clear hA
    have c0 := hp.cell0
    have c1 := hp.cell1
    have c2 := hp.cell2
    clear hp
    go_simp
    try with_reducible rfl
  try simp only [Act.put, List.setIfInBounds_toArray, List.set_cons_zero, List.set_cons_succ]
  refine take1 12 (v := ?_) rfl (by kernel_rfl) (by kernel_rfl) (by kernel_rfl) (fun _ _ _ h => h) (by rfl) ?_ hA0 ?_
  rotate_left
  · intro W9 hA
    have hp := hA
    clear hA
    have c0 := hp.cell0
    have c1 := hp.cell1
    have c2 := hp.cell2
    clear hp
    go_simp
    try with_reducible rfl
  try simp only [Act.put, List.setIfInBounds_toArray, List.set_cons_zero, List.set_cons_succ]
  refine take1 13 (v := ?_) rfl (by kernel_rfl) (by kernel_rfl) (by kernel_rfl) (fun _ _ _ h => h) (by rfl) ?_ hA0 ?_
  rotate_left
  · intro W9 hA
    have hp := hA
    clear hA
    have c0 := hp.cell0
    have c1 := hp.cell1
    have c2 := hp.cell2
    clear hp
    go_simp
    try with_reducible rfl
  try simp only [Act.put, List.setIfInBounds_toArray, List.set_cons_zero, List.set_cons_succ]
  obtain ⟨A, hAe⟩ : ∃ A : Option Addr, (if cap = p + 1 then some (⟨g, 0, none⟩ : Addr) else some ⟨g, p + 1, none⟩) = A := ⟨_, rfl⟩
  refine stop1 (by kernel_rfl) ?_
  simp only [hAe]
  have HAe := Lib.hid hAe
  clear hAe
  go_wp2
  have hA1 : Trip W4.drew w.heap.size 74 (.int .i64 (n:Int)) (.slice (some ⟨g, 0, none⟩) L cap) (.int .i64 (x:Int)) := hA0
  have hR2 : Trip W4.drew (w.heap.size + 1) 74 (.int .i64 0) (.slice none 0 0) (.int .i64 0) := hR1
  have hB2 : Below w.heap.size w W4.drew := hB1.drew
  have hZ2 : W4.drew.heap.size = w.heap.size + 2 := hZ1
  refine wp_region_held_drew (S := fun W => Trip W w.heap.size 74 (.int .i64 (n:Int)) (.slice (some ⟨g, 0, none⟩) L cap) (.int .i64 (x:Int))) hmx hA1 (fun _ => ?_)
  clear hA0 hR1 hB1 hZ1
  generalize W4.drew = W5 at *
  refine take1 0 (v := ?_) rfl (by kernel_rfl) (by kernel_rfl) (by kernel_rfl) (fun _ _ _ h => h) (by rfl) ?_ hA1 ?_
  rotate_left
  · intro W9 hA
    have hp := hA
    clear hA
    have c0 := hp.cell0
    have c1 := hp.cell1
    have c2 := hp.cell2
    clear hp
    go_simp
    try with_reducible rfl
  try simp only [Act.put, List.setIfInBounds_toArray, List.set_cons_zero, List.set_cons_succ]
  refine take1 1 (v := ?_) rfl (by kernel_rfl) (by kernel_rfl) (by kernel_rfl) (fun _ _ _ h => h) (by rfl) ?_ hA1 ?_
  rotate_left
  · intro W9 hA
    have hp := hA
    clear hA
    have c0 := hp.cell0
    have c1 := hp.cell1
    have c2 := hp.cell2
    clear hp
    go_simp
    try with_reducible rfl
  try simp only [Act.put, List.setIfInBounds_toArray, List.set_cons_zero, List.set_cons_succ]
  refine take1 2 (v := ?_) rfl (by kernel_rfl) (by kernel_rfl) (by kernel_rfl) (fun _ _ _ h => h) (by rfl) ?_ hA1 ?_
  rotate_left
  · intro W9 hA
    have hp := hA
    clear hA
    have c0 := hp.cell0
    have c1 := hp.cell1
    have c2 := hp.cell2
    clear hp
    go_simp
    try with_reducible rfl
  try simp only [Act.put, List.setIfInBounds_toArray, List.set_cons_zero, List.set_cons_succ]
  refine take1 3 (v := ?_) rfl (by kernel_rfl) (by kernel_rfl) (by kernel_rfl) (fun _ _ _ h => h) (by rfl) ?_ hA1 ?_
  rotate_left
  · intro W9 hA
    have hp := hA
    clear hA
    have c0 := hp.cell0
    have c1 := hp.cell1
    have c2 := hp.cell2
    clear hp
    go_simp
    try with_reducible rfl
  try simp only [Act.put, List.setIfInBounds_toArray, List.set_cons_zero, List.set_cons_succ]
  refine take1 4 (v := ?_) rfl (by kernel_rfl) (by kernel_rfl) (by kernel_rfl) (fun _ _ _ h => h) (by rfl) ?_ hA1 ?_
  rotate_left
  · intro W9 hA
    have hp := hA
    clear hA
    have c0 := hp.cell0
    have c1 := hp.cell1
    have c2 := hp.cell2
    clear hp
    go_simp
    try with_reducible rfl
  try simp only [Act.put, List.setIfInBounds_toArray, List.set_cons_zero, List.set_cons_succ]
  refine take1 7 (v := ?_) rfl (by kernel_rfl) (by kernel_rfl) (by kernel_rfl) (fun _ _ _ h => h) (by rfl) ?_ hA1 ?_
  rotate_left
  · intro W9 hA
    have hp := hA
    clear hA
    have c0 := hp.cell0
    have c1 := hp.cell1
    have c2 := hp.cell2
    clear hp
    go_simp
    try with_reducible rfl
  try simp only [Act.put, List.setIfInBounds_toArray, List.set_cons_zero, List.set_cons_succ]
  refine take1 8 (v := ?_) rfl (by kernel_rfl) (by kernel_rfl) (by kernel_rfl) (fun _ _ _ h => h) (by rfl) ?_ hA1 ?_
  rotate_left
  · intro W9 hA
    have hp := hA
    clear hA
    have c0 := hp.cell0
    have c1 := hp.cell1
    have c2 := hp.cell2
    clear hp
    go_simp
    try with_reducible rfl
  try simp only [Act.put, List.setIfInBounds_toArray, List.set_cons_zero, List.set_cons_succ]
  refine take1 9 (v := ?_) rfl (by kernel_rfl) (by kernel_rfl) (by kernel_rfl) (fun _ _ _ h => h) (by rfl) ?_ hA1 ?_
  rotate_left
  · intro W9 hA
    have hp := hA
    clear hA
    have c0 := hp.cell0
    have c1 := hp.cell1
    have c2 := hp.cell2
    clear hp
    go_simp
    try with_reducible rfl
  try simp only [Act.put, List.setIfInBounds_toArray, List.set_cons_zero, List.set_cons_succ]
  refine take1 10 (v := ?_) rfl (by kernel_rfl) (by kernel_rfl) (by kernel_rfl) (fun _ _ _ h => h) (by rfl) ?_ hA1 ?_
  rotate_left
  · intro W9 hA
    have hp := hA
    clear hA
    have c0 := hp.cell0
    have c1 := hp.cell1
    have c2 := hp.cell2
    clear hp
    go_simp
    try with_reducible rfl
  try simp only [Act.put, List.setIfInBounds_toArray, List.set_cons_zero, List.set_cons_succ]
  refine take1 11 (v := ?_) rfl (by kernel_rfl) (by kernel_rfl) (by kernel_rfl) (fun _ _ _ h => h) (by rfl) ?_ hA1 ?_
  rotate_left
  · intro W9 hA
    have hp := hA
    clear hA
    have c0 := hp.cell0
    have c1 := hp.cell1
    have c2 := hp.cell2
    clear hp
    go_simp
    try with_reducible rfl
  try simp only [Act.put, List.setIfInBounds_toArray, List.set_cons_zero, List.set_cons_succ]
  refine step1 5 (by kernel_rfl) rfl (fun K hK => ?_)
  rw [if_pos (by rfl)]
  refine wp_append_less (.tmp 22) (.tmp 23) rfl g p cap m xs T z W5 (by rw [HL.out]; exact HS.out.belowAll hB2) HPx.out HTl.out (by omega) hcap rfl (by rw [HAe.out]; rfl) (fun g' c' W6 hS6 hc6 hg6 hb6 => ?_)
  have hA6 := hA1.belowAll hb6
  have hR6 := hR2.belowAll hb6
  have hB6 := hB2.trans (hb6.mono hB2.size)
  have HS6 := Lib.hid hS6
  have HG6 : Hid (g' = g ∨ w.heap.size + 2 ≤ g') := Lib.hid (by rw [← hZ2]; exact hg6)
  clear hS6 hg6 hA1 hR2 hB2 hZ2 hb6
  refine hK.out _ _ hA6 ?_
  clear hK K
  try simp only [Act.put, List.setIfInBounds_toArray, List.set_cons_zero, List.set_cons_succ]
  refine take1 6 (v := ?_) rfl (by kernel_rfl) (by kernel_rfl) (by kernel_rfl) (fun _ _ _ h => h) (by rfl) ?_ hA6 ?_
  rotate_left
  · intro W9 hA
    have hp := hA
    clear hA
    have c0 := hp.cell0
    have c1 := hp.cell1
    have c2 := hp.cell2
    clear hp
    go_simp
    try with_reducible rfl
  try simp only [Act.put, List.setIfInBounds_toArray, List.set_cons_zero, List.set_cons_succ]
  refine take1 12 (v := ?_) rfl (by kernel_rfl) (by kernel_rfl) (by kernel_rfl) (fun _ _ _ h => h) (by rfl) ?_ hA6 ?_
  rotate_left
  · intro W9 hA
    have hp := hA
    clear hA
    have c0 := hp.cell0
    have c1 := hp.cell1
    have c2 := hp.cell2
    clear hp
    go_simp
    try with_reducible rfl
  try simp only [Act.put, List.setIfInBounds_toArray, List.set_cons_zero, List.set_cons_succ]
  refine step1 13 (by kernel_rfl) rfl (fun K hK => ?_)
  have hT9 := trip_set hR6 (.int .i64 (n:Int)) (.slice (some ⟨g', 0, none⟩) (p + m) c') (.int .i64 ((lessN x (2 ^ p) : Nat) : Int))
  have hB9 : Below w.heap.size w (((W6.setCell ⟨w.heap.size + 1, 0, none⟩ (.int .i64 (n:Int))).setCell ⟨w.heap.size + 1, 1, none⟩ (.slice (some ⟨g', 0, none⟩) (p + m) c')).setCell ⟨w.heap.size + 1, 2, none⟩ (.int .i64 ((lessN x (2 ^ p) : Nat) : Int))) := ((hB6.setCell (p := ⟨w.heap.size + 1, 0, none⟩) (by simp) _).setCell (p := ⟨w.heap.size + 1, 1, none⟩) (by simp) _).setCell (p := ⟨w.heap.size + 1, 2, none⟩) (by simp) _
  have hs9 : ∀ k, k ≠ w.heap.size + 1 → (((W6.setCell ⟨w.heap.size + 1, 0, none⟩ (.int .i64 (n:Int))).setCell ⟨w.heap.size + 1, 1, none⟩ (.slice (some ⟨g', 0, none⟩) (p + m) c')).setCell ⟨w.heap.size + 1, 2, none⟩ (.int .i64 ((lessN x (2 ^ p) : Nat) : Int))).heap[k]? = W6.heap[k]? := fun k hk =>
    (Below.heap_setCell _ ⟨w.heap.size + 1, 2, none⟩ _ k hk).trans ((Below.heap_setCell _ ⟨w.heap.size + 1, 1, none⟩ _ k hk).trans (Below.heap_setCell _ ⟨w.heap.size + 1, 0, none⟩ _ k hk))
  have c0 := hR6.cell0
  have c1 := hR6.cell1
  have c2 := hR6.cell2
  have f0 := hR6.frozen 0
  have f1 := hR6.frozen 1
  have f2 := hR6.frozen 2
  have hA9 := hA6.same (hs9 w.heap.size (by omega))
  have hglt : g < w.heap.size := HS.out.lt
  have HS9 := Lib.hid (HS6.out.same (hs9 g' (by rcases HG6.out with h | h <;> omega)))
  clear hR6 hA6
  go_simp
  refine hK.out _ _ hA9 ?_
  clear hK K hs9 c0 c1 c2 f0 f1 f2
  try simp only [Act.put, List.setIfInBounds_toArray, List.set_cons_zero, List.set_cons_succ]
  refine stop1 (by kernel_rfl) ?_
  have q0 := hT9.cell0
  have q1 := hT9.cell1
  have q2 := hT9.cell2
  generalize (((W6.setCell ⟨w.heap.size + 1, 0, none⟩ (.int .i64 (n:Int))).setCell ⟨w.heap.size + 1, 1, none⟩ (.slice (some ⟨g', 0, none⟩) (p + m) c')).setCell ⟨w.heap.size + 1, 2, none⟩ (.int .i64 ((lessN x (2 ^ p) : Nat) : Int))) = W9 at *
  go_wp2
  refine bodyPost_ret (v := .agg #[.int .i64 (n:Int), .slice (some ⟨g', 0, none⟩) (p + m) c', .int .i64 ((lessN x (2 ^ p) : Nat) : Int)]) (by simp [results, Try.results48, go_sem, q0, q1, q2]) rfl ⟨g', c', rfl, hB9, HS9.out, hc6, ?_⟩
  rcases HG6.out with h | h
  · exact .inl h
  · exact .inr (by omega)
end Go.Proofs.Ytkdgbnjpjkhopaa
