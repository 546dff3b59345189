/- Words, the program's side: ends, tidy texts, same texts. -/
import Derived.Test.YtgcfgegbbfbaaaaGW
import Derived.Test.YtgcfgegbbfbaaaaWrdX
namespace Go.Proofs.Ytgcfgegbbfbaaaa
open Go.RowKit Go.Shelf
set_option linter.unusedVariables false
attribute [local go_sem] Oper.semAt_some
theorem Lets.otherD {W : World} {v : Value} {k : Nat} {ls : List Nat} (h : Lets W v k ls) {B i : Nat} {x y : Value} (hD : Duo W B 48 x y) (u : Value) : Lets (W.setCell ⟨B, i, none⟩ u) v k ls :=
  Lets.grown (W := W) (W' := W.setCell ⟨B, i, none⟩ u) (fun b _ _ _ hT => Below.heap_setCell W ⟨B, i, none⟩ u b (fun e => by
    have e' : b = B := e
    subst e'
    have hD' : W.heap[b]? = some (.cells #[x, y] 48 (0, 0)) := hD
    have hT' : W.heap[b]? = _ := hT
    rw [hD'] at hT'
    simp at hT')) h
theorem Lets.ptr {W : World} {v : Value} {k : Nat} {ls : List Nat} (h : Lets W v k ls) : ∃ q, v = .pointer q := by
  cases ls with
  | nil => exact ⟨none, h⟩
  | cons l ls => obtain ⟨b, nx, e, _⟩ := h; exact ⟨_, e⟩
set_option maxRecDepth 100000 in
set_option maxHeartbeats 4000000 in
theorem wordOf_any (n : Int) (lv : Value) (xs : List Int) (s : ByteArray) (b : Nat) (w : World) (hs : s.size ≤ 1048576) (hI : IsInts w b lv xs) :
    Calls Try.prog 31 #[.int .i64 n, lv, .string s] w fun e w' => ((∃ q cs, LetIn n xs ∧ cntT xs.length s.toList = some cs ∧ e = .returned (.tuple #[.agg #[.int .i64 n, .pointer q], .agg (wV cs), .bool true]) ∧ Lets w' (.pointer q) 0 (letL xs)) ∨ ((¬ LetIn n xs ∨ cntT xs.length s.toList = none) ∧ ∃ m q x y z, e = .returned (.tuple #[.agg #[.int .i64 m, .pointer q], .agg #[.int .i64 x, .int .i64 y, .int .i64 z], .bool false]))) ∧ Below w.heap.size w w' := by
  have hD0 := (Duo.new w 48 (.int .i64 0) (.pointer none)).alloc (.cells #[.int .i64 0, .int .i64 0, .int .i64 0] 50)
  have hZ0 := Ter.new (w.alloc (.cells #[.int .i64 0, .pointer none] 48)) 50 (.int .i64 0) (.int .i64 0) (.int .i64 0)
  simp only [World.size_alloc] at hZ0
  have hB0 := (((Below.refl _ w).alloc (Nat.le_refl _) (.cells #[.int .i64 0, .pointer none] 48)).alloc (by simp) (.cells #[.int .i64 0, .int .i64 0, .int .i64 0] 50))
  have hI0 := hI.belowAll hB0
  obtain ⟨W0, hW0⟩ : ∃ W0, ((w.alloc (.cells #[.int .i64 0, .pointer none] 48)).alloc (.cells #[.int .i64 0, .int .i64 0, .int .i64 0] 50)) = W0 := ⟨_, rfl⟩
  rw [hW0] at hD0 hZ0 hB0 hI0
  have HA := Lib.hid (alphabetOf_any n lv xs b W0 hI0)
  have HB0 := Lib.hid hB0
  have HD0 := Lib.hid hD0
  have HZ0 := Lib.hid hZ0
  have HLl : Hid ((letL xs).length = xs.length) := Lib.hid (by simp [letL])
  have HS := Lib.hid hs
  clear hI hs hD0 hZ0 hB0 hI0
  go_enter Try.func31, Try.ntmps31
  go_wp2_with fail
  clear hW0
  refine HA.out.mono ?_
  rintro e W1 ⟨⟨hL, p, rfl, hLt⟩ | ⟨hL, rfl⟩, hb1⟩
  · obtain ⟨q, rfl⟩ := hLt.ptr
    obtain ⟨m, rfl⟩ : ∃ m : Nat, n = (m : Int) := ⟨n.toNat, by have := hL.1; omega⟩
    have hRd := read_any m (.pointer q) (letL xs) s (W1.alloc (.cells #[.int .i64 (m:Int), .pointer q] 48)) (by rw [HLl.out]; exact hL.2.2.1) HS.out (hLt.below ((Below.refl _ _).alloc (Nat.le_refl _) _))
    rw [HLl.out] at hRd
    have HRd := Lib.hid hRd
    have HD1 := Lib.hid ((HD0.out.bel HD0.out.lt hb1).alloc (.cells #[.int .i64 (m:Int), .pointer q] 48))
    have HZ1 := Lib.hid ((HZ0.out.below HZ0.out.lt hb1).alloc (.cells #[.int .i64 (m:Int), .pointer q] 48))
    have HA1 := Lib.hid (Duo.new W1 48 (.int .i64 (m:Int)) (.pointer q))
    have HB1 := Lib.hid ((HB0.out.trans (hb1.mono HB0.out.size)).alloc (Nat.le_trans HB0.out.size hb1.size) (.cells #[.int .i64 (m:Int), .pointer q] 48))
    have HLt := Lib.hid (hLt.below ((Below.refl W1.heap.size W1).alloc (Nat.le_refl _) (.cells #[.int .i64 (m:Int), .pointer q] 48)))
    have HL := Lib.hid hL
    clear hL hLt hRd hb1
    go_wp2_with fail
    obtain ⟨W2, hW2⟩ : ∃ W2, W1.alloc (.cells #[.int .i64 (m:Int), .pointer q] 48) = W2 := ⟨_, rfl⟩
    rw [hW2] at HRd HD1 HZ1 HA1 HB1 HLt ⊢
    clear hW2
    obtain ⟨cs, hcs⟩ : ∃ cs, cntT xs.length s.toList = cs := ⟨_, rfl⟩
    have HCs := Lib.hid hcs
    rw [hcs] at HRd
    clear hcs
    obtain ⟨ys, hys⟩ : ∃ ys, cs.getD [] = ys := ⟨_, rfl⟩
    obtain ⟨q2, hq2⟩ : ∃ q2, cs.isSome = q2 := ⟨_, rfl⟩
    have HYs := Lib.hid (⟨hys, hq2⟩ : cs.getD [] = ys ∧ cs.isSome = q2)
    rw [hys, hq2] at HRd
    clear hys hq2
    unfold wV at HRd
    refine HRd.out.mono ?_
    rintro e W3 ⟨rfl, hb3⟩
    have hD3 := (HD1.out.bel HD1.out.lt hb3).alloc (.cells #[.int .i64 (cO ys 0), .int .i64 (cO ys 1), .int .i64 (cO ys 2)] 50)
    have hZ3 := (HZ1.out.below HZ1.out.lt hb3).alloc (.cells #[.int .i64 (cO ys 0), .int .i64 (cO ys 1), .int .i64 (cO ys 2)] 50)
    have hA3 := (HA1.out.bel HA1.out.lt hb3).alloc (.cells #[.int .i64 (cO ys 0), .int .i64 (cO ys 1), .int .i64 (cO ys 2)] 50)
    have hY3 := Ter.new W3 50 (.int .i64 (cO ys 0)) (.int .i64 (cO ys 1)) (.int .i64 (cO ys 2))
    have HB3 := Lib.hid ((HB1.out.trans (hb3.mono HB1.out.size)).alloc (Nat.le_trans HB1.out.size hb3.size) (.cells #[.int .i64 (cO ys 0), .int .i64 (cO ys 1), .int .i64 (cO ys 2)] 50))
    have HLt3 := Lib.hid ((HLt.out.below hb3).below ((Below.refl W3.heap.size W3).alloc (Nat.le_refl _) (.cells #[.int .i64 (cO ys 0), .int .i64 (cO ys 1), .int .i64 (cO ys 2)] 50)))
    have lt3 := (HZ1.out.below HZ1.out.lt hb3).lt
    clear hb3
    go_wp2_with fail
    obtain ⟨W4, hW4⟩ : ∃ W4, W3.alloc (.cells #[.int .i64 (cO ys 0), .int .i64 (cO ys 1), .int .i64 (cO ys 2)] 50) = W4 := ⟨_, rfl⟩
    rw [hW4] at hD3 hZ3 hA3 hY3 HB3 HLt3 ⊢
    clear hW4
    have a0 := hA3.cell0
    have a1 := hA3.cell1
    have y0 := hY3.cell0
    have y1 := hY3.cell1
    have y2 := hY3.cell2
    have hY6 := (hY3.off (p := ⟨w.heap.size, 0, none⟩) (by show _ ≠ w.heap.size; omega) (.int .i64 (m:Int))).off (p := ⟨w.heap.size, 1, none⟩) (by show _ ≠ w.heap.size; omega) (.pointer q)
    have y60 := hY6.cell0
    have y61 := hY6.cell1
    have y62 := hY6.cell2
    have cd0 := hD3.cell0
    have cd1 := hD3.cell1
    have fd0 := hD3.frozen 0
    have fd1 := hD3.frozen 1
    have hD5 := hD3.setc 0 (.int .i64 (m:Int)) (by omega)
    have cd1s := hD5.cell1
    have fd1s := hD5.frozen 1
    have hD6 := hD5.setc 1 (.pointer q) (by omega)
    have cz0 := hZ3.cell0
    have cz1 := hZ3.cell1
    have cz2 := hZ3.cell2
    have fz0 := hZ3.frozen 0
    have fz1 := hZ3.frozen 1
    have fz2 := hZ3.frozen 2
    have hZ5 := (hZ3.off (p := ⟨w.heap.size, 0, none⟩) (by show _ ≠ w.heap.size; omega) (.int .i64 (m:Int))).off (p := ⟨w.heap.size, 1, none⟩) (by show _ ≠ w.heap.size; omega) (.pointer q)
    have czz0 := hZ5.cell0
    have fzz0 := hZ5.frozen 0
    have hZ6 := hZ5.s0 (.int .i64 (cO ys 0))
    have czz1 := hZ6.cell1
    have fzz1 := hZ6.frozen 1
    have hZ7 := hZ6.s1 (.int .i64 (cO ys 1))
    have czz2 := hZ7.cell2
    have fzz2 := hZ7.frozen 2
    have hZ8 := hZ7.s2 (.int .i64 (cO ys 2))
    have hD8 := ((hD6.off (p := ⟨w.heap.size + 1, 0, none⟩) (by show _ ≠ w.heap.size + 1; omega) (.int .i64 (cO ys 0))).off (p := ⟨w.heap.size + 1, 1, none⟩) (by show _ ≠ w.heap.size + 1; omega) (.int .i64 (cO ys 1))).off (p := ⟨w.heap.size + 1, 2, none⟩) (by show _ ≠ w.heap.size + 1; omega) (.int .i64 (cO ys 2))
    have r0 := hD8.cell0
    have r1 := hD8.cell1
    have s0 := hZ8.cell0
    have s1 := hZ8.cell1
    have s2 := hZ8.cell2
    have HLt8 := Lib.hid (((((HLt3.out.otherD (i := 0) hD3 (.int .i64 (m:Int))).otherD (i := 1) hD5 (.pointer q)).other (i := 0) hZ5 (.int .i64 (cO ys 0))).other (i := 1) hZ6 (.int .i64 (cO ys 1))).other (i := 2) hZ7 (.int .i64 (cO ys 2)))
    have HB8 := Lib.hid (((((HB3.out.setCell (p := ⟨w.heap.size, 0, none⟩) (Nat.le_refl _) (.int .i64 (m:Int))).setCell (p := ⟨w.heap.size, 1, none⟩) (Nat.le_refl _) (.pointer q)).setCell (p := ⟨w.heap.size + 1, 0, none⟩) (Nat.le_succ _) (.int .i64 (cO ys 0))).setCell (p := ⟨w.heap.size + 1, 1, none⟩) (Nat.le_succ _) (.int .i64 (cO ys 1))).setCell (p := ⟨w.heap.size + 1, 2, none⟩) (Nat.le_succ _) (.int .i64 (cO ys 2)))
    go_region
    go_wp2
    refine bodyPost_ret (v := .tuple #[.agg #[.int .i64 (m:Int), .pointer q], .agg #[.int .i64 (cO ys 0), .int .i64 (cO ys 1), .int .i64 (cO ys 2)], .bool q2]) (by simp [results, Try.results31, go_sem, r0, r1, s0, s1, s2]) rfl ⟨?_, HB8.out.drew⟩
    cases cs with
    | none =>
      obtain ⟨rfl, rfl⟩ := HYs.out
      exact .inr ⟨.inr HCs.out, _, _, _, _, _, rfl⟩
    | some cs =>
      obtain ⟨rfl, rfl⟩ := HYs.out
      exact .inl ⟨HL.out, q, cs, HCs.out, rfl, HLt8.out.drew⟩
  · have HB1 := Lib.hid ((HB0.out.trans (hb1.mono HB0.out.size)).alloc (Nat.le_trans HB0.out.size hb1.size) (.cells #[.int .i64 0, .pointer none] 48))
    have hD3 := (HD0.out.bel HD0.out.lt hb1).alloc (.cells #[.int .i64 0, .pointer none] 48)
    have hZ3 := (HZ0.out.below HZ0.out.lt hb1).alloc (.cells #[.int .i64 0, .pointer none] 48)
    have HL := Lib.hid hL
    clear hL hb1
    have cd0 := hD3.cell0
    have cd1 := hD3.cell1
    have fd0 := hD3.frozen 0
    have fd1 := hD3.frozen 1
    have hD5 := hD3.setc 0 (.int .i64 0) (by omega)
    have cd1s := hD5.cell1
    have fd1s := hD5.frozen 1
    have hD6 := hD5.setc 1 (.pointer none) (by omega)
    have cz0 := hZ3.cell0
    have cz1 := hZ3.cell1
    have cz2 := hZ3.cell2
    have fz0 := hZ3.frozen 0
    have fz1 := hZ3.frozen 1
    have fz2 := hZ3.frozen 2
    have hZ5 := (hZ3.off (p := ⟨w.heap.size, 0, none⟩) (by show _ ≠ w.heap.size; omega) (.int .i64 0)).off (p := ⟨w.heap.size, 1, none⟩) (by show _ ≠ w.heap.size; omega) (.pointer none)
    have czz0 := hZ5.cell0
    have fzz0 := hZ5.frozen 0
    have hZ6 := hZ5.s0 (.int .i64 0)
    have czz1 := hZ6.cell1
    have fzz1 := hZ6.frozen 1
    have hZ7 := hZ6.s1 (.int .i64 0)
    have czz2 := hZ7.cell2
    have fzz2 := hZ7.frozen 2
    have hZ8 := hZ7.s2 (.int .i64 0)
    have hD8 := ((hD6.off (p := ⟨w.heap.size + 1, 0, none⟩) (by show _ ≠ w.heap.size + 1; omega) (.int .i64 0)).off (p := ⟨w.heap.size + 1, 1, none⟩) (by show _ ≠ w.heap.size + 1; omega) (.int .i64 0)).off (p := ⟨w.heap.size + 1, 2, none⟩) (by show _ ≠ w.heap.size + 1; omega) (.int .i64 0)
    have r0 := hD8.cell0
    have r1 := hD8.cell1
    have s0 := hZ8.cell0
    have s1 := hZ8.cell1
    have s2 := hZ8.cell2
    go_wp2
    exact bodyPost_ret (v := .tuple #[.agg #[.int .i64 0, .pointer none], .agg #[.int .i64 0, .int .i64 0, .int .i64 0], .bool false]) (by simp [results, Try.results31, go_sem, r0, r1, s0, s1, s2]) rfl ⟨.inr ⟨.inl HL.out, _, _, _, _, _, rfl⟩, (((((HB1.out.setCell (p := ⟨w.heap.size, 0, none⟩) (Nat.le_refl _) (.int .i64 0)).setCell (p := ⟨w.heap.size, 1, none⟩) (Nat.le_refl _) (.pointer none)).setCell (p := ⟨w.heap.size + 1, 0, none⟩) (Nat.le_succ _) (.int .i64 0)).setCell (p := ⟨w.heap.size + 1, 1, none⟩) (Nat.le_succ _) (.int .i64 0)).setCell (p := ⟨w.heap.size + 1, 2, none⟩) (Nat.le_succ _) (.int .i64 0))⟩
theorem cnt_abs (m : Nat) (s : ByteArray) (cs : List Int) (h : cntT m s.toList = some cs) : cs.length = m ∧ absL cs ≤ 60 ∧ ∀ i, (cO cs i).natAbs ≤ 60 := by
  obtain ⟨a, b, c, d, e⟩ := cntT_some m s.toList cs h
  exact ⟨c, by omega, fun i => Nat.le_trans (abs_get cs i) (by omega)⟩
theorem let_le (n : Nat) (xs : List Int) (h : LetIn (n : Int) xs) : ∀ l ∈ letL xs, l ≤ 12 := by
  intro l hl
  obtain ⟨x, hx, e⟩ := List.mem_map.1 hl
  obtain ⟨i, hi, he⟩ := List.getElem_of_mem hx
  have h1 := h.2.2.2 i hi
  rw [List.getD_eq_getElem?_getD, List.getElem?_eq_getElem hi] at h1
  have h2 : 1 ≤ xs[i] ∧ xs[i] ≤ (n:Int) - 1 := h1
  rw [he] at h2
  have := h.1
  omega
set_option maxRecDepth 100000 in
set_option maxHeartbeats 2000000 in
theorem any_WordEnd : AnyWordEnd := by
  intro n lv xs s b w hxl hs hI
  have HW := Lib.hid (wordOf_any n lv xs s b w hs hI)
  have HB := Lib.hid (Below.refl w.heap.size w)
  clear hI hs hxl
  go_enter Try.func11, Try.ntmps11
  go_wp2_with fail
  refine HW.out.mono ?_
  rintro e W1 ⟨⟨q, cs, hL, hc, rfl, hLt⟩ | ⟨hno, m, q, x, y, z, rfl⟩, hb1⟩
  · obtain ⟨m, rfl⟩ : ∃ m : Nat, n = (m : Int) := ⟨n.toNat, by have := hL.1; omega⟩
    obtain ⟨c1, c2, c3⟩ := cnt_abs xs.length s cs hc
    have hll : (letL xs).length = xs.length := by simp [letL]
    have HV := Lib.hid (endO_yes m xs s cs hL hc).1
    have HB2 : Hid (Below w.heap.size w ((W1.alloc (.cells #[.int .i64 (m:Int), .pointer q] 48)).alloc (.cells #[.int .i64 (cO cs 0), .int .i64 (cO cs 1), .int .i64 (cO cs 2)] 50))) := Lib.hid ((hb1.alloc hb1.size _).alloc (by have := hb1.size; simp; omega) _)
    have hLt2 := (hLt.below ((Below.refl W1.heap.size W1).alloc (Nat.le_refl _) (.cells #[.int .i64 (m:Int), .pointer q] 48))).below ((Below.refl _ _).alloc (Nat.le_refl _) (.cells #[.int .i64 (cO cs 0), .int .i64 (cO cs 1), .int .i64 (cO cs 2)] 50))
    have HE := Lib.hid (end_any m (.pointer q) (letL xs) cs _ (by have := hL.1; omega) (by have := hL.1; omega) (by rw [c1, hll]) (by rw [hll]; exact hL.2.2.1) c3 (let_le m xs hL) hLt2)
    clear hL hc hLt hb1 c1 c2 c3 hll hLt2
    unfold wV at *
    go_wp2_with fail
    refine HE.out.mono ?_
    rintro e W2 ⟨rfl, hb2⟩
    have HB3 := Lib.hid (HB2.out.trans (hb2.mono HB2.out.size))
    go_wp2
    exact bodyPost_ret (v := .tuple #[.int .i64 ((endW m (letL xs) cs : Nat) : Int), .bool true]) (by simp [results, Try.results11, go_sem]) rfl ⟨by rw [HV.out]; rfl, HB3.out⟩
  · have HV := Lib.hid (endO_no n xs s hno).1
    have HB2 : Hid (Below w.heap.size w ((W1.alloc (.cells #[.int .i64 m, .pointer q] 48)).alloc (.cells #[.int .i64 x, .int .i64 y, .int .i64 z] 50))) := Lib.hid ((hb1.alloc hb1.size _).alloc (by have := hb1.size; simp; omega) _)
    clear hb1 hno
    go_wp2
    exact bodyPost_ret (v := .tuple #[.int .i64 0, .bool false]) (by simp [results, Try.results11, go_sem]) rfl ⟨by rw [HV.out]; rfl, HB2.out⟩
set_option maxRecDepth 100000 in
set_option maxHeartbeats 2000000 in
theorem any_WordTidy : AnyWordTidy := by
  intro n lv xs s b w hxl hs hI
  have HW := Lib.hid (wordOf_any n lv xs s b w hs hI)
  have HB := Lib.hid (Below.refl w.heap.size w)
  clear hI hs hxl
  go_enter Try.func14, Try.ntmps14
  go_wp2_with fail
  refine HW.out.mono ?_
  rintro e W1 ⟨⟨q, cs, hL, hc, rfl, hLt⟩ | ⟨hno, m, q, x, y, z, rfl⟩, hb1⟩
  · obtain ⟨m, rfl⟩ : ∃ m : Nat, n = (m : Int) := ⟨n.toNat, by have := hL.1; omega⟩
    obtain ⟨c0, cl, c1, c2, c3⟩ := cntT_some xs.length s.toList cs hc
    have hll : (letL xs).length = xs.length := by simp [letL]
    have HV := Lib.hid (endO_yes m xs s cs hL hc).2
    have HB2 : Hid (Below w.heap.size w ((W1.alloc (.cells #[.int .i64 (m:Int), .pointer q] 48)).alloc (.cells #[.int .i64 (cO cs 0), .int .i64 (cO cs 1), .int .i64 (cO cs 2)] 50))) := Lib.hid ((hb1.alloc hb1.size _).alloc (by have := hb1.size; simp; omega) _)
    have hLt2 := (hLt.below ((Below.refl W1.heap.size W1).alloc (Nat.le_refl _) (.cells #[.int .i64 (m:Int), .pointer q] 48))).below ((Below.refl _ _).alloc (Nat.le_refl _) (.cells #[.int .i64 (cO cs 0), .int .i64 (cO cs 1), .int .i64 (cO cs 2)] 50))
    have HE := Lib.hid (write_any m (.pointer q) (letL xs) cs _ (by rw [c1, hll]) (by rw [hll]; exact hL.2.2.1) (by omega) hLt2)
    clear hL hc hLt hb1 c0 cl c1 c2 c3 hll hLt2
    unfold wV at *
    generalize toB (textC 0 cs) = X at *
    go_wp2_with fail
    refine HE.out.mono ?_
    rintro e W2 ⟨rfl, hb2⟩
    have HB3 := Lib.hid (HB2.out.trans (hb2.mono HB2.out.size))
    go_wp2
    exact bodyPost_ret (v := .tuple #[.string X, .bool true]) (by simp [results, Try.results14, go_sem]) rfl ⟨by rw [HV.out]; rfl, HB3.out⟩
  · have HV := Lib.hid (endO_no n xs s hno).2
    have HB2 : Hid (Below w.heap.size w ((W1.alloc (.cells #[.int .i64 m, .pointer q] 48)).alloc (.cells #[.int .i64 x, .int .i64 y, .int .i64 z] 50))) := Lib.hid ((hb1.alloc hb1.size _).alloc (by have := hb1.size; simp; omega) _)
    clear hb1 hno
    go_wp2
    exact bodyPost_ret (v := .tuple #[.string ⟨#[]⟩, .bool false]) (by simp [results, Try.results14, go_sem]) rfl ⟨by rw [HV.out]; rfl, HB2.out⟩
set_option maxHeartbeats 2000000 in
theorem any_WordSame : AnyWordSame := by
  intro n lv xs s t b w hxl hs ht hI
  have HW := Lib.hid (any_WordEnd n lv xs s b w hxl hs hI)
  have HI := Lib.hid (fun W (hb : Below w.heap.size w W) => any_WordEnd n lv xs t b W hxl ht (hI.belowAll hb))
  clear hI hs hxl ht
  have HV : Hid (sameO n xs s t = ((endO n xs s).isSome && (endO n xs t).isSome && decide ((endO n xs s).getD 0 = (endO n xs t).getD 0))) := Lib.hid rfl
  obtain ⟨e1, he1⟩ : ∃ e1, (endO n xs s).getD 0 = e1 := ⟨_, rfl⟩
  obtain ⟨e2, he2⟩ : ∃ e2, (endO n xs t).getD 0 = e2 := ⟨_, rfl⟩
  obtain ⟨b1, hb1⟩ : ∃ b1, (endO n xs s).isSome = b1 := ⟨_, rfl⟩
  obtain ⟨b2, hb2⟩ : ∃ b2, (endO n xs t).isSome = b2 := ⟨_, rfl⟩
  rw [he1, hb1] at HW
  rw [he2, hb2] at HI
  rw [he1, he2, hb1, hb2] at HV
  clear he1 he2 hb1 hb2
  have HQ : Hid (((e1 : Int) == (e2 : Int)) = decide (e1 = e2)) := Lib.hid (by
    by_cases h : e1 = e2
    · subst h; simp
    · rw [decide_eq_false h]; simp; omega)
  go_enter Try.func18, Try.ntmps18
  go_wp2_with fail
  refine HW.out.mono ?_
  rintro e W1 ⟨rfl, hb1⟩
  cases b1
  · go_wp2
    go_ret
    exact ⟨ret_bool (by rw [HV.out]; rfl), hb1⟩
  · go_wp2_with fail
    refine (HI.out _ hb1).mono ?_
    rintro e W2 ⟨rfl, hb2⟩
    have HB := Lib.hid (hb1.trans (hb2.mono hb1.size))
    clear hb1 hb2
    cases b2
    · go_wp2
      go_ret
      exact ⟨ret_bool (by rw [HV.out]; rfl), HB.out⟩
    · by_cases he : e1 = e2
      · have q1 : ((e1 : Int) == (e2 : Int)) = true := by rw [HQ.out, decide_eq_true he]
        have HV2 : Hid (sameO n xs s t = true) := Lib.hid (by rw [HV.out, decide_eq_true he]; rfl)
        clear he
        go_wp2
        go_ret
        exact ⟨ret_bool HV2.out.symm, HB.out⟩
      · have q1 : ((e1 : Int) == (e2 : Int)) = false := by rw [HQ.out, decide_eq_false he]
        have HV2 : Hid (sameO n xs s t = false) := Lib.hid (by rw [HV.out, decide_eq_false he]; rfl)
        clear he
        go_wp2
        go_ret
        exact ⟨ret_bool HV2.out.symm, HB.out⟩
end Go.Proofs.Ytgcfgegbbfbaaaa
