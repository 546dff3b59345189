/- Differences, the program's side: shifts of a set. Written by gen78.py. -/
import Derived.Test.YtaomjhkodohkcaaDfpA
namespace Go.Proofs.Ytaomjhkodohkcaa
open Go.RowKit Go.Shelf
set_option linter.unusedVariables false
attribute [local go_sem] Oper.semAt_some
/-- v reads as a list of sets, in memory from block b on. -/
def IsSets (W : World) (b : Nat) (v : Value) (xs : List Int) : Prop := W.ownsRow b 45 1 v xs.length (xs.map (Value.int .i64))
theorem IsSets.cell {W : World} {b g cap len : Nat} {xs : List Int} (h : IsSets W b (.slice (some ⟨g, 0, none⟩) len cap) xs) {i : Nat} (hi : i < xs.length) : W.cell? ⟨g, i, none⟩ = some (.int .i64 (xs.getD i 0)) := by
  have hx : (xs.map (Value.int .i64))[i]? = some (.int .i64 (xs.getD i 0)) := by
    rw [List.getElem?_map, List.getElem?_eq_getElem hi, List.getD_eq_getElem?_getD, List.getElem?_eq_getElem hi]; rfl
  have h2 := World.ownsRow.cells h (g := g) rfl i _ hx
  have hadd : (⟨g, 0, none⟩ : Addr).add i = ⟨g, i, none⟩ := by unfold Addr.add; split <;> simp_all
  rw [hadd] at h2
  exact h2
theorem IsSets.frozen {W : World} {b g cap : Nat} {xs : List Int} (h : IsSets W b (.slice (some ⟨g, 0, none⟩) xs.length cap) xs) (i : Nat) : W.frozen? ⟨g, i, none⟩ = false := World.ownsRow.frozenAt h i
theorem IsSets.set {W : World} {b g cap : Nat} {xs : List Int} (h : IsSets W b (.slice (some ⟨g, 0, none⟩) xs.length cap) xs) (i : Nat) (z : Int) :
    IsSets (W.setCell ⟨g, i, none⟩ (.int .i64 z)) b (.slice (some ⟨g, 0, none⟩) (xs.set i z).length cap) (xs.set i z) := by
  have := (World.ownsRow.stored h i (.int .i64 z)).1
  unfold IsSets
  rw [List.length_set, List.map_set]
  exact this
theorem IsSets.below {W W' : World} {b : Nat} {v : Value} {xs : List Int} (h : IsSets W b v xs) {N : Nat} (hN : ∀ g, v.ownBlock = some g → g < N) (hb : Below N W W') : IsSets W' b v xs := by
  refine ⟨h.1, ?_⟩
  rcases h.2 with hn | ⟨g, cap, cur, rfl, h1, hgg, rest⟩
  · exact .inl hn
  · exact .inr ⟨g, cap, cur, rfl, h1, (hb.block g (hN g rfl)).trans hgg, rest⟩
theorem IsSets.belowAll {W W' : World} {b : Nat} {v : Value} {xs : List Int} (h : IsSets W b v xs) (hb : Below W.heap.size W W') : IsSets W' b v xs :=
  h.below (fun g hg => (World.ownsRow.lt h g hg).2) hb
theorem IsSets.base {W : World} {b b' : Nat} {v : Value} {xs : List Int} (h : IsSets W b v xs) (hb : b' ≤ b) : IsSets W b' v xs := by
  refine ⟨h.1, ?_⟩
  rcases h.2 with hn | ⟨g, cap, cur, rfl, h1, rest⟩
  · exact .inl hn
  · exact .inr ⟨g, cap, cur, rfl, by omega, rest⟩
theorem Try.infoPlaces : (Try.prog.info? 45).map (fun i => (i.zero, i.size, i.bytes)) = some (some (.int .i64 0), 1, 8) := by kernel_rfl
theorem make_sets (n : Nat) (hn : n ≤ 1000) (w : World) :
    (Instr.makeSlice 80 (.int .i64 (n:Int)) (.int .i64 (n:Int))).run Try.prog w = .ok (.slice (some ⟨w.heap.size, 0, none⟩) n n) (w.alloc (.cells (madeCells #[.int .i64 0] n) 45)) := by
  obtain ⟨i0, hi, hz0, hz1, hz2⟩ := info_parts Try.infoPlaces
  have h := run_make (P := Try.prog) w 80 45 i0 _ Try.underlying80 hi hz0 .i64 .i64 (n:Int) (n:Int) (by omega) (Int.le_refl _) (by rw [hz2]; omega) (by omega)
  simp only [hz1, Nat.mul_one, Int.toNat_natCast] at h
  exact h
theorem made_sets (n : Nat) (hn : n ≤ 1000) (w : World) : IsSets (w.alloc (.cells (madeCells #[.int .i64 0] n) 45)) w.heap.size (.slice (some ⟨w.heap.size, 0, none⟩) n n) (List.replicate n 0) := by
  have h := World.ownsRow_lit (base := w.heap.size) (e := 45) (size := 1) w (madeCells #[.int .i64 0] n) n (Nat.le_refl _) (by unfold maxLen; omega) (by simpa using size_madeCells #[Value.int .i64 0] n)
  unfold IsSets
  rw [List.length_replicate]
  have e : (List.replicate n (0 : Int)).map (Value.int .i64) = (madeCells #[Value.int .i64 0] n).toList := by
    rw [toList_madeCells_one, List.map_replicate]
  rw [e]
  exact h
/-- The first k shifts. -/
def shTo (n s k : Nat) : List Int := tabI n fun i => if i < k then ((shiftN n s (i : Int) : Nat) : Int) else 0
theorem shTo_len (n s k : Nat) : (shTo n s k).length = n := tabI_len n _
theorem shTo_zero (n s : Nat) : shTo n s 0 = List.replicate n 0 := by
  refine List.ext_getElem (by simp [shTo, tabI]) fun k h1 h2 => ?_
  simp [shTo, tabI]
theorem shTo_end (n s : Nat) : shTo n s n = shL n s := tabI_congr n _ _ fun i hi => by rw [if_pos hi]
theorem shTo_step (n s k : Nat) : shTo n s (k + 1) = (shTo n s k).set k ((shiftN n s (k : Int) : Nat) : Int) := by
  unfold shTo
  rw [tabI_set]
  refine tabI_congr n _ _ fun i hi => ?_
  by_cases e : i = k
  · subst e; rw [if_pos (by omega), if_pos rfl]
  · rw [if_neg e]
    by_cases h : i < k
    · rw [if_pos h, if_pos (by omega)]
    · rw [if_neg h, if_neg (by omega)]
set_option maxHeartbeats 1000000 in
theorem shifts_any (n s : Nat) (w : World) (h1 : 1 ≤ n) (h2 : n ≤ 12) (hs : s < 2 ^ n) :
    Calls Try.prog 81 #[.agg #[.int .i64 (n:Int)], .int .i64 (s:Int)] w fun e w' => ∃ g, e = .returned (.slice (some ⟨g, 0, none⟩) n n) ∧ Below w.heap.size w w' ∧ IsSets w' w.heap.size (.slice (some ⟨g, 0, none⟩) n n) (shL n s) := by
  have hp := pow_le n h2
  have hmk := make_sets n (by omega) (w.alloc (.cells #[.int .i64 (n:Int)] 40))
  have hm0 := made_sets n (by omega) (w.alloc (.cells #[.int .i64 (n:Int)] 40))
  rw [← shTo_zero n s] at hm0
  rw [World.size_alloc] at hmk hm0
  have HM := Lib.hid hm0
  have HSh := Lib.hid (fun (k : Nat) (hk : k < n) W => shift_any n s (k : Int) W h1 h2 (by omega) (by omega) (by omega))
  have HEnd := Lib.hid (shTo_end n s)
  have HSt := Lib.hid (fun k => shTo_step n s k)
  have HLen := Lib.hid (fun k => shTo_len n s k)
  have hR0 := (Boxed.new w 40 (.int .i64 (n:Int)))
  have c0 := hR0.cell
  clear hm0 hs hp
  go_enter Try.func81, Try.ntmps81
  go_wp2
  have hB0 : Below w.heap.size w ((w.alloc (.cells #[.int .i64 (n:Int)] 40)).alloc (.cells (madeCells #[.int .i64 0] n) 45)) := ((Below.refl _ _).alloc (Nat.le_refl _) _).alloc (by simp) _
  have hR1 := hR0.alloc (.cells (madeCells #[.int .i64 0] n) 45)
  obtain ⟨W0, hW0⟩ : ∃ W0, (w.alloc (.cells #[.int .i64 (n:Int)] 40)).alloc (.cells (madeCells #[.int .i64 0] n) 45) = W0 := ⟨_, rfl⟩
  rw [hW0] at hB0 HM hR1 ⊢
  clear hW0 hmk hR0 c0
  go_loopw [12] (fun u wr => ∃ k : Nat, k ≤ n ∧ u = .int .i64 (k : Int) ∧ Boxed wr w.heap.size 40 (.int .i64 (n:Int)) ∧ IsSets wr (w.heap.size + 1) (.slice (some ⟨w.heap.size + 1, 0, none⟩) n n) (shTo n s k) ∧ Below w.heap.size w wr) (fun u _ => n - (intOf u).toNat)
  case atStart => exact ⟨0, Nat.zero_le _, rfl, hR1, HM.out, hB0⟩
  case round =>
    obtain ⟨k, hk, rfl, bR, hI, hB⟩ := hrel
    have HI := Lib.hid hI
    clear hI
    by_cases hlt : k < n
    · have cR := bR.cell
      have HS := Lib.hid (HSh.out k hlt)
      have HSt1 := Lib.hid (HSt.out k)
      generalize shiftN n s (k : Int) = z at *
      have i1 : (0 : Int) ≤ (k : Int) := by omega
      have i2 : (k : Int) < (n : Int) := by omega
      have hwk : IntKind.i64.wrap ((k : Int) + 1) = ((k + 1 : Nat) : Int) := by rw [IntWalk.i64_in _ ⟨by omega, by omega⟩]; rfl
      go_wp2_with fail
      refine (HS.out _).mono ?_
      rintro e w2 ⟨rfl, hb2⟩
      have bR2 := boxed_below bR bR.lt hb2
      have HI2 : Hid (IsSets w2 (w.heap.size + 1) (.slice (some ⟨w.heap.size + 1, 0, none⟩) (shTo n s k).length n) (shTo n s k)) := Lib.hid (by rw [HLen.out]; exact HI.out.belowAll hb2)
      have c1 := HI2.out.cell (i := k) (by rw [HLen.out]; exact hlt)
      have f1 := HI2.out.frozen k
      have hsz : w.heap.size + 1 < w2.heap.size := World.block_lt_of_cell? w2 _ c1
      have hB2 := hB.trans (hb2.mono hB.size)
      go_wp2
      go_roundw
      case rel =>
        refine ⟨k + 1, by omega, by go_num, ?_, ?_, ?_⟩
        · exact (Below.heap_setCell w2 ⟨w.heap.size + 1, k, none⟩ _ w.heap.size (by simp)).trans bR2
        · have h3 := HI2.out.set k (z : Int)
          rw [List.length_set, HLen.out] at h3
          rw [HSt1.out]
          exact h3
        · exact hB2.trans ⟨rfl, rfl, rfl, by simp [World.setCell], fun q hq => Below.heap_setCell w2 ⟨w.heap.size + 1, k, none⟩ _ q (by simp; omega)⟩
      case measure => simp [intOf]; omega
    · have HK : Hid (k = n) := Lib.hid (by omega)
      have i2 : ¬ ((k : Int) < (n : Int)) := by omega
      have HI3 : Hid (IsSets wr w.heap.size (.slice (some ⟨w.heap.size + 1, 0, none⟩) n n) (shL n s)) := Lib.hid (by
        have h := HI.out
        rw [HK.out, HEnd.out] at h
        exact h.base (by omega))
      clear hlt hk
      go_wp2
      go_ret
      exact ⟨_, rfl, hB, HI3.out⟩
set_option maxHeartbeats 1000000 in
/-- Whether a table has an entry: where it stands, or -1. -/
theorem index_any (g n : Nat) (xs : List Int) (y : Int) (b : Nat) (w : World) (h1 : 1 ≤ n) (h2 : n ≤ 12) (hl : xs.length = n) (hI : IsSets w b (.slice (some ⟨g, 0, none⟩) n n) xs) :
    Calls Try.prog 93 #[.slice (some ⟨g, 0, none⟩) n n, .int .i64 y] w fun e w' => ∃ i : Int, e = .returned (.int .i64 i) ∧ w = w' ∧ ((0 ≤ i ∧ ∃ k, k < n ∧ xs.getD k 0 = y) ∨ (i = -1 ∧ ∀ k, k < n → xs.getD k 0 ≠ y)) := by
  have HI := Lib.hid hI
  have HL := Lib.hid hl
  clear hI hl
  go_enter Try.func93, Try.ntmps93
  go_wp2
  go_loopw [8] (fun u wr => ∃ k : Nat, k ≤ n ∧ u = .int .i64 (k : Int) ∧ w = wr ∧ Hid (∀ j, j < k → xs.getD j 0 ≠ y)) (fun u _ => n - (intOf u).toNat)
  case atStart => exact ⟨0, Nat.zero_le _, rfl, rfl, Lib.hid (fun j hj => absurd hj (by omega))⟩
  case round =>
    obtain ⟨k, hk, rfl, hw, HE⟩ := hrel
    subst hw
    by_cases hlt : k < n
    · have c1 := HI.out.cell (i := k) (by rw [HL.out]; exact hlt)
      have i1 : (0 : Int) ≤ (k : Int) := by omega
      have i2 : (k : Int) < (n : Int) := by omega
      have hwk : IntKind.i64.wrap ((k : Int) + 1) = ((k + 1 : Nat) : Int) := by rw [IntWalk.i64_in _ ⟨by omega, by omega⟩]; rfl
      by_cases he : xs.getD k 0 = y
      · have HV := Lib.hid (show ∃ k, k < n ∧ xs.getD k 0 = y from ⟨k, hlt, he⟩)
        rw [he] at c1
        have e1 : (y == y) = true := by simp
        clear he hlt
        go_wp2
        go_ret
        exact ⟨_, rfl, rfl, .inl ⟨i1, HV.out⟩⟩
      · have HEn : Hid (∀ j, j < k + 1 → xs.getD j 0 ≠ y) := Lib.hid (fun j hj => by
          by_cases e : j = k
          · subst e; exact he
          · exact HE.out j (by omega))
        generalize xs.getD k 0 = z at *
        have e1 : (y == z) = false := by simp; exact fun c => he c.symm
        clear he
        go_wp2
        go_roundw
        case rel => exact ⟨k + 1, by omega, by go_num, by first | rfl | trivial, HEn⟩
        case measure => simp [intOf]; omega
    · have HV := Lib.hid (show ∀ k, k < n → xs.getD k 0 ≠ y from fun j hj => HE.out j (by omega))
      have i2 : ¬ ((k : Int) < (n : Int)) := by omega
      clear hlt hk
      go_wp2
      go_ret
      exact ⟨_, rfl, rfl, .inr ⟨rfl, HV.out⟩⟩
theorem tableHas_any (g n s m : Nat) (b : Nat) (w : World) (h1 : 1 ≤ n) (h2 : n ≤ 12) (hs : s < 2 ^ n) (hI : IsSets w b (.slice (some ⟨g, 0, none⟩) n n) (shL n s)) :
    Calls Try.prog 83 #[.slice (some ⟨g, 0, none⟩) n n, .int .i64 ((turnN n s (m : Int) : Nat) : Int)] w fun e w' => e = .returned (.bool (carB n s m)) ∧ w = w' := by
  have HX := Lib.hid (index_any g n (shL n s) ((turnN n s (m : Int) : Nat) : Int) b w h1 h2 (shL_len n s) hI)
  have HY := Lib.hid (fun k => carB_yes n s m k h1 hs)
  have HN := Lib.hid (carB_no n s m h1 hs)
  clear hI
  have HC : Hid (Calls Try.prog 90 #[.slice (some ⟨g, 0, none⟩) n n, .int .i64 ((turnN n s (m : Int) : Nat) : Int)] w fun e w' => e = .returned (.bool (carB n s m)) ∧ w = w') := Lib.hid (by
    generalize turnN n s (m : Int) = t at *
    go_enter Try.func90, Try.ntmps90
    go_wp2_with fail
    refine HX.out.mono ?_
    rintro e w1 ⟨i, rfl, rfl, h | h⟩
    · obtain ⟨hi, k, hk, he⟩ := h
      have hv := HY.out k hk he
      have HV := Lib.hid hv
      have d1 : decide (i ≥ 0) = true := decide_eq_true hi
      have d2 : decide (0 ≤ i) = true := decide_eq_true hi
      clear hv he hk
      go_wp2
      go_ret
      exact ⟨ret_bool (by first | exact HV.out.symm | (rw [HV.out]; exact d1.symm) | (rw [HV.out]; exact d2.symm)), rfl⟩
    · obtain ⟨rfl, he⟩ := h
      have HV := Lib.hid (HN.out he)
      clear he
      go_wp2
      go_ret
      exact ⟨ret_bool (by first | exact HV.out.symm | (rw [HV.out]; rfl)), rfl⟩)
  generalize turnN n s (m : Int) = t at *
  go_enter Try.func83, Try.ntmps83
  go_wp2_with fail
  refine HC.out.mono ?_
  rintro e w1 ⟨rfl, rfl⟩
  go_wp2
  go_ret
  exact ⟨rfl, rfl⟩
end Go.Proofs.Ytaomjhkodohkcaa
