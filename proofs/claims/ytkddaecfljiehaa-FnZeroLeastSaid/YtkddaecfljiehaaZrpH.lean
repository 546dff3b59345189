/- Rows, the program's side: the most parts, and the functions that others call. Written by gen114.py. -/
import Derived.Test.YtkddaecfljiehaaZrpG
import Derived.Test.YtkddaecfljiehaaZerX
namespace Go.Proofs.Ytkddaecfljiehaa
open Go.RowKit Go.Shelf
set_option linter.unusedVariables false
theorem ints_lies {W : World} {b : Nat} {v : Value} {xs : List Int} (h : IsInts W b v xs) : ∃ A cap, v = .slice A xs.length cap ∧ (0 < xs.length → ∃ g, A = some ⟨g, 0, none⟩ ∧ Shows W g xs.length xs) := by
  rcases h.shape with ⟨rfl, rfl⟩ | ⟨g, cap, rfl, _, _, _⟩
  · exact ⟨none, 0, rfl, fun hp => absurd hp (Nat.lt_irrefl _)⟩
  · exact ⟨_, cap, rfl, fun _ => ⟨g, rfl, shows_of h⟩⟩
theorem no_ZeroSum : NoZeroSum := by
  intro n sv xs b W h hl hI
  have HO := Lib.hid (rowOf_no n 12 sv xs b W (fun hh => h hh) hl (by omega) hI)
  clear h hI
  go_enter Try.func14, Try.ntmps14
  go_wp2_with fail
  refine HO.out.mono ?_
  rintro e w1 ⟨rfl, hb1⟩
  have HB := Lib.hid (hb1.alloc hb1.size (.cells #[.int .i64 0, .slice none 0 0] 39))
  clear hb1
  go_wp2
  go_ret2
  exact ⟨rfl, HB.out⟩
theorem no_ZeroFirst : NoZeroFirst := by
  intro n sv xs b W h hl hI
  have HO := Lib.hid (rowOf_no n 12 sv xs b W (fun hh => h hh) hl (by omega) hI)
  clear h hI
  go_enter Try.func12, Try.ntmps12
  go_wp2_with fail
  refine HO.out.mono ?_
  rintro e w1 ⟨rfl, hb1⟩
  have HB := Lib.hid (hb1.alloc hb1.size (.cells #[.int .i64 0, .slice none 0 0] 39))
  clear hb1
  go_wp2
  go_ret2
  exact ⟨rfl, HB.out⟩
theorem no_ZeroPlain : NoZeroPlain := by
  intro n sv xs b W h hl hI
  have HO := Lib.hid (rowOf_no n 12 sv xs b W (fun hh => h hh) hl (by omega) hI)
  clear h hI
  go_enter Try.func21, Try.ntmps21
  go_wp2_with fail
  refine HO.out.mono ?_
  rintro e w1 ⟨rfl, hb1⟩
  have HB := Lib.hid (hb1.alloc hb1.size (.cells #[.int .i64 0, .slice none 0 0] 39))
  clear hb1
  go_wp2
  go_ret
  exact ⟨rfl, HB.out⟩
theorem no_ZeroCounts : NoZeroCounts := by
  intro n sv xs b W h hl hI
  have HO := Lib.hid (rowOf_no n 12 sv xs b W (fun hh => h hh) hl (by omega) hI)
  clear h hI
  go_enter Try.func9, Try.ntmps9
  go_wp2_with fail
  refine HO.out.mono ?_
  rintro e w1 ⟨rfl, hb1⟩
  have HB := Lib.hid (hb1.alloc hb1.size (.cells #[.int .i64 0, .slice none 0 0] 39))
  clear hb1
  go_wp2
  go_ret2
  exact ⟨_, rfl, HB.out, isInts_nil _ _⟩
theorem no_ZeroLeast : NoZeroLeast := by
  intro n sv xs b W h hl hI
  have HO := Lib.hid (rowOf_no n 8 sv xs b W (fun hh => h ⟨⟨hh.1, by omega, hh.2.2⟩, hh.2.1⟩) hl (by omega) hI)
  clear h hI
  go_enter Try.func18, Try.ntmps18
  go_wp2_with fail
  refine HO.out.mono ?_
  rintro e w1 ⟨rfl, hb1⟩
  have HB := Lib.hid (hb1.alloc hb1.size (.cells #[.int .i64 0, .slice none 0 0] 39))
  clear hb1
  go_wp2
  go_ret2
  exact ⟨_, rfl, HB.out, isInts_nil _ _⟩
set_option maxHeartbeats 1000000 in
theorem yes_ZeroSum : YesZeroSum := by
  intro n sv xs b W h hI
  obtain ⟨hn, hl, hx⟩ := h
  have h1 : 1 ≤ n := by omega
  have h2 : n ≤ 12 := by omega
  obtain ⟨A, cap, rfl, hA⟩ := ints_lies hI
  have HO := Lib.hid (rowOf_yes n 12 xs.length cap A xs W h1 h2 rfl hl (by omega) hx hA)
  clear hA hI
  have HE : Hid (sumTo (rowZ xs) xs.length % n = zsum n (rowZ xs) xs.length (2 ^ xs.length - 1)) := Lib.hid (by unfold zsum; rw [sumC_all])
  obtain ⟨V, hV⟩ : ∃ V, zsum n (rowZ xs) xs.length (2 ^ xs.length - 1) = V := ⟨_, rfl⟩
  rw [hV] at HE ⊢
  clear hV
  go_enter Try.func14, Try.ntmps14
  go_wp2_with fail
  refine HO.out.mono ?_
  rintro e w1 ⟨g, rfl, hb1, hI1⟩
  have hD := Duo.new w1 39 (.int .i64 (n:Int)) (.slice (some ⟨g, 0, none⟩) xs.length xs.length)
  have q0 := hD.cell0
  have q1 := hD.cell1
  have HB1 := Lib.hid (hb1.alloc hb1.size (.cells #[.int .i64 (n:Int), .slice (some ⟨g, 0, none⟩) xs.length xs.length] 39))
  have HC := Lib.hid (total_any n g xs.length xs.length xs (w1.alloc (.cells #[.int .i64 (n:Int), .slice (some ⟨g, 0, none⟩) xs.length xs.length] 39)) h1 h2 ((shows_of hI1).belowAll ((Below.refl _ _).alloc (Nat.le_refl _) _)) hl hx)
  clear hD hb1 hI1 hx
  rw [HE.out] at HC
  go_wp2_with fail
  refine HC.out.mono ?_
  rintro e w2 ⟨rfl, hb2⟩
  have HB2 := Lib.hid (HB1.out.trans (hb2.mono HB1.out.size))
  clear hb2
  go_wp2
  go_ret2
  exact ⟨rfl, HB2.out⟩
set_option maxHeartbeats 1000000 in
theorem yes_ZeroFirst : YesZeroFirst := by
  intro n sv xs b W h hI
  obtain ⟨hn, hl, hx⟩ := h
  have h1 : 1 ≤ n := by omega
  have h2 : n ≤ 12 := by omega
  obtain ⟨A, cap, rfl, hA⟩ := ints_lies hI
  have HO := Lib.hid (rowOf_yes n 12 xs.length cap A xs W h1 h2 rfl hl (by omega) hx hA)
  clear hA hI
  have HE := Lib.hid (first_zq n xs)
  obtain ⟨V, hVV⟩ : ∃ V, zfirst n (rowZ xs) xs.length = V := ⟨_, rfl⟩
  rw [hVV] at HE ⊢
  clear hVV
  obtain ⟨q, hq⟩ : ∃ q : Bool, decide (V ≠ 0) = q := ⟨_, rfl⟩
  rw [hq]
  have HQ := Lib.hid hq
  clear hq
  go_enter Try.func12, Try.ntmps12
  go_wp2_with fail
  refine HO.out.mono ?_
  rintro e w1 ⟨g, rfl, hb1, hI1⟩
  have hD := Duo.new w1 39 (.int .i64 (n:Int)) (.slice (some ⟨g, 0, none⟩) xs.length xs.length)
  have q0 := hD.cell0
  have q1 := hD.cell1
  have HB1 := Lib.hid (hb1.alloc hb1.size (.cells #[.int .i64 (n:Int), .slice (some ⟨g, 0, none⟩) xs.length xs.length] 39))
  have HC := Lib.hid (firstZero_any n g xs.length xs.length xs (w1.alloc (.cells #[.int .i64 (n:Int), .slice (some ⟨g, 0, none⟩) xs.length xs.length] 39)) h1 h2 hl (Nat.le_refl _) hx ((shows_of hI1).belowAll ((Below.refl _ _).alloc (Nat.le_refl _) _)))
  clear hD hb1 hI1 hx
  rw [HE.out, HQ.out] at HC
  go_wp2_with fail
  refine HC.out.mono ?_
  rintro e w2 ⟨rfl, hb2⟩
  have HB2 := Lib.hid (HB1.out.trans (hb2.mono HB1.out.size))
  clear hb2
  go_wp2
  go_ret2
  exact ⟨rfl, HB2.out⟩
set_option maxHeartbeats 1000000 in
theorem yes_ZeroPlain : YesZeroPlain := by
  intro n sv xs b W h hI
  obtain ⟨hn, hl, hx⟩ := h
  have h1 : 1 ≤ n := by omega
  have h2 : n ≤ 12 := by omega
  obtain ⟨A, cap, rfl, hA⟩ := ints_lies hI
  have HO := Lib.hid (rowOf_yes n 12 xs.length cap A xs W h1 h2 rfl hl (by omega) hx hA)
  clear hA hI
  have HE : Hid ((!decide (firstP (zq n xs) (2 ^ xs.length) ≠ 0)) = plainB n (rowZ xs) xs.length) := Lib.hid (by
    rw [first_zq]
    unfold plainB
    cases hb : Nat.beq (zfirst n (rowZ xs) xs.length) 0
    · have h9 : zfirst n (rowZ xs) xs.length ≠ 0 := fun h => by rw [h] at hb; cases hb
      rw [decide_eq_true h9]; rfl
    · have h9 : zfirst n (rowZ xs) xs.length = 0 := Nat.eq_of_beq_eq_true hb
      rw [decide_eq_false (fun h => h h9)]; rfl)
  obtain ⟨V, hV⟩ : ∃ V, plainB n (rowZ xs) xs.length = V := ⟨_, rfl⟩
  rw [hV] at HE ⊢
  clear hV
  go_enter Try.func21, Try.ntmps21
  go_wp2_with fail
  refine HO.out.mono ?_
  rintro e w1 ⟨g, rfl, hb1, hI1⟩
  have hD := Duo.new w1 39 (.int .i64 (n:Int)) (.slice (some ⟨g, 0, none⟩) xs.length xs.length)
  have q0 := hD.cell0
  have q1 := hD.cell1
  have HB1 := Lib.hid (hb1.alloc hb1.size (.cells #[.int .i64 (n:Int), .slice (some ⟨g, 0, none⟩) xs.length xs.length] 39))
  have HC := Lib.hid (isPlain_any n g xs.length xs.length xs (w1.alloc (.cells #[.int .i64 (n:Int), .slice (some ⟨g, 0, none⟩) xs.length xs.length] 39)) h1 h2 hl (Nat.le_refl _) hx ((shows_of hI1).belowAll ((Below.refl _ _).alloc (Nat.le_refl _) _)))
  clear hD hb1 hI1 hx
  rw [HE.out] at HC
  go_wp2_with fail
  refine HC.out.mono ?_
  rintro e w2 ⟨rfl, hb2⟩
  have HB2 := Lib.hid (HB1.out.trans (hb2.mono HB1.out.size))
  clear hb2
  go_wp2
  go_ret
  exact ⟨rfl, HB2.out⟩
set_option maxHeartbeats 1000000 in
theorem yes_ZeroCounts : YesZeroCounts := by
  intro n sv xs b W h hI
  obtain ⟨hn, hl, hx⟩ := h
  have h1 : 1 ≤ n := by omega
  have h2 : n ≤ 12 := by omega
  obtain ⟨A, cap, rfl, hA⟩ := ints_lies hI
  have HO := Lib.hid (rowOf_yes n 12 xs.length cap A xs W h1 h2 rfl hl (by omega) hx hA)
  clear hA hI
  go_enter Try.func9, Try.ntmps9
  go_wp2_with fail
  refine HO.out.mono ?_
  rintro e w1 ⟨g, rfl, hb1, hI1⟩
  have hD := Duo.new w1 39 (.int .i64 (n:Int)) (.slice (some ⟨g, 0, none⟩) xs.length xs.length)
  have q0 := hD.cell0
  have q1 := hD.cell1
  have HB1 := Lib.hid (hb1.alloc hb1.size (.cells #[.int .i64 (n:Int), .slice (some ⟨g, 0, none⟩) xs.length xs.length] 39))
  have HC := Lib.hid (waysOfTotals_any n g xs.length xs.length xs (w1.alloc (.cells #[.int .i64 (n:Int), .slice (some ⟨g, 0, none⟩) xs.length xs.length] 39)) h1 h2 hl (Nat.le_refl _) hx ((shows_of hI1).belowAll ((Below.refl _ _).alloc (Nat.le_refl _) _)))
  clear hD hb1 hI1 hx
  go_wp2_with fail
  refine HC.out.mono ?_
  rintro e w2 ⟨v, rfl, hb2, hI2⟩
  have HB2 := Lib.hid (HB1.out.trans (hb2.mono HB1.out.size))
  have HI2 := Lib.hid (hI2.base (b' := W.heap.size) HB1.out.size)
  obtain ⟨A9, cap9, rfl⟩ := hI2.slice
  clear hb2 hI2
  go_wp2
  go_ret2
  exact ⟨_, rfl, HB2.out, HI2.out⟩
theorem take_next9 (xs : List Int) (i : Nat) (h : i < xs.length) : xs.take (i + 1) = xs.take i ++ [xs.getD i 0] := by
  rw [List.take_add_one, List.getElem?_eq_getElem h, List.getD_eq_getElem?_getD, List.getElem?_eq_getElem h]; rfl
set_option maxHeartbeats 1000000 in
theorem yes_ZeroLeast : YesZeroLeast := by
  intro n sv xs b W h hl8 hI
  obtain ⟨hn, hl, hx⟩ := h
  have h1 : 1 ≤ n := by omega
  have h2 : n ≤ 12 := by omega
  obtain ⟨A, cap, rfl, hA⟩ := ints_lies hI
  have HO := Lib.hid (rowOf_yes n 8 xs.length cap A xs W h1 h2 rfl hl8 (by omega) hx hA)
  clear hA hI
  have hp := pow_le xs.length (by omega)
  have hxl : (leastL n (rowZ xs) xs.length).length ≤ 4096 := Nat.le_trans (pick_len _ _) hp
  go_enter Try.func18, Try.ntmps18
  go_wp2_with fail
  refine HO.out.mono ?_
  rintro e w1 ⟨g, rfl, hb1, hI1⟩
  have hD := Duo.new w1 39 (.int .i64 (n:Int)) (.slice (some ⟨g, 0, none⟩) xs.length xs.length)
  have q0 := hD.cell0
  have q1 := hD.cell1
  have HB1 := Lib.hid (hb1.alloc hb1.size (.cells #[.int .i64 (n:Int), .slice (some ⟨g, 0, none⟩) xs.length xs.length] 39))
  have HC := Lib.hid (leastZeros_any n g xs.length xs.length xs (w1.alloc (.cells #[.int .i64 (n:Int), .slice (some ⟨g, 0, none⟩) xs.length xs.length] 39)) h1 h2 hl (Nat.le_refl _) hx ((shows_of hI1).belowAll ((Below.refl _ _).alloc (Nat.le_refl _) _)))
  clear hD hb1 hI1 hx
  generalize leastL n (rowZ xs) xs.length = zs at *
  have HTk := Lib.hid (fun i hi => take_next9 zs i hi)
  have HTe : Hid (zs.take zs.length = zs) := Lib.hid List.take_length
  have HTl : Hid (∀ i, (zs.take i).length ≤ 4096) := Lib.hid (fun i => by rw [List.length_take]; omega)
  go_wp2_with fail
  refine HC.out.mono ?_
  rintro e w2 ⟨sv, rfl, hb2, hI2⟩
  have HB2 := Lib.hid (HB1.out.trans (hb2.mono HB1.out.size))
  have HI2 := Lib.hid (hI2.base (b' := W.heap.size) HB1.out.size)
  obtain ⟨A, cp, rfl, hA2⟩ := hI2.slice
  have HA2 := Lib.hid hA2
  clear hb2 hI2 hA2 q0 q1
  go_wp2
  go_loopw [8, 10, 22] (fun u v10 v wr => ∃ i : Nat, i ≤ zs.length ∧ v = .int .i64 (i : Int) ∧ Hid (Below W.heap.size W wr) ∧ Hid (IsInts wr w2.heap.size u (zs.take i)) ∧ Hid (Below w2.heap.size w2 wr)) (fun _ _ v _ => zs.length - (intOf v).toNat)
  case atStart => exact ⟨0, Nat.zero_le _, rfl, HB2, Lib.hid (isInts_nil _ _), Lib.hid (Below.refl _ _)⟩
  case round =>
    obtain ⟨i, hi, rfl, HB, HO9, HX⟩ := hrel
    by_cases hlt : i < zs.length
    · obtain ⟨g9, rfl, hcell⟩ := HA2.out (by omega)
      have hc2 := hcell i hlt
      have c0 : wr.cell? ⟨g9, i, none⟩ = some (.int .i64 (zs.getD i 0)) := (World.cell?_of_block (a := ⟨g9, i, none⟩) (HX.out.block g9 (World.block_lt_of_cell? _ _ hc2))).trans hc2
      have i1 : (0 : Int) ≤ (i : Int) := by omega
      have i2 : (i : Int) < (zs.length : Int) := by omega
      have hwk : IntKind.i64.wrap ((i : Int) + 1) = ((i + 1 : Nat) : Int) := by rw [IntWalk.i64_in _ ⟨by omega, by omega⟩]; rfl
      have HT1 := Lib.hid (HTk.out i hlt)
      have HL1 := Lib.hid (HTl.out i)
      have HZ3 := Lib.hid HX.out.size
      clear hcell hc2
      generalize zs.getD i 0 = z at *
      go_wp2_with (first | (at_builtin; go_loud (refine wpList_append_ints rfl (.tmp 26) (.tmp 28) rfl u8 (zs.take i) z wr w2.heap.size rfl (by first | rfl | (simp; rfl)) HO9.out (Nat.le_trans HL1.out (by omega)) HZ3.out (fun v' W6 hv6 hk6 hb6 => ?_); have HI6 := Lib.hid hv6; have HB6 := Lib.hid hb6; clear hk6 hb6 hv6)))
      have hB6 := HB6.out w2.heap.size w2 (Nat.le_refl _) HX.out
      go_roundw
      case rel => exact ⟨i + 1, by omega, by go_num, Lib.hid (HB6.out _ _ HB2.out.size HB.out), Lib.hid (by rw [HT1.out]; exact HI6.out), Lib.hid hB6⟩
      case measure => simp [intOf]; omega
    · obtain rfl : i = zs.length := by omega
      have HO2 : Hid (IsInts wr w2.heap.size u8 zs) := Lib.hid (by have h := HO9.out; rw [HTe.out] at h; exact h)
      clear hlt
      go_wp2
      go_ret2
      exact ⟨_, rfl, HB.out, IsInts.base (b := w2.heap.size) HO2.out HB2.out.size⟩
end Go.Proofs.Ytkddaecfljiehaa
