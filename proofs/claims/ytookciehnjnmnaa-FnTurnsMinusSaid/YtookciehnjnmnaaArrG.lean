/- The functions of chapter 4, but trees: the program. -/
import Derived.Test.YtookciehnjnmnaaArrF
import Derived.Test.YtookciehnjnmnaaFarLL
import Derived.Laws.CopyOwn
namespace Go.Proofs.Ytookciehnjnmnaa
open Go.RowKit Go.Shelf
set_option linter.unusedVariables false
theorem wso_bad (n s k most : Int) (w : World) (h : NoStep n s ∨ ¬ (0 ≤ k ∧ k ≤ most)) :
    Calls Try.prog 48 #[.int .i64 n, .int .i64 s, .int .i64 k, .int .i64 most] w fun e w' => e = .returned (.tuple #[.agg #[.int .i64 0, .int .i64 0], .bool false]) ∧ Below w.heap.size w w' := by
  by_cases hn : NoStep n s
  · exact wso_no n s k most w hn
  · obtain ⟨m, t, rfl, rfl, h1, h2, h3, h4⟩ := not_noStep hn
    have hk := h.resolve_left hn
    by_cases h0 : k < 0
    · exact wso_low m t k most w h1 h2 h3 h4 h0
    · exact wso_high m t k most w h1 h2 h3 h4 h0 (by omega)
theorem implWalkClosed_bad' (n s k : Int) (w : World) (h : NoStep n s ∨ ¬ (0 ≤ k ∧ k ≤ 10)) :
    Calls Try.prog 23 #[.int .i64 n, .int .i64 s, .int .i64 k] w fun e w' => e = .returned (.tuple #[.int .i64 0, .bool false]) ∧ Below w.heap.size w w' := by
  have HO := Lib.hid (fun W => wso_bad n s k 10 W h)
  clear h
  go_enter Try.func23, Try.ntmps23
  go_wp2_with fail
  refine (HO.out _).mono ?_
  rintro e w1 ⟨rfl, hb⟩
  go_wp2
  go_ret2
  exact ⟨rfl, hb.alloc hb.size _⟩
theorem implWalkSet_bad' (n s k : Int) (w : World) (h : NoStep n s ∨ ¬ (0 ≤ k ∧ k ≤ 100)) :
    Calls Try.prog 29 #[.int .i64 n, .int .i64 s, .int .i64 k] w fun e w' => e = .returned (.tuple #[.int .i64 0, .bool false]) ∧ Below w.heap.size w w' := by
  have HO := Lib.hid (fun W => wso_bad n s k 100 W h)
  clear h
  go_enter Try.func29, Try.ntmps29
  go_wp2_with fail
  refine (HO.out _).mono ?_
  rintro e w1 ⟨rfl, hb⟩
  go_wp2
  go_ret2
  exact ⟨rfl, hb.alloc hb.size _⟩
theorem implWalkSquares_bad' (n s k : Int) (w : World) (h : NoStep n s ∨ ¬ (0 ≤ k ∧ k ≤ 5)) :
    Calls Try.prog 21 #[.int .i64 n, .int .i64 s, .int .i64 k] w fun e w' => e = .returned (.tuple #[.int .i64 0, .bool false]) ∧ Below w.heap.size w w' := by
  have HO := Lib.hid (fun W => wso_bad n s k 5 W h)
  clear h
  go_enter Try.func21, Try.ntmps21
  go_wp2_with fail
  refine (HO.out _).mono ?_
  rintro e w1 ⟨rfl, hb⟩
  go_wp2
  go_ret2
  exact ⟨rfl, hb.alloc hb.size _⟩
theorem implWalkCounts_bad' (n s k : Int) (w : World) (h : NoStep n s ∨ ¬ (0 ≤ k ∧ k ≤ 10)) :
    Calls Try.prog 24 #[.int .i64 n, .int .i64 s, .int .i64 k] w fun e w' => e = .returned (.tuple #[.slice none 0 0, .bool false]) ∧ Below w.heap.size w w' := by
  have HO := Lib.hid (fun W => wso_bad n s k 10 W h)
  clear h
  go_enter Try.func24, Try.ntmps24
  go_wp2_with fail
  refine (HO.out _).mono ?_
  rintro e w1 ⟨rfl, hb⟩
  go_wp2
  go_ret2
  exact ⟨rfl, hb.alloc hb.size _⟩
theorem implWalkCounts_bad (n s k : Int) (w : World) (h : NoStep n s ∨ ¬ (0 ≤ k ∧ k ≤ 10)) : Calls Try.prog 24 #[.int .i64 n, .int .i64 s, .int .i64 k] w (ListRes w [] false) :=
  (implWalkCounts_bad' n s k w h).mono fun e w' h => nil_res h
theorem implWalkClosed_yes (n s k : Nat) (w : World) (h1 : 1 ≤ n) (h2 : n ≤ 12) (hs : s < 2 ^ n) (h0 : s.testBit 0 = false) (hk : k ≤ 10) :
    Calls Try.prog 23 #[.int .i64 (n:Int), .int .i64 (s:Int), .int .i64 (k:Int)] w fun e w' => e = .returned (.tuple #[.int .i64 ((wlkN n s k 0 : Nat) : Int), .bool true]) ∧ Below w.heap.size w w' := by
  have hO := fun W => wso_yes n s k 10 W h1 h2 hs h0 hk (by omega)
  have HO : Hid (∀ W, Calls Try.prog 48 #[.int .i64 (n:Int), .int .i64 (s:Int), .int .i64 (k:Int), .int .i64 10] W fun e w' => e = .returned (.tuple #[.agg #[.int .i64 (n:Int), .int .i64 (s:Int)], .bool true]) ∧ Below W.heap.size W w') := Lib.hid hO
  clear hO
  have HW := Lib.hid (fun W => swalks_any n s k W h1 h2 hs h0 hk)
  have hidx := run_idxArr (wlkN n s k) 0 (by omega)
  have hidx' : ∀ W, (Instr.index 58 (.agg (arrC (wlkN n s k))) (.int .i64 0)).run Try.prog W = .ok (.int .i64 ((wlkN n s k 0 : Nat) : Int)) W := hidx
  clear hidx
  go_enter Try.func23, Try.ntmps23
  go_wp2_with fail
  refine (HO.out _).mono ?_
  rintro e w1 ⟨rfl, hb⟩
  have HB := Lib.hid (hb.alloc hb.size (.cells #[.int .i64 (n:Int), .int .i64 (s:Int)] 41))
  clear hb
  go_wp2_with fail
  refine (HW.out _).mono ?_
  rintro e w2 ⟨rfl, hb2⟩
  have HB2 := Lib.hid (HB.out.trans (hb2.mono HB.out.size))
  clear hb2
  go_wp2
  go_ret2
  exact ⟨rfl, HB2.out⟩
theorem implWalkSet_yes (n s k : Nat) (w : World) (h1 : 1 ≤ n) (h2 : n ≤ 12) (hs : s < 2 ^ n) (h0 : s.testBit 0 = false) (hk : k ≤ 100) :
    Calls Try.prog 29 #[.int .i64 (n:Int), .int .i64 (s:Int), .int .i64 (k:Int)] w fun e w' => e = .returned (.tuple #[.int .i64 ((wsetN n s k : Nat) : Int), .bool true]) ∧ Below w.heap.size w w' := by
  have hO := fun W => wso_yes n s k 100 W h1 h2 hs h0 hk (by omega)
  have HO : Hid (∀ W, Calls Try.prog 48 #[.int .i64 (n:Int), .int .i64 (s:Int), .int .i64 (k:Int), .int .i64 100] W fun e w' => e = .returned (.tuple #[.agg #[.int .i64 (n:Int), .int .i64 (s:Int)], .bool true]) ∧ Below W.heap.size W w') := Lib.hid hO
  clear hO
  have HW := Lib.hid (fun W => smarks_any n s k W h1 h2 hs h0 (by omega))
  have HL := Lib.hid (fun W => led_any (msetN n s k) W)
  rw [led_set n s k h1 h2] at HL
  go_enter Try.func29, Try.ntmps29
  go_wp2_with fail
  refine (HO.out _).mono ?_
  rintro e w1 ⟨rfl, hb⟩
  have HB := Lib.hid (hb.alloc hb.size (.cells #[.int .i64 (n:Int), .int .i64 (s:Int)] 41))
  clear hb
  go_wp2_with fail
  refine (HW.out _).mono ?_
  rintro e w2 ⟨rfl, hb2⟩
  have HB2 := Lib.hid (HB.out.trans (hb2.mono HB.out.size))
  clear hb2
  go_wp2_with fail
  refine (HL.out _).mono ?_
  rintro e w3 ⟨rfl, hb3⟩
  have HB3 := Lib.hid (HB2.out.trans (hb3.mono HB2.out.size))
  clear hb3
  go_wp2
  go_ret2
  exact ⟨rfl, HB3.out⟩
theorem implWalkSquares_yes (n s k : Nat) (w : World) (h1 : 1 ≤ n) (h2 : n ≤ 12) (hs : s < 2 ^ n) (h0 : s.testBit 0 = false) (hk : k ≤ 5) :
    Calls Try.prog 21 #[.int .i64 (n:Int), .int .i64 (s:Int), .int .i64 (k:Int)] w fun e w' => e = .returned (.tuple #[.int .i64 ((sqN n s k n : Nat) : Int), .bool true]) ∧ Below w.heap.size w w' := by
  have hO := fun W => wso_yes n s k 5 W h1 h2 hs h0 hk (by omega)
  have HO : Hid (∀ W, Calls Try.prog 48 #[.int .i64 (n:Int), .int .i64 (s:Int), .int .i64 (k:Int), .int .i64 5] W fun e w' => e = .returned (.tuple #[.agg #[.int .i64 (n:Int), .int .i64 (s:Int)], .bool true]) ∧ Below W.heap.size W w') := Lib.hid hO
  clear hO
  have HW := Lib.hid (fun W => swalks_any n s k W h1 h2 hs h0 (by omega))
  have HL := Lib.hid (fun W => squares_any n s k W h1 h2 h0 hk)
  go_enter Try.func21, Try.ntmps21
  go_wp2_with fail
  refine (HO.out _).mono ?_
  rintro e w1 ⟨rfl, hb⟩
  have HB := Lib.hid (hb.alloc hb.size (.cells #[.int .i64 (n:Int), .int .i64 (s:Int)] 41))
  clear hb
  go_wp2_with fail
  refine (HW.out _).mono ?_
  rintro e w2 ⟨rfl, hb2⟩
  have HB2 := Lib.hid (HB.out.trans (hb2.mono HB.out.size))
  clear hb2
  go_wp2_with fail
  refine (HL.out _).mono ?_
  rintro e w3 ⟨rfl, hb3⟩
  have HB3 := Lib.hid (HB2.out.trans (hb3.mono HB2.out.size))
  clear hb3
  go_wp2
  go_ret2
  exact ⟨rfl, HB3.out⟩
theorem implWalkFull_no (n s : Int) (w : World) (h : NoStep n s) :
    Calls Try.prog 12 #[.int .i64 n, .int .i64 s] w fun e w' => e = .returned (.tuple #[.int .i64 0, .bool false]) ∧ Below w.heap.size w w' := by
  have HO := Lib.hid (fun W => stepsOf_no n s W h)
  clear h
  go_enter Try.func12, Try.ntmps12
  go_wp2_with fail
  refine (HO.out _).mono ?_
  rintro e w1 ⟨rfl, hb⟩
  go_wp2
  go_ret2
  exact ⟨rfl, hb.alloc hb.size _⟩
theorem implWalkFull_yes (n s : Nat) (w : World) (h1 : 1 ≤ n) (h2 : n ≤ 12) (hs : s < 2 ^ n) (h0 : s.testBit 0 = false) :
    Calls Try.prog 12 #[.int .i64 (n:Int), .int .i64 (s:Int)] w fun e w' => FullPost n s e ∧ Below w.heap.size w w' := by
  have HO := Lib.hid (fun W => stepsOf_yes n s W h1 h2 hs h0)
  have HF := Lib.hid (fun W => full_any n s W h1 h2 hs h0)
  go_enter Try.func12, Try.ntmps12
  go_wp2_with fail
  refine (HO.out _).mono ?_
  rintro e w1 ⟨rfl, hb⟩
  have HB := Lib.hid (hb.alloc hb.size (.cells #[.int .i64 (n:Int), .int .i64 (s:Int)] 41))
  clear hb
  go_wp2_with fail
  refine (HF.out _).mono ?_
  rintro e w2 ⟨hP, hb2⟩
  have HB2 := Lib.hid (HB.out.trans (hb2.mono HB.out.size))
  clear hb2
  rcases hP with ⟨k, hk, hf, hno, rfl⟩ | ⟨hno, rfl⟩
  · have HP : Hid (FullPost n s (.returned (.tuple #[.int .i64 (k : Int), .bool true]))) := Lib.hid (.inl ⟨k, hk, hf, hno, rfl⟩)
    clear hf hno
    go_wp2
    go_ret2
    exact ⟨HP.out, HB2.out⟩
  · have HP : Hid (FullPost n s (.returned (.tuple #[.int .i64 0, .bool false]))) := Lib.hid (.inr ⟨hno, rfl⟩)
    clear hno
    go_wp2
    go_ret2
    exact ⟨HP.out, HB2.out⟩
theorem implWalkTurns_no (n s : Int) (w : World) (h : NoStep n s) :
    Calls Try.prog 10 #[.int .i64 n, .int .i64 s] w fun e w' => e = .returned (.tuple #[.int .i64 0, .bool false]) ∧ Below w.heap.size w w' := by
  have HO := Lib.hid (fun W => stepsOf_no n s W h)
  clear h
  go_enter Try.func10, Try.ntmps10
  go_wp2_with fail
  refine (HO.out _).mono ?_
  rintro e w1 ⟨rfl, hb⟩
  go_wp2
  go_ret2
  exact ⟨rfl, hb.alloc hb.size _⟩
theorem implWalkTurns_none (n : Nat) (w : World) (h1 : 1 ≤ n) (h2 : n ≤ 12) :
    Calls Try.prog 10 #[.int .i64 (n:Int), .int .i64 0] w fun e w' => e = .returned (.tuple #[.int .i64 0, .bool false]) ∧ Below w.heap.size w w' := by
  have hO := fun W => stepsOf_yes n 0 W h1 h2 (Nat.two_pow_pos n) (by simp)
  have HO : Hid (∀ W, Calls Try.prog 32 #[.int .i64 (n:Int), .int .i64 0] W fun e w' => e = .returned (.tuple #[.agg #[.int .i64 (n:Int), .int .i64 0], .bool true]) ∧ Below W.heap.size W w') := Lib.hid hO
  clear hO
  go_enter Try.func10, Try.ntmps10
  go_wp2_with fail
  refine (HO.out _).mono ?_
  rintro e w1 ⟨rfl, hb⟩
  go_wp2
  go_ret2
  exact ⟨rfl, hb.alloc hb.size _⟩
theorem implWalkTurns_yes (n s : Nat) (w : World) (h1 : 1 ≤ n) (h2 : n ≤ 12) (hs : s < 2 ^ n) (h0 : s.testBit 0 = false) (hs0 : s ≠ 0) :
    Calls Try.prog 10 #[.int .i64 (n:Int), .int .i64 (s:Int)] w fun e w' => e = .returned (.tuple #[.int .i64 ((wturnN n s n : Nat) : Int), .bool true]) ∧ Below w.heap.size w w' := by
  have HO := Lib.hid (fun W => stepsOf_yes n s W h1 h2 hs h0)
  have HF := Lib.hid (fun W => turns_any n s W h1 h2 hs h0)
  have hz : ((s : Int) == 0) = false := by simp; omega
  clear hs0
  go_enter Try.func10, Try.ntmps10
  go_wp2_with fail
  refine (HO.out _).mono ?_
  rintro e w1 ⟨rfl, hb⟩
  have HB := Lib.hid (hb.alloc hb.size (.cells #[.int .i64 (n:Int), .int .i64 (s:Int)] 41))
  clear hb
  go_wp2_with fail
  refine (HF.out _).mono ?_
  rintro e w2 ⟨rfl, hb2⟩
  have HB2 := Lib.hid (HB.out.trans (hb2.mono HB.out.size))
  clear hb2
  go_wp2
  go_ret2
  exact ⟨rfl, HB2.out⟩
theorem ints_made (W : World) (b g n : Nat) (xs : List Int) (hl : xs.length = n) (hb : b ≤ g) (hn : n ≤ 1000) (h : W.heap[g]? = some (.cells ((xs.map (Value.int .i64)).toArray) 3 (0, 0))) : IsInts W b (.slice (some ⟨g, 0, none⟩) n n) xs := by
  refine ⟨by simp, .inr ⟨g, n, _, by rw [hl], hb, h, by omega, by unfold maxLen; omega, by simp [hl], by simp [List.take_of_length_le]⟩⟩
theorem arr_take (n : Nat) (f : Nat → Nat) (j : Nat) (v : Value) (hn : n ≤ 12) (h : ((tabW n f).map (Value.int .i64))[j]? = some v) : j < n ∧ v = .int .i64 ((f j : Nat) : Int) := by
  have hj : j < n := by
    have := (List.getElem?_eq_some_iff.1 h).1
    simpa [tabW_len] using this
  refine ⟨hj, ?_⟩
  simp [tabW, tabI, hj] at h
  exact h.symm
theorem copy_all (cur : Array Value) (cs : List Value) (n : Nat) (h : cur.size = n) : (cs ++ cur.toList.drop n).toArray = cs.toArray := by
  rw [List.drop_of_length_le (by simp; omega)]
  simp
set_option maxHeartbeats 1000000 in
theorem implWalkCounts_yes (n s k : Nat) (w : World) (h1 : 1 ≤ n) (h2 : n ≤ 12) (hs : s < 2 ^ n) (h0 : s.testBit 0 = false) (hk : k ≤ 10) :
    Calls Try.prog 24 #[.int .i64 (n:Int), .int .i64 (s:Int), .int .i64 (k:Int)] w (ListsPost w n (tabW n (wlkN n s k))) := by
  have hO := fun W => wso_yes n s k 10 W h1 h2 hs h0 hk (by omega)
  have HO : Hid (∀ W, Calls Try.prog 48 #[.int .i64 (n:Int), .int .i64 (s:Int), .int .i64 (k:Int), .int .i64 10] W fun e w' => e = .returned (.tuple #[.agg #[.int .i64 (n:Int), .int .i64 (s:Int)], .bool true]) ∧ Below W.heap.size W w') := Lib.hid hO
  clear hO
  have HW := Lib.hid (fun W => swalks_any n s k W h1 h2 hs h0 hk)
  have hmk := make_ints n (by omega)
  have hsl := run_sliceArrAll
  have hsz : (Try.prog.info? 3).map (·.size) = some 1 := by kernel_rfl
  have HTk := Lib.hid (fun j v h => arr_take n (wlkN n s k) j v h2 h)
  have HLen : Hid (((tabW n (wlkN n s k)).map (Value.int .i64)).length = n) := Lib.hid (by simp [tabW_len])
  have HLn := Lib.hid (tabW_len n (wlkN n s k))
  go_enter Try.func24, Try.ntmps24
  go_wp2_with fail
  refine (HO.out _).mono ?_
  rintro e w1 ⟨rfl, hb⟩
  have hD := Duo.new w1 41 (.int .i64 (n:Int)) (.int .i64 (s:Int))
  have hB := hb.alloc hb.size (.cells #[.int .i64 (n:Int), .int .i64 (s:Int)] 41)
  have z1 := hb.size
  clear hb
  go_wp2_with fail
  refine (HW.out _).mono ?_
  rintro e w2 ⟨rfl, hb2⟩
  have HB2 := Lib.hid ((hB.alloc (by simp; omega) (.cells (madeCells #[.int .i64 0] n) 3)).trans (hb2.mono (by simp; omega)))
  have hg2 : w2.heap[w1.heap.size + 1]? = some (.cells (madeCells #[.int .i64 0] n) 3 (0, 0)) := (hb2.block (w1.heap.size + 1) (by simp)).trans (by
    have := World.alloc_heap_new (w1.alloc (.cells #[.int .i64 (n:Int), .int .i64 (s:Int)] 41)) (.cells (madeCells #[.int .i64 0] n) 3)
    simpa using this)
  have z2 := hb2.size
  simp only [World.size_alloc] at z2
  have hT := Arr.new w2 58 (fun _ => 0)
  rw [← zero_arr] at hT
  have HT := Lib.hid hT
  clear hb2 hD hB hT
  have hg3 : ((w2.alloc (.cells #[.int .i64 0, .int .i64 0, .int .i64 0, .int .i64 0, .int .i64 0, .int .i64 0, .int .i64 0, .int .i64 0, .int .i64 0, .int .i64 0, .int .i64 0, .int .i64 0] 58)).setRow w2.heap.size (arrC (wlkN n s k))).heap[w1.heap.size + 1]? = some (.cells (madeCells #[.int .i64 0] n) 3 (0, 0)) :=
    (setRow_other _ _ _ _ (by omega)).trans ((Below.heap_alloc w2 _ (w1.heap.size + 1) (by omega)).trans hg2)
  have HG3 := Lib.hid hg3
  have HT3 := Lib.hid (HT.out.row (wlkN n s k))
  have HB3 := Lib.hid (row_below (HB2.out.alloc HB2.out.size (.cells #[.int .i64 0, .int .i64 0, .int .i64 0, .int .i64 0, .int .i64 0, .int .i64 0, .int .i64 0, .int .i64 0, .int .i64 0, .int .i64 0, .int .i64 0, .int .i64 0] 58)) (show w.heap.size ≤ w2.heap.size by omega) (wlkN n s k))
  obtain ⟨xs, hxs⟩ : ∃ xs, tabW n (wlkN n s k) = xs := ⟨_, rfl⟩
  rw [hxs] at HTk HLen HLn
  have HXs := Lib.hid hxs
  clear hg3 hg2 hxs
  go_wp2_with (first
    | (refine wpList_storeArr _ rfl _ _ rfl w2.heap.size 58 (fun _ => 0) (wlkN n s k) rfl rfl HT.out ?_)
    | (refine wpList_copy_own rfl _ _ _ _ rfl 3 Try.underlying32 hsz (w1.heap.size + 1) 0 n n ⟨w2.heap.size, 0, none⟩ 12 12 rfl rfl (madeCells #[.int .i64 0] n) 3 HG3.out (xs.map (Value.int .i64)) (by rw [HLen.out]; exact (Nat.min_eq_right h2).symm)
        (fun j v h => by
          obtain ⟨hj, hv⟩ := HTk.out j v h
          have hadd : (⟨w2.heap.size, 0, none⟩ : Addr).add j = ⟨w2.heap.size, j, none⟩ := by unfold Addr.add; split <;> simp_all
          rw [hadd, hv]
          exact HT3.out.cell j (by omega)) (by rw [HLen.out, size_madeCells]; simp) (fun v hv => by
          obtain ⟨z, _, rfl⟩ := List.mem_map.1 hv
          rfl) ?_)
    | go_in)
  have hend := copy_all (madeCells #[.int .i64 0] n) (xs.map (Value.int .i64)) xs.length (by rw [HLn.out, size_madeCells])
  rw [hend]
  have hh := setRow_heap _ _ _ ((xs.map (Value.int .i64)).toArray) _ _ HG3.out
  have HI := Lib.hid (ints_made _ w.heap.size (w1.heap.size + 1) n xs HLn.out (by omega) (by omega) hh)
  have HB4 := Lib.hid (below_setRow HB3.out (show w.heap.size ≤ w1.heap.size + 1 by omega) ((xs.map (Value.int .i64)).toArray))
  clear hh hend
  go_ret2
  exact ⟨_, n, rfl, HB4.out, by rw [HXs.out]; exact HI.out⟩
end Go.Proofs.Ytookciehnjnmnaa
