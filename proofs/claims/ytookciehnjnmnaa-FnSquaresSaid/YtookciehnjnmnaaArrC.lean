/- Walks of k arcs, and their marks: the program. -/
import Derived.Test.YtookciehnjnmnaaArrB
import Derived.Test.YtookciehnjnmnaaWalkH
namespace Go.Proofs.Ytookciehnjnmnaa
open Go.RowKit Go.Shelf
set_option linter.unusedVariables false
theorem wlk_small (n s k x : Nat) (h1 : 1 ≤ n) (h2 : n ≤ 12) (h0 : s.testBit 0 = false) (hk : k ≤ 10) : wlkN n s k x ≤ 1000000000000 := by
  by_cases hx : x < n
  · have a := wlk_le n s k x h1 h2 h0 hx
    have b := eleven k hk
    omega
  · rw [wlk_out n s k x h1 (by omega)]; omega
theorem mid_small (n s k v x : Nat) (h1 : 1 ≤ n) (h2 : n ≤ 12) (h0 : s.testBit 0 = false) (hk : k < 10) (hv : v ≤ n) : midW n s (wlkN n s k) v x ≤ 1000000000000 := by
  have a : midW n s (wlkN n s k) v x ≤ midW n s (wlkN n s k) n x := sumTo_mono _ v n hv
  rw [← wlk_up] at a
  have b := wlk_small n s (k + 1) x h1 h2 h0 (by omega)
  omega
theorem sumTo_cap (g : Nat → Nat) (c k : Nat) (h : ∀ v, g v ≤ c) : sumTo g k ≤ c * k := by
  induction k with
  | zero => simp [sumTo]
  | succ k ih =>
    show sumTo g k + g k ≤ c * (k + 1)
    have := h k
    rw [Nat.mul_add]
    omega
/-- 1 at the places that walks of k arcs reach. -/
def msetN (n s k x : Nat) : Nat := b2n ((wsetN n s k).testBit x)
theorem mset_le (n s k x : Nat) : msetN n s k x ≤ 1 := by unfold msetN b2n; split <;> omega
theorem mset_zero (n s x : Nat) : (if x = 0 then 1 else 0) = msetN n s 0 x := by
  show _ = b2n ((1 : Nat).testBit x)
  by_cases e : x = 0
  · subst e; rfl
  · rw [if_neg e, Nat.testBit_lt_two_pow (Nat.one_lt_two_pow e)]; rfl
theorem mset_out (n s k x : Nat) (h1 : 1 ≤ n) (hx : n ≤ x) : msetN n s k x = 0 := by
  unfold msetN
  rw [Nat.testBit_lt_two_pow (Nat.lt_of_lt_of_le (wset_lt n s k h1) (Nat.pow_le_pow_right (by omega) hx))]
  rfl
theorem mid_cap (n s : Nat) (f : Nat → Nat) (v x : Nat) (h2 : n ≤ 12) (hv : v ≤ n) (hf : ∀ x, f x ≤ 1) : midW n s f v x ≤ 144 := by
  have a : ∀ u, rowW n s f u n x ≤ 12 := fun u => by
    have := sumTo_cap (fun d => arcW n s f u d x) 1 n (fun d => by
      unfold arcW
      split
      · have a := hf u
        have b : b2n (s.testBit d) ≤ 1 := by unfold b2n; split <;> omega
        have := Nat.mul_le_mul a b
        omega
      · omega)
    show sumTo _ n ≤ 12
    omega
  have := sumTo_cap (fun u => rowW n s f u n x) 12 v a
  show sumTo _ v ≤ 144
  omega
theorem mset_step (n s k x : Nat) (h1 : 1 ≤ n) (hs : s < 2 ^ n) : min (midW n s (msetN n s k) n x) 1 = msetN n s (k + 1) x := by
  by_cases hx : x < n
  · have key : 0 < midW n s (msetN n s k) n x ↔ (wsetN n s (k + 1)).testBit x = true := by
      show 0 < sumTo (fun u => sumTo (fun d => arcW n s (msetN n s k) u d x) n) n ↔ (sumN n s (wsetN n s k)).testBit x = true
      rw [sumTo_pos, sumN_bit n s _ x h1 hs]
      constructor
      · rintro ⟨u, hu, h⟩
        obtain ⟨d, hd, h⟩ := (sumTo_pos _ _).1 h
        unfold arcW msetN at h
        by_cases c : (u + d) % n = x
        · rw [if_pos c] at h
          cases hb : (wsetN n s k).testBit u
          · rw [hb] at h; simp [b2n] at h
          · cases hb2 : s.testBit d
            · rw [hb2] at h; simp [b2n] at h
            · exact ⟨u, d, hu, hb, hd, hb2, c⟩
        · rw [if_neg c] at h; omega
      · rintro ⟨u, d, hu, hub, hd, hdb, e⟩
        refine ⟨u, hu, (sumTo_pos _ _).2 ⟨d, hd, ?_⟩⟩
        unfold arcW msetN
        rw [if_pos e, hub, hdb]
        simp [b2n]
    unfold msetN at key ⊢
    cases hb : (wsetN n s (k + 1)).testBit x
    · have : ¬ 0 < midW n s (fun x => b2n ((wsetN n s k).testBit x)) n x := fun h => by
        have := key.1 h
        rw [hb] at this; cases this
      show min (midW n s (fun x => b2n ((wsetN n s k).testBit x)) n x) 1 = 0
      omega
    · have := key.2 hb
      show min (midW n s (fun x => b2n ((wsetN n s k).testBit x)) n x) 1 = 1
      have h' : 0 < midW n s (fun x => b2n ((wsetN n s k).testBit x)) n x := this
      omega
  · rw [mset_out n s (k + 1) x h1 (by omega), mid_out n s _ n x h1 (by omega)]
    rfl
theorem arr_at (W : World) (B : Nat) (t : TypeId) (f g : Nat → Nat) (h : Arr W B t f) (e : f = g) : Arr W B t g := e ▸ h
set_option maxHeartbeats 1000000 in
theorem swalks_any (n s k : Nat) (w : World) (h1 : 1 ≤ n) (h2 : n ≤ 12) (hs : s < 2 ^ n) (h0 : s.testBit 0 = false) (hk : k ≤ 10) :
    Calls Try.prog 49 #[.agg #[.int .i64 (n:Int), .int .i64 (s:Int)], .int .i64 (k:Int)] w fun e w' => e = .returned (.agg (arrC (wlkN n s k))) ∧ Below w.heap.size w w' := by
  have HL := Lib.hid (fun i (hi : i < 10) W => longer_any n s (wlkN n s i) W h1 h2 hs (fun x _ => wlk_small n s i x h1 h2 h0 (by omega)) (fun v x hv => mid_small n s i v x h1 h2 h0 hi hv))
  have HU : Hid (∀ i, midW n s (wlkN n s i) n = wlkN n s (i + 1)) := Lib.hid (fun i => rfl)
  have HN := Lib.hid (fun W => noArcs_any W)
  have H0 : Hid ((fun x => if x = 0 then 1 else 0) = wlkN n s 0) := Lib.hid (funext fun x => rfl)
  have hD := (Duo.new w 41 (.int .i64 (n:Int)) (.int .i64 (s:Int))).alloc (.cells (arrC fun _ => 0) 58)
  have hR := Arr.new (w.alloc (.cells #[.int .i64 (n:Int), .int .i64 (s:Int)] 41)) 58 (fun _ => 0)
  have hB : Below w.heap.size w ((w.alloc (.cells #[.int .i64 (n:Int), .int .i64 (s:Int)] 41)).alloc (.cells (arrC fun _ => 0) 58)) := ((Below.refl _ _).alloc (Nat.le_refl _) _).alloc (by simp) _
  rw [World.size_alloc] at hR
  rw [← zero_arr] at hD hR hB
  have HD := Lib.hid hD
  have HR := Lib.hid hR
  have HB := Lib.hid hB
  clear hD hR hB
  go_enter Try.func49, Try.ntmps49
  go_wp2_with fail
  refine (HN.out _).mono ?_
  rintro e w1 ⟨rfl, hb1⟩
  have hD1 := (duo_below HD.out HD.out.lt hb1).alloc (.cells (arrC fun _ => 0) 58)
  have hR1 := (HR.out.below HR.out.lt hb1).alloc (.cells (arrC fun _ => 0) 58)
  have hT1 := Arr.new w1 58 (fun _ => 0)
  have hB1 := (HB.out.trans (hb1.mono HB.out.size)).alloc (by have := HB.out.size; have := hb1.size; omega) (.cells (arrC fun _ => 0) 58)
  have z1 : w.heap.size + 1 < w1.heap.size := Nat.lt_of_lt_of_le HR.out.lt hb1.size
  rw [← zero_arr] at hD1 hR1 hT1 hB1
  have HT1 := Lib.hid hT1
  have HD2 := Lib.hid (hD1.same (setRow_other _ w1.heap.size (w.heap.size) (arrC (wlkN n s 0)) (by omega)))
  have HR2 := Lib.hid (hR1.same (setRow_other _ w1.heap.size (w.heap.size + 1) (arrC (wlkN n s 0)) (by omega)))
  have HT2 := Lib.hid (hT1.row (wlkN n s 0))
  have HB2 := Lib.hid (row_below hB1 (show w.heap.size ≤ w1.heap.size by omega) (wlkN n s 0))
  clear hD1 hR1 hT1 hB1 hb1 HD HR HB
  rw [H0.out]
  go_wp2_with (first
    | (refine wpList_storeArr _ rfl _ _ rfl w1.heap.size 58 (fun _ => 0) (wlkN n s 0) rfl rfl HT1.out ?_)
    | go_in)
  obtain ⟨T, hT⟩ : ∃ T, w1.heap.size = T := ⟨_, rfl⟩
  rw [hT] at z1 HT1 HD2 HR2 HT2 HB2 ⊢
  have HTe := Lib.hid hT
  clear hT
  obtain ⟨W0, hW0⟩ : ∃ W0, ((w1.alloc (.cells #[.int .i64 0, .int .i64 0, .int .i64 0, .int .i64 0, .int .i64 0, .int .i64 0, .int .i64 0, .int .i64 0, .int .i64 0, .int .i64 0, .int .i64 0, .int .i64 0] 58)).setRow T (arrC (wlkN n s 0))) = W0 := ⟨_, rfl⟩
  rw [hW0] at HD2 HR2 HT2 HB2 ⊢
  clear hW0 HT1
  go_loopw [8] (fun u wr => ∃ i : Nat, i ≤ k ∧ u = .int .i64 (i : Int) ∧ Duo wr w.heap.size 41 (.int .i64 (n:Int)) (.int .i64 (s:Int)) ∧ Arr wr (w.heap.size + 1) 58 (fun _ => 0) ∧ Arr wr T 58 (wlkN n s i) ∧ Below w.heap.size w wr) (fun u _ => k - (intOf u).toNat)
  case atStart => exact ⟨0, Nat.zero_le _, rfl, HD2.out, HR2.out, HT2.out, HB2.out⟩
  case round =>
    obtain ⟨i, hi, rfl, hD, hR, hT, hB⟩ := hrel
    have HD := Lib.hid hD
    have HR := Lib.hid hR
    have HT := Lib.hid hT
    have HB := Lib.hid hB
    clear hD hR hT hB HD2 HR2 HT2 HB2
    by_cases hlt : i < k
    · have HC := Lib.hid (fun W => HL.out i (by omega) W)
      rw [HU.out] at HC
      have d0 := HD.out.cell0
      have d1 := HD.out.cell1
      go_wp2_with (first
        | (refine wpList_loadArr _ rfl _ rfl T 58 (wlkN n s i) rfl HT.out ?_)
        | fail)
      refine (HC.out _).mono ?_
      rintro e w2 ⟨rfl, hb2⟩
      have hT2 := HT.out.below HT.out.lt hb2
      have hD2 := duo_below HD.out HD.out.lt hb2
      have hR2 := HR.out.below HR.out.lt hb2
      have hB2 := HB.out.trans (hb2.mono HB.out.size)
      have z2 : T < w2.heap.size := hT2.lt
      have HT2 := Lib.hid hT2
      have HT3 := Lib.hid (hT2.row (wlkN n s (i + 1)))
      have HD3 := Lib.hid (hD2.same (setRow_other _ T w.heap.size (arrC (wlkN n s (i + 1))) (by omega)))
      have HR3 := Lib.hid (hR2.same (setRow_other _ T (w.heap.size + 1) (arrC (wlkN n s (i + 1))) (by omega)))
      have HB3 := Lib.hid (row_below hB2 (show w.heap.size ≤ T by omega) (wlkN n s (i + 1)))
      clear hT2 hD2 hR2 hB2 hb2 HT HD HR HB
      go_wp2_with (first
        | (refine wpList_storeArr _ rfl _ _ rfl T 58 (wlkN n s i) (wlkN n s (i + 1)) rfl rfl HT2.out ?_)
        | go_in)
      go_roundw
      case rel => exact ⟨i + 1, by omega, by go_num, HD3.out, HR3.out, HT3.out, HB3.out⟩
      case measure => simp [intOf]; omega
    · obtain rfl : i = k := by omega
      have HR2 := Lib.hid (HR.out.row (wlkN n s i))
      have HB2 := Lib.hid (row_below HB.out (show w.heap.size ≤ w.heap.size + 1 by omega) (wlkN n s i))
      go_wp2_with (first
        | (refine wpList_loadArr _ rfl _ rfl T 58 (wlkN n s i) rfl HT.out ?_)
        | (refine wpList_storeArr _ rfl _ _ rfl (w.heap.size + 1) 58 _ (wlkN n s i) rfl rfl HR.out ?_)
        | go_in)
      have hl := HR2.out.loadVar
      refine bodyPost_ret (v := .agg (arrC (wlkN n s i))) ?_ rfl ⟨rfl, HB2.out⟩
      rw [results_cell1 rfl]
      simp [asAddr, Result.andThen, hl, Act.put]
set_option maxHeartbeats 1000000 in
theorem smarks_any (n s k : Nat) (w : World) (h1 : 1 ≤ n) (h2 : n ≤ 12) (hs : s < 2 ^ n) (h0 : s.testBit 0 = false) (hk : k ≤ 1000) :
    Calls Try.prog 54 #[.agg #[.int .i64 (n:Int), .int .i64 (s:Int)], .int .i64 (k:Int)] w fun e w' => e = .returned (.agg (arrC (msetN n s k))) ∧ Below w.heap.size w w' := by
  have HL := Lib.hid (fun i (hi : 0 ≤ i) W => longer_any n s (msetN n s i) W h1 h2 hs (fun x _ => by have := mset_le n s i x; omega) (fun v x hv => by have := mid_cap n s (msetN n s i) v x h2 hv (mset_le n s i); omega))
  have HU : Hid (∀ i : Nat, i + 0 = i) := Lib.hid (fun i => rfl)
  have HM : Hid (∀ i, (fun x => min (midW n s (msetN n s i) n x) 1) = msetN n s (i + 1)) := Lib.hid (fun i => by funext x; exact mset_step n s i x h1 hs)
  have HN := Lib.hid (fun W => noArcs_any W)
  have H0 : Hid ((fun x => if x = 0 then 1 else 0) = msetN n s 0) := Lib.hid (funext fun x => mset_zero n s x)
  have hD := (Duo.new w 41 (.int .i64 (n:Int)) (.int .i64 (s:Int))).alloc (.cells (arrC fun _ => 0) 58)
  have hR := Arr.new (w.alloc (.cells #[.int .i64 (n:Int), .int .i64 (s:Int)] 41)) 58 (fun _ => 0)
  have hB : Below w.heap.size w ((w.alloc (.cells #[.int .i64 (n:Int), .int .i64 (s:Int)] 41)).alloc (.cells (arrC fun _ => 0) 58)) := ((Below.refl _ _).alloc (Nat.le_refl _) _).alloc (by simp) _
  rw [World.size_alloc] at hR
  rw [← zero_arr] at hD hR hB
  have HD := Lib.hid hD
  have HR := Lib.hid hR
  have HB := Lib.hid hB
  clear hD hR hB
  go_enter Try.func54, Try.ntmps54
  go_wp2_with fail
  refine (HN.out _).mono ?_
  rintro e w1 ⟨rfl, hb1⟩
  have hD1 := (duo_below HD.out HD.out.lt hb1).alloc (.cells (arrC fun _ => 0) 58)
  have hR1 := (HR.out.below HR.out.lt hb1).alloc (.cells (arrC fun _ => 0) 58)
  have hT1 := Arr.new w1 58 (fun _ => 0)
  have hB1 := (HB.out.trans (hb1.mono HB.out.size)).alloc (by have := HB.out.size; have := hb1.size; omega) (.cells (arrC fun _ => 0) 58)
  have z1 : w.heap.size + 1 < w1.heap.size := Nat.lt_of_lt_of_le HR.out.lt hb1.size
  rw [← zero_arr] at hD1 hR1 hT1 hB1
  have HT1 := Lib.hid hT1
  have HD2 := Lib.hid (hD1.same (setRow_other _ w1.heap.size (w.heap.size) (arrC (msetN n s 0)) (by omega)))
  have HR2 := Lib.hid (hR1.same (setRow_other _ w1.heap.size (w.heap.size + 1) (arrC (msetN n s 0)) (by omega)))
  have HT2 := Lib.hid (hT1.row (msetN n s 0))
  have HB2 := Lib.hid (row_below hB1 (show w.heap.size ≤ w1.heap.size by omega) (msetN n s 0))
  clear hD1 hR1 hT1 hB1 hb1 HD HR HB
  rw [H0.out]
  go_wp2_with (first
    | (refine wpList_storeArr _ rfl _ _ rfl w1.heap.size 58 (fun _ => 0) (msetN n s 0) rfl rfl HT1.out ?_)
    | go_in)
  obtain ⟨T, hT⟩ : ∃ T, w1.heap.size = T := ⟨_, rfl⟩
  rw [hT] at z1 HT1 HD2 HR2 HT2 HB2 ⊢
  have HTe := Lib.hid hT
  clear hT
  obtain ⟨W0, hW0⟩ : ∃ W0, ((w1.alloc (.cells #[.int .i64 0, .int .i64 0, .int .i64 0, .int .i64 0, .int .i64 0, .int .i64 0, .int .i64 0, .int .i64 0, .int .i64 0, .int .i64 0, .int .i64 0, .int .i64 0] 58)).setRow T (arrC (msetN n s 0))) = W0 := ⟨_, rfl⟩
  rw [hW0] at HD2 HR2 HT2 HB2 ⊢
  clear hW0 HT1
  go_loopw [8] (fun u wr => ∃ i : Nat, i ≤ k ∧ u = .int .i64 (i : Int) ∧ Duo wr w.heap.size 41 (.int .i64 (n:Int)) (.int .i64 (s:Int)) ∧ Arr wr (w.heap.size + 1) 58 (fun _ => 0) ∧ Arr wr T 58 (msetN n s i) ∧ Below w.heap.size w wr) (fun u _ => k - (intOf u).toNat)
  case atStart => exact ⟨0, Nat.zero_le _, rfl, HD2.out, HR2.out, HT2.out, HB2.out⟩
  case round =>
    obtain ⟨i, hi, rfl, hD, hR, hT, hB⟩ := hrel
    have HD := Lib.hid hD
    have HR := Lib.hid hR
    have HT := Lib.hid hT
    have HB := Lib.hid hB
    clear hD hR hT hB HD2 HR2 HT2 HB2
    by_cases hlt : i < k
    · have HC := Lib.hid (fun W => HL.out i (by omega) W)
      have d0 := HD.out.cell0
      have d1 := HD.out.cell1
      have HK := Lib.hid (fun W => wmarks_any (midW n s (msetN n s i) n) W)
      rw [HM.out] at HK
      go_wp2_with (first
        | (refine wpList_loadArr _ rfl _ rfl T 58 (msetN n s i) rfl HT.out ?_)
        | fail)
      refine (HC.out _).mono ?_
      rintro e w1 ⟨rfl, hb1⟩
      go_wp2_with fail
      refine (HK.out _).mono ?_
      rintro e w2 ⟨rfl, hb2'⟩
      have hb2 : Below wr.heap.size wr w2 := hb1.trans (hb2'.mono hb1.size)
      clear hb1 hb2'
      have hT2 := HT.out.below HT.out.lt hb2
      have hD2 := duo_below HD.out HD.out.lt hb2
      have hR2 := HR.out.below HR.out.lt hb2
      have hB2 := HB.out.trans (hb2.mono HB.out.size)
      have z2 : T < w2.heap.size := hT2.lt
      have HT2 := Lib.hid hT2
      have HT3 := Lib.hid (hT2.row (msetN n s (i + 1)))
      have HD3 := Lib.hid (hD2.same (setRow_other _ T w.heap.size (arrC (msetN n s (i + 1))) (by omega)))
      have HR3 := Lib.hid (hR2.same (setRow_other _ T (w.heap.size + 1) (arrC (msetN n s (i + 1))) (by omega)))
      have HB3 := Lib.hid (row_below hB2 (show w.heap.size ≤ T by omega) (msetN n s (i + 1)))
      clear hT2 hD2 hR2 hB2 hb2 HT HD HR HB
      go_wp2_with (first
        | (refine wpList_storeArr _ rfl _ _ rfl T 58 (msetN n s i) (msetN n s (i + 1)) rfl rfl HT2.out ?_)
        | go_in)
      go_roundw
      case rel => exact ⟨i + 1, by omega, by go_num, HD3.out, HR3.out, HT3.out, HB3.out⟩
      case measure => simp [intOf]; omega
    · obtain rfl : i = k := by omega
      have HR2 := Lib.hid (HR.out.row (msetN n s i))
      have HB2 := Lib.hid (row_below HB.out (show w.heap.size ≤ w.heap.size + 1 by omega) (msetN n s i))
      go_wp2_with (first
        | (refine wpList_loadArr _ rfl _ rfl T 58 (msetN n s i) rfl HT.out ?_)
        | (refine wpList_storeArr _ rfl _ _ rfl (w.heap.size + 1) 58 _ (msetN n s i) rfl rfl HR.out ?_)
        | go_in)
      have hl := HR2.out.loadVar
      refine bodyPost_ret (v := .agg (arrC (msetN n s i))) ?_ rfl ⟨rfl, HB2.out⟩
      rw [results_cell1 rfl]
      simp [asAddr, Result.andThen, hl, Act.put]
end Go.Proofs.Ytookciehnjnmnaa
