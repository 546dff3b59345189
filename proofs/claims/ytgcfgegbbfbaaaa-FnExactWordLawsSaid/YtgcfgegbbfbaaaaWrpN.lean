/- Words, the program's side: the shortest text of each place. Written by gen127.py. -/
import Derived.Test.YtgcfgegbbfbaaaaWrpJ
import Derived.Test.YtgcfgegbbfbaaaaWrdY
import Derived.Test.YtgcfgegbbfbaaaaGG
namespace Go.Proofs.Ytgcfgegbbfbaaaa
open Go.RowKit Go.Shelf
set_option linter.unusedVariables false
attribute [local go_sem] Oper.semAt_some
/-- The shortest text of whatever number. -/
def shT (n : Nat) (ls : List Nat) (v : Int) : Option ByteArray := (if 0 ≤ v ∧ v ≤ (n:Int) - 1 then shortC n ls v.toNat else none).map fun cs => toB (textC 0 cs)
set_option maxRecDepth 100000 in
set_option maxHeartbeats 4000000 in
theorem short_any (n : Nat) (q : Option Addr) (ls : List Nat) (v : Int) (w : World) (h1 : 1 ≤ n) (h2 : n ≤ 12) (h3 : ls.length ≤ 3) (hls : ∀ l ∈ ls, l < n) (hL : Lets w (.pointer q) 0 ls) :
    Calls Try.prog 38 #[.agg #[.int .i64 (n:Int), .pointer q], .int .i64 v] w fun e w' => e = .returned (.tuple #[.string ((shT n ls v).getD ⟨#[]⟩), .bool (shT n ls v).isSome]) ∧ Below w.heap.size w w' := by
  have hmx : Try.prog.follows .mixedOrders = true := by kernel_rfl
  have hB0 := ((Below.refl _ w).alloc (Nat.le_refl _) (.cells #[.int .i64 (n:Int), .pointer q] 48)).alloc (by simp) (.cells #[.int .i64 v] 3)
  have hD0 := (Duo.new w 48 (.int .i64 (n:Int)) (.pointer q)).alloc (.cells #[.int .i64 v] 3)
  have hV0 := Boxed.new (w.alloc (.cells #[.int .i64 (n:Int), .pointer q] 48)) 3 (.int .i64 v)
  simp only [World.size_alloc] at hV0
  obtain ⟨W0, hW0⟩ : ∃ W0, (w.alloc (.cells #[.int .i64 (n:Int), .pointer q] 48)).alloc (.cells #[.int .i64 v] 3) = W0 := ⟨_, rfl⟩
  rw [hW0] at hB0 hD0 hV0
  have hL0 := hL.below hB0
  have HW := Lib.hid (wordsThat_any (ShI n q ls v w.heap.size (w.heap.size + 1)) (fun cs => ((endW n ls cs : Nat) : Int) == v) 55 #[.pointer (some ⟨w.heap.size, 0, none⟩), .pointer (some ⟨w.heap.size + 1, 0, none⟩)] n (n / 2) q ls h3 (by omega) (enters_of Try.func55 (by kernel_rfl) rfl)
    (shortHold n q ls v w.heap.size (w.heap.size + 1) h1 h2 h3 (fun l hl => by have := hls l hl; omega)) cfS 57 (enters_of Try.func57 (by kernel_rfl) rfl) swoS cmpS_hc W0 ⟨hD0, hV0, hL0⟩ hL0)
  have HSh := Lib.hid (fun F' hp hs => short_of n ls v F' h1 h2 hls h3 hp hs)
  have HWr := Lib.hid (fun cs X hl hc hL => write_any n (.pointer q) ls cs X hl h3 hc hL)
  have HMem : Hid (∀ cs, cs ∈ (eaC ls.length (n / 2)).filter (fun cs => ((endW n ls cs : Nat) : Int) == v) → cs.length = ls.length ∧ absL cs ≤ 60) := Lib.hid (fun cs hcs => by
    have h := (ea_mem _ _ _).1 (List.mem_filter.1 hcs).1
    exact ⟨h.1, by omega⟩)
  have HB0 := Lib.hid hB0
  have HD0 := Lib.hid hD0
  have HL0 := Lib.hid hL0
  have q1 : Int.tdiv (n : Int) 2 = ((n / 2 : Nat) : Int) := rfl
  have q2 : (n : Int) / 2 = ((n / 2 : Nat) : Int) := rfl
  have q3 : wrap64 ((n / 2 : Nat) : Int) = ((n / 2 : Nat) : Int) := IntWalk.wrap64_in _ (by omega)
  have d0 := hD0.cell0
  have d1 := hD0.cell1
  generalize n / 2 = h at *
  clear h1 h2 h3 hls hL hB0 hD0 hV0 hL0
  go_enter Try.func38, Try.ntmps38
  go_wp2_with fail
  clear hW0 q1 q2 q3 d0 d1
  refine HW.out.mono ?_
  rintro e W1 ⟨v1, F', rfl, hw1, hp, hs, hb1⟩
  have hsh := HSh.out F' hp hs
  have HB1 := Lib.hid (HB0.out.trans (hb1.mono HB0.out.size))
  have HD1 := Lib.hid (HD0.out.bel HD0.out.lt hb1)
  have HL1 := Lib.hid (HL0.out.below hb1)
  obtain ⟨A1, l1, k1, rfl⟩ := hw1.slice
  by_cases hF : F' = []
  · have hl1 : l1 = 0 := by
      rcases hw1.shape with ⟨e, _⟩ | ⟨g, cap, e, _⟩
      · injection e
      · injection e with _ e2 _; rw [e2, hF]; rfl
    subst hl1
    rw [if_pos hF] at hsh
    have HV : Hid (shT n ls v = none) := Lib.hid (by unfold shT; rw [hsh]; rfl)
    clear hsh hw1 hp hs hb1 hF
    go_wp2
    exact bodyPost_ret (v := .tuple #[.string ⟨#[]⟩, .bool false]) (by simp [results, Try.results38, go_sem]) rfl ⟨by rw [HV.out]; rfl, HB1.out⟩
  · have hpos : 0 < F'.length := List.length_pos_iff.2 hF
    obtain ⟨g, hA1, hg2, hl1⟩ : ∃ g, A1 = some ⟨g, 0, none⟩ ∧ g < W1.heap.size ∧ l1 = F'.length := by
      rcases hw1.shape with ⟨_, e⟩ | ⟨g, cap, e, _, h2⟩
      · exact absurd e hF
      · injection e with e1 e2 _; exact ⟨g, e1, h2, e2⟩
    subst hA1
    subst hl1
    rw [if_neg hF] at hsh
    have hmem := HMem.out _ (hp.mem_iff.1 (getD_mem' F' 0 hpos))
    have HV : Hid (shT n ls v = some (toB (textC 0 (F'.getD 0 [])))) := Lib.hid (by unfold shT; rw [hsh]; rfl)
    have k0 : W1.cell? ⟨g, 0, none⟩ = some (.int .i64 (cO (F'.getD 0 []) 0)) := hw1.cells hpos 0 (by omega)
    have k1 : W1.cell? ⟨g, 1, none⟩ = some (.int .i64 (cO (F'.getD 0 []) 1)) := hw1.cells hpos 1 (by omega)
    have k2 : W1.cell? ⟨g, 2, none⟩ = some (.int .i64 (cO (F'.getD 0 []) 2)) := hw1.cells hpos 2 (by omega)
    obtain ⟨c, hc⟩ : ∃ c, F'.getD 0 [] = c := ⟨_, rfl⟩
    rw [hc] at hmem HV k0 k1 k2
    have HW2 := Lib.hid (fun X hL => HWr.out c X hmem.1 hmem.2 hL)
    obtain ⟨T, hT⟩ : ∃ T, toB (textC 0 c) = T := ⟨_, rfl⟩
    rw [hT] at HV HW2
    have z1 : ((F'.length : Int) == 0) = false := by simp; omega
    have i1 : (0 : Int) < (F'.length : Int) := by omega
    have i2 : 0 < F'.length := hpos
    obtain ⟨N, hN⟩ : ∃ N, F'.length = N := ⟨_, rfl⟩
    rw [hN] at z1 i1 i2 ⊢
    have HG := Lib.hid hg2
    have hA0 : (Duo W1.drew w.heap.size 48 (.int .i64 (n:Int)) (.pointer q) ∧ Lets W1.drew (.pointer q) 0 ls) ∧ (W1.drew.cell? ⟨g, 0, none⟩ = some (.int .i64 (cO c 0)) ∧ W1.drew.cell? ⟨g, 1, none⟩ = some (.int .i64 (cO c 1)) ∧ W1.drew.cell? ⟨g, 2, none⟩ = some (.int .i64 (cO c 2)) ∧ g < W1.drew.heap.size) ∧ Below w.heap.size w W1.drew :=
      ⟨⟨HD1.out, HL1.out.drew⟩, ⟨k0, k1, k2, hg2⟩, HB1.out.drew⟩
    clear hsh hw1 hp hs hb1 hF hpos hmem hc hT hN k0 k1 k2 hg2
    unfold wV at HW2
    go_wp2_with fail
    refine wp_region_held_drew (S := fun X => (Duo X w.heap.size 48 (.int .i64 (n:Int)) (.pointer q) ∧ Lets X (.pointer q) 0 ls) ∧ (X.cell? ⟨g, 0, none⟩ = some (.int .i64 (cO c 0)) ∧ X.cell? ⟨g, 1, none⟩ = some (.int .i64 (cO c 1)) ∧ X.cell? ⟨g, 2, none⟩ = some (.int .i64 (cO c 2)) ∧ g < X.heap.size) ∧ Below w.heap.size w X) hmx hA0 (fun _ => ?_)
    generalize W1.drew = W4 at *
    refine take1 0 (v := ?_) rfl (by kernel_rfl) (by kernel_rfl) (by kernel_rfl) (fun _ _ _ h => h) (by rfl) ?_ hA0 ?_
    rotate_left
    · intro W9 hA
      obtain ⟨⟨hd, _⟩, ⟨t0, t1, t2, _⟩, _⟩ := hA
      have d0 := hd.cell0
      have d1 := hd.cell1
      clear hd
      go_simp
      try with_reducible rfl
    try simp only [Act.put, List.setIfInBounds_toArray, List.set_cons_zero, List.set_cons_succ]
    refine take1 1 (v := ?_) rfl (by kernel_rfl) (by kernel_rfl) (by kernel_rfl) (fun _ _ _ h => h) (by rfl) ?_ hA0 ?_
    rotate_left
    · intro W9 hA
      obtain ⟨⟨hd, _⟩, ⟨t0, t1, t2, _⟩, _⟩ := hA
      have d0 := hd.cell0
      have d1 := hd.cell1
      clear hd
      go_simp
      try with_reducible rfl
    try simp only [Act.put, List.setIfInBounds_toArray, List.set_cons_zero, List.set_cons_succ]
    refine take1 2 (v := ?_) rfl (by kernel_rfl) (by kernel_rfl) (by kernel_rfl) (fun _ _ _ h => h) (by rfl) ?_ hA0 ?_
    rotate_left
    · intro W9 hA
      obtain ⟨⟨hd, _⟩, ⟨t0, t1, t2, _⟩, _⟩ := hA
      have d0 := hd.cell0
      have d1 := hd.cell1
      clear hd
      go_simp
      try with_reducible rfl
    try simp only [Act.put, List.setIfInBounds_toArray, List.set_cons_zero, List.set_cons_succ]
    refine take1 3 (v := ?_) rfl (by kernel_rfl) (by kernel_rfl) (by kernel_rfl) (fun _ _ _ h => h) (by rfl) ?_ hA0 ?_
    rotate_left
    · intro W9 hA
      obtain ⟨⟨hd, _⟩, ⟨t0, t1, t2, _⟩, _⟩ := hA
      have d0 := hd.cell0
      have d1 := hd.cell1
      clear hd
      go_simp
      try with_reducible rfl
    try simp only [Act.put, List.setIfInBounds_toArray, List.set_cons_zero, List.set_cons_succ]
    refine step1 4 (by kernel_rfl) rfl (fun K hK => ?_)
    go_simp
    refine (HW2.out _ hA0.1.2).mono ?_
    rintro e W1' ⟨rfl, hb1⟩
    go_wp2_with fail
    have hA1 := (⟨⟨hA0.1.1.bel hA0.1.1.lt hb1, hA0.1.2.below hb1⟩, ⟨(hb1.cell (p := ⟨g, 0, none⟩) hA0.2.1.2.2.2).trans hA0.2.1.1, (hb1.cell (p := ⟨g, 1, none⟩) hA0.2.1.2.2.2).trans hA0.2.1.2.1, (hb1.cell (p := ⟨g, 2, none⟩) hA0.2.1.2.2.2).trans hA0.2.1.2.2.1, Nat.lt_of_lt_of_le hA0.2.1.2.2.2 hb1.size⟩, hA0.2.2.trans (hb1.mono hA0.2.2.size)⟩ : (Duo _ w.heap.size 48 (.int .i64 (n:Int)) (.pointer q) ∧ Lets _ (.pointer q) 0 ls) ∧ (World.cell? _ ⟨g, 0, none⟩ = some (.int .i64 (cO c 0)) ∧ World.cell? _ ⟨g, 1, none⟩ = some (.int .i64 (cO c 1)) ∧ World.cell? _ ⟨g, 2, none⟩ = some (.int .i64 (cO c 2)) ∧ g < _) ∧ Below w.heap.size w _)
    refine hK.out _ _ hA1 ?_
    clear hK K
    try simp only [Act.put, List.setIfInBounds_toArray, List.set_cons_zero, List.set_cons_succ]
    refine take1 5 (v := ?_) rfl (by kernel_rfl) (by kernel_rfl) (by kernel_rfl) (fun _ _ _ h => h) (by rfl) ?_ hA1 ?_
    rotate_left
    · intro W9 hA
      obtain ⟨⟨hd, _⟩, ⟨t0, t1, t2, _⟩, _⟩ := hA
      have d0 := hd.cell0
      have d1 := hd.cell1
      clear hd
      go_simp
      try with_reducible rfl
    try simp only [Act.put, List.setIfInBounds_toArray, List.set_cons_zero, List.set_cons_succ]
    refine take1 6 (v := ?_) rfl (by kernel_rfl) (by kernel_rfl) (by kernel_rfl) (fun _ _ _ h => h) (by rfl) ?_ hA1 ?_
    rotate_left
    · intro W9 hA
      obtain ⟨⟨hd, _⟩, ⟨t0, t1, t2, _⟩, _⟩ := hA
      have d0 := hd.cell0
      have d1 := hd.cell1
      clear hd
      go_simp
      try with_reducible rfl
    try simp only [Act.put, List.setIfInBounds_toArray, List.set_cons_zero, List.set_cons_succ]
    refine stop1 (by kernel_rfl) ?_
    go_wp2
    exact bodyPost_ret (v := .tuple #[.string T, .bool true]) (by simp [results, Try.results38, go_sem]) rfl ⟨by rw [HV.out]; rfl, hA1.2.2⟩
theorem let_ltn (n : Nat) (xs : List Int) (h : LetIn (n : Int) xs) : ∀ l ∈ letL xs, l < n := by
  intro l hl
  obtain ⟨x, hx, e⟩ := List.mem_map.1 hl
  obtain ⟨i, hi, he⟩ := List.getElem_of_mem hx
  have h1 := h.2.2.2 i hi
  rw [List.getD_eq_getElem?_getD, List.getElem?_eq_getElem hi] at h1
  have h2 : 1 ≤ xs[i] ∧ xs[i] ≤ (n:Int) - 1 := h1
  rw [he] at h2
  have := h.1
  omega
set_option maxRecDepth 100000 in
set_option maxHeartbeats 2000000 in
theorem any_WordShort : AnyWordShort := by
  intro n lv xs v b w hxl hI
  have HA := Lib.hid (alphabetOf_any n lv xs b w hI)
  clear hI hxl
  go_enter Try.func16, Try.ntmps16
  go_wp2_with fail
  refine HA.out.mono ?_
  rintro e W1 ⟨⟨hL, p, rfl, hLt⟩ | ⟨hno, rfl⟩, hb1⟩
  · obtain ⟨q, rfl⟩ := hLt.ptr
    obtain ⟨m, rfl⟩ : ∃ m : Nat, n = (m : Int) := ⟨n.toNat, by have := hL.1; omega⟩
    have hll : (letL xs).length = xs.length := by simp [letL]
    have HB1 : Hid (Below w.heap.size w (W1.alloc (.cells #[.int .i64 (m:Int), .pointer q] 48))) := Lib.hid (hb1.alloc hb1.size _)
    have HS := Lib.hid (short_any m q (letL xs) v (W1.alloc (.cells #[.int .i64 (m:Int), .pointer q] 48)) (by have := hL.1; omega) (by have := hL.1; omega) (by rw [hll]; exact hL.2.2.1) (let_ltn m xs hL) (hLt.below ((Below.refl _ _).alloc (Nat.le_refl _) _)))
    have HV : Hid (shortO (m:Int) xs v = shT m (letL xs) v) := Lib.hid (by
      unfold shortO shT
      by_cases h : 0 ≤ v ∧ v ≤ (m:Int) - 1
      · rw [if_pos ⟨hL, h⟩, if_pos h, Int.toNat_natCast]
      · rw [if_neg (fun hh => h hh.2), if_neg h]; rfl)
    obtain ⟨T, hT⟩ : ∃ T, (shT m (letL xs) v).getD ⟨#[]⟩ = T := ⟨_, rfl⟩
    obtain ⟨t, ht⟩ : ∃ t, (shT m (letL xs) v).isSome = t := ⟨_, rfl⟩
    have HVT : Hid ((shortO (m:Int) xs v).getD ⟨#[]⟩ = T ∧ (shortO (m:Int) xs v).isSome = t) := Lib.hid (by rw [HV.out]; exact ⟨hT, ht⟩)
    rw [hT, ht] at HS
    clear hL hLt hb1 hll HV hT ht
    go_wp2_with fail
    refine HS.out.mono ?_
    rintro e W2 ⟨rfl, hb2⟩
    have HB2 := Lib.hid (HB1.out.trans (hb2.mono HB1.out.size))
    clear hb2
    go_wp2
    exact bodyPost_ret (v := .tuple #[.string T, .bool t]) (by simp [results, Try.results16, go_sem]) rfl ⟨by rw [HVT.out.1, HVT.out.2], HB2.out⟩
  · have HB1 : Hid (Below w.heap.size w (W1.alloc (.cells #[.int .i64 0, .pointer none] 48))) := Lib.hid (hb1.alloc hb1.size _)
    have HV : Hid (shortO n xs v = none) := Lib.hid (by unfold shortO; rw [if_neg (fun h => hno h.1)])
    clear hno hb1
    go_wp2
    exact bodyPost_ret (v := .tuple #[.string ⟨#[]⟩, .bool false]) (by simp [results, Try.results16, go_sem]) rfl ⟨by rw [HV.out]; rfl, HB1.out⟩
/-- What the program's list holds when k places have been asked. -/
def fTo (f : Nat → Int) (k v : Nat) : Int := if v < k then f v else 0
theorem fTo_set (f : Nat → Int) (n j : Nat) (z : Int) (hz : f j = z) : (tabI n (fTo f j)).set j z = tabI n (fTo f (j + 1)) := by
  rw [tabI_set]
  refine tabI_congr _ _ _ fun x _ => ?_
  unfold fTo
  by_cases e : x = j
  · subst e; rw [if_pos rfl, if_pos (by omega), hz]
  · rw [if_neg e]
    by_cases h : x < j
    · rw [if_pos h, if_pos (by omega)]
    · rw [if_neg h, if_neg (by omega)]
theorem fTo_end (f : Nat → Int) (n : Nat) : tabI n (fTo f n) = tabI n f := tabI_congr _ _ _ fun v hv => if_pos hv
theorem far_shT (n : Nat) (ls : List Nat) (j : Nat) (hj : j < n) : (shT n ls (j:Int) = none ∧ farV n ls j = -1) ∨ ∃ T, shT n ls (j:Int) = some T ∧ farV n ls j = (T.size : Int) ∧ T.size ≤ 12 * n := by
  unfold shT
  rw [if_pos (by omega), Int.toNat_natCast]
  cases h : shortC n ls j with
  | none => exact .inl ⟨rfl, farV_none h⟩
  | some cs =>
    refine .inr ⟨_, rfl, farV_some h, ?_⟩
    have := (short_some n ls j cs h).2.2.1
    rw [toB_size, text_len]
    omega
set_option maxRecDepth 100000 in
set_option maxHeartbeats 2000000 in
theorem no_WordFar : NoWordFar := by
  intro n lv xs b w hno hxl hI
  have HA := Lib.hid (alphabetOf_any n lv xs b w hI)
  have HN := Lib.hid hno
  clear hI hxl hno
  go_enter Try.func26, Try.ntmps26
  go_wp2_with fail
  refine HA.out.mono ?_
  rintro e W1 ⟨⟨hL, p, rfl, hLt⟩ | ⟨hno, rfl⟩, hb1⟩
  · exact absurd hL HN.out
  · have HB1 : Hid (Below w.heap.size w (W1.alloc (.cells #[.int .i64 0, .pointer none] 48))) := Lib.hid (hb1.alloc hb1.size _)
    clear hno hb1
    go_wp2
    exact bodyPost_ret (v := .tuple #[.slice none 0 0, .bool false]) (by simp [results, Try.results26, go_sem]) rfl ⟨_, rfl, HB1.out, rfl, .inl ⟨rfl, rfl⟩⟩
set_option maxRecDepth 100000 in
set_option maxHeartbeats 4000000 in
theorem yes_WordFar : YesWordFar := by
  intro n lv xs b w hL hI
  have HA := Lib.hid (alphabetOf_any (n:Int) lv xs b w hI)
  have HL := Lib.hid hL
  have hn12 : n ≤ 12 := by have := hL.1; omega
  have h1n : 1 ≤ n := by have := hL.1; omega
  have hll : (letL xs).length ≤ 3 := by have := hL.2.2.1; simp [letL]; omega
  have HSh := Lib.hid (fun q v W hLt => short_any n q (letL xs) v W h1n hn12 hll (let_ltn n xs hL) hLt)
  have HFar := Lib.hid (far_shT n (letL xs))
  have HSet := Lib.hid (fTo_set (farV n (letL xs)) n)
  have HEnd := Lib.hid (fTo_end (farV n (letL xs)) n)
  have HLen := Lib.hid (fun k => tabI_len n (fTo (farV n (letL xs)) k))
  have HN := Lib.hid (⟨h1n, hn12⟩ : 1 ≤ n ∧ n ≤ 12)
  clear hI hL hll h1n
  go_enter Try.func26, Try.ntmps26
  go_wp2_with fail
  refine HA.out.mono ?_
  rintro e W1 ⟨⟨_, p, rfl, hLt⟩ | ⟨hno, rfl⟩, hb1⟩
  · obtain ⟨q, rfl⟩ := hLt.ptr
    have hmk := make_ints n (by omega) (W1.alloc (.cells #[.int .i64 (n:Int), .pointer q] 48))
    have hmd := made_ints n (by omega) (W1.alloc (.cells #[.int .i64 (n:Int), .pointer q] 48))
    rw [zeros_tab] at hmd
    have hD1 := (Duo.new W1 48 (.int .i64 (n:Int)) (.pointer q)).alloc (.cells (madeCells #[.int .i64 0] n) 3)
    have hB1 : Below w.heap.size w ((W1.alloc (.cells #[.int .i64 (n:Int), .pointer q] 48)).alloc (.cells (madeCells #[.int .i64 0] n) 3)) := (hb1.alloc hb1.size _).alloc (by have := hb1.size; simp; omega) _
    have hLt1 := (hLt.below ((Below.refl _ _).alloc (Nat.le_refl _) (.cells #[.int .i64 (n:Int), .pointer q] 48))).below ((Below.refl _ _).alloc (Nat.le_refl _) (.cells (madeCells #[.int .i64 0] n) 3))
    simp only [World.size_alloc] at hmk hmd
    have e0 : tabI n (fun _ => 0) = tabI n (fTo (farV n (letL xs)) 0) := tabI_congr _ _ _ fun v hv => by simp [fTo]
    rw [e0] at hmd
    have HSz := Lib.hid hb1.size
    obtain ⟨W2, hW2⟩ : ∃ W2, (W1.alloc (.cells #[.int .i64 (n:Int), .pointer q] 48)).alloc (.cells (madeCells #[.int .i64 0] n) 3) = W2 := ⟨_, rfl⟩
    rw [hW2] at hmk hmd hD1 hB1 hLt1
    have HD1 := Lib.hid hD1
    have HB1 := Lib.hid hB1
    have HL1 := Lib.hid hLt1
    have HI1 := Lib.hid (hmd.base (Nat.le_trans hb1.size (Nat.le_succ _)))
    clear hmd hD1 hB1 hLt1 hLt hb1 e0
    generalize letL xs = ls at *
    go_wp2_with fail
    clear hmk hW2
    go_loopw [24] (fun u wr => ∃ j : Nat, j ≤ n ∧ u = .int .i64 (j : Int) ∧ Hid (IsInts wr w.heap.size (.slice (some ⟨W1.heap.size + 1, 0, none⟩) n n) (tabI n (fTo (farV n ls) j))) ∧ Hid (Duo wr W1.heap.size 48 (.int .i64 (n:Int)) (.pointer q)) ∧ Hid (Lets wr (.pointer q) 0 ls) ∧ Hid (Below w.heap.size w wr)) (fun u _ => n - (intOf u).toNat)
    case atStart => exact ⟨0, Nat.zero_le _, rfl, HI1, HD1, HL1, HB1⟩
    case round =>
      obtain ⟨j, hj, rfl, HI, HD, HLt, HB⟩ := hrel
      by_cases hlt : j < n
      · have hfar := HFar.out j hlt
        have hlen := HLen.out j
        have i1 : (0 : Int) ≤ (j : Int) := by omega
        have i2 : (j : Int) < (n : Int) := by omega
        have d0 := HD.out.cell0
        have d1 := HD.out.cell1
        have HS := Lib.hid (HSh.out q (j:Int) wr HLt.out)
        rcases hfar with ⟨hs, hf⟩ | ⟨T, hs, hf, hT⟩
        · rw [hs] at HS
          have HSt := Lib.hid (HSet.out j _ hf)
          clear hs hf
          go_wp2_with fail
          refine HS.out.mono ?_
          rintro e W3 ⟨rfl, hb3⟩
          have hI3 : IsInts W3 w.heap.size (.slice (some ⟨W1.heap.size + 1, 0, none⟩) (tabI n (fTo (farV n ls) j)).length n) (tabI n (fTo (farV n ls) j)) := by rw [hlen]; exact HI.out.belowAll hb3
          have c3 := hI3.cell (i := j) (by rw [hlen]; exact hlt)
          have f3 := hI3.frozen j
          have h3 := hI3.set j (-1)
          rw [HSt.out, HLen.out (j + 1)] at h3
          have HI3 := Lib.hid h3
          have HD3 := Lib.hid ((HD.out.bel HD.out.lt hb3).off (p := ⟨W1.heap.size + 1, j, none⟩) (by show W1.heap.size ≠ W1.heap.size + 1; omega) (.int .i64 (-1)))
          have hB3 := HB.out.trans (hb3.mono HB.out.size)
          have HB3 := Lib.hid (hB3.setCell (p := ⟨W1.heap.size + 1, j, none⟩) (by show w.heap.size ≤ W1.heap.size + 1; have := HSz.out; omega) (.int .i64 (-1)))
          have HL3 : Hid (Lets (W3.setCell ⟨W1.heap.size + 1, j, none⟩ (.int .i64 (-1))) (.pointer q) 0 ls) := Lib.hid (Lets.grown (W := W3) (fun b u v x hT => Below.heap_setCell W3 ⟨W1.heap.size + 1, j, none⟩ (.int .i64 (-1)) b (fun e => by
            have e' : b = W1.heap.size + 1 := e
            subst e'
            have h5 : W3.heap[W1.heap.size + 1]? = _ := hT
            rcases hI3.2 with ⟨h6, _⟩ | ⟨g, cap, cur, h6, _, h7, _⟩
            · cases h6
            · injection h6 with h8 _ _
              injection h8 with h8
              injection h8 with h8
              rw [← h8] at h7
              rw [h7] at h5
              cases h5)) (HLt.out.below hb3))
          generalize (tabI n (fTo (farV n ls) j)).getD j 0 = z0 at c3
          clear hI3 h3 hB3 hb3 hlen
          go_wp2
          go_roundw
          case rel => exact ⟨j + 1, by omega, by go_num, HI3, HD3, HL3, HB3⟩
          case measure => simp [intOf]; omega
        · rw [hs] at HS
          have HSt := Lib.hid (HSet.out j _ hf)
          have w1 : wrap64 (T.size : Int) = (T.size : Int) := IntWalk.wrap64_in _ (by have := HN.out; omega)
          clear hs hf hT
          go_wp2_with fail
          refine HS.out.mono ?_
          rintro e W3 ⟨rfl, hb3⟩
          have hI3 : IsInts W3 w.heap.size (.slice (some ⟨W1.heap.size + 1, 0, none⟩) (tabI n (fTo (farV n ls) j)).length n) (tabI n (fTo (farV n ls) j)) := by rw [hlen]; exact HI.out.belowAll hb3
          have c3 := hI3.cell (i := j) (by rw [hlen]; exact hlt)
          have f3 := hI3.frozen j
          have h3 := hI3.set j ((T.size : Int))
          rw [HSt.out, HLen.out (j + 1)] at h3
          have HI3 := Lib.hid h3
          have HD3 := Lib.hid ((HD.out.bel HD.out.lt hb3).off (p := ⟨W1.heap.size + 1, j, none⟩) (by show W1.heap.size ≠ W1.heap.size + 1; omega) (.int .i64 ((T.size : Int))))
          have hB3 := HB.out.trans (hb3.mono HB.out.size)
          have HB3 := Lib.hid (hB3.setCell (p := ⟨W1.heap.size + 1, j, none⟩) (by show w.heap.size ≤ W1.heap.size + 1; have := HSz.out; omega) (.int .i64 ((T.size : Int))))
          have HL3 : Hid (Lets (W3.setCell ⟨W1.heap.size + 1, j, none⟩ (.int .i64 ((T.size : Int)))) (.pointer q) 0 ls) := Lib.hid (Lets.grown (W := W3) (fun b u v x hT => Below.heap_setCell W3 ⟨W1.heap.size + 1, j, none⟩ (.int .i64 ((T.size : Int))) b (fun e => by
            have e' : b = W1.heap.size + 1 := e
            subst e'
            have h5 : W3.heap[W1.heap.size + 1]? = _ := hT
            rcases hI3.2 with ⟨h6, _⟩ | ⟨g, cap, cur, h6, _, h7, _⟩
            · cases h6
            · injection h6 with h8 _ _
              injection h8 with h8
              injection h8 with h8
              rw [← h8] at h7
              rw [h7] at h5
              cases h5)) (HLt.out.below hb3))
          generalize (tabI n (fTo (farV n ls) j)).getD j 0 = z0 at c3
          clear hI3 h3 hB3 hb3 hlen
          go_wp2
          go_roundw
          case rel => exact ⟨j + 1, by omega, by go_num, HI3, HD3, HL3, HB3⟩
          case measure => simp [intOf]; omega
      · obtain rfl : j = n := by omega
        clear hlt hj
        go_wp2
        exact bodyPost_ret (v := .tuple #[.slice (some ⟨W1.heap.size + 1, 0, none⟩) j j, .bool true]) (by simp [results, Try.results26, go_sem]) rfl ⟨_, rfl, HB.out, by have h := HI.out; rw [HEnd.out] at h; exact h⟩
  · exact absurd HL.out hno
end Go.Proofs.Ytgcfgegbbfbaaaa
