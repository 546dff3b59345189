/- Words, the program's side: the shortest text of each place. Written by gen127.py. -/
import Derived.Test.YtnlalccnhpblkaaGreatWrpJ
import Derived.Test.YtnlalccnhpblkaaGreatWrdY
import Derived.Test.YtnlalccnhpblkaaGreatGG
namespace Go.Proofs.YtnlalccnhpblkaaGreat
open Go.RowKit Go.Shelf
set_option linter.unusedVariables false
attribute [local go_sem] Oper.semAt_some
/-- The shortest text of whatever number. -/
def shT (n : Nat) (ls : List Nat) (v : Int) : Option ByteArray := (if 0 ≤ v ∧ v ≤ (n:Int) - 1 then shortC n ls v.toNat else none).map fun cs => toB (textC 0 cs)
set_option maxRecDepth 100000 in
set_option maxHeartbeats 4000000 in
theorem short_any (n : Nat) (q : Option Addr) (ls : List Nat) (v : Int) (w : World) (h1 : 1 ≤ n) (h2 : n ≤ 12) (h3 : ls.length ≤ 3) (hls : ∀ l ∈ ls, l < n) (hL : Lets w (.pointer q) 0 ls) :
    Calls Tryz.prog 15 #[.agg #[.int .i64 (n:Int), .pointer q], .int .i64 v] w fun e w' => e = .returned (.tuple #[.string ((shT n ls v).getD ⟨#[]⟩), .bool (shT n ls v).isSome]) ∧ Below w.heap.size w w' := by
  have hmx : Tryz.prog.follows .mixedOrders = true := by kernel_rfl
  have hB0 := ((Below.refl _ w).alloc (Nat.le_refl _) (.cells #[.int .i64 (n:Int), .pointer q] 44)).alloc (by simp) (.cells #[.int .i64 v] 3)
  have hD0 := (Duo.new w 44 (.int .i64 (n:Int)) (.pointer q)).alloc (.cells #[.int .i64 v] 3)
  have hV0 := Boxed.new (w.alloc (.cells #[.int .i64 (n:Int), .pointer q] 44)) 3 (.int .i64 v)
  simp only [World.size_alloc] at hV0
  obtain ⟨W0, hW0⟩ : ∃ W0, (w.alloc (.cells #[.int .i64 (n:Int), .pointer q] 44)).alloc (.cells #[.int .i64 v] 3) = W0 := ⟨_, rfl⟩
  rw [hW0] at hB0 hD0 hV0
  have hL0 := hL.below hB0
  have HW := Lib.hid (wordsThat_any (ShI n q ls v w.heap.size (w.heap.size + 1)) (fun cs => ((endW n ls cs : Nat) : Int) == v) 29 #[.pointer (some ⟨w.heap.size, 0, none⟩), .pointer (some ⟨w.heap.size + 1, 0, none⟩)] n (n / 2) q ls h3 (by omega) (enters_of Tryz.func29 (by kernel_rfl) rfl)
    (shortHold n q ls v w.heap.size (w.heap.size + 1) h1 h2 h3 (fun l hl => by have := hls l hl; omega)) cfS 31 (enters_of Tryz.func31 (by kernel_rfl) rfl) swoS cmpS_hc W0 ⟨hD0, hV0, hL0⟩ hL0)
  have HSh := Lib.hid (fun F' hp hs => short_of n ls v F' h1 h2 hls h3 hp hs)
  have HWr := Lib.hid (fun cs X hl hc hL => write_any n (.pointer q) ls cs X hl h3 hc hL)
  have HMem : Hid (∀ cs, cs ∈ (eaC ls.length (n / 2)).filter (fun cs => ((endW n ls cs : Nat) : Int) == v) → cs.length = ls.length ∧ absL cs ≤ 60) := Lib.hid (fun cs hcs => by
    have h := (ea_mem _ _ _).1 (List.mem_filter.1 hcs).1
    exact ⟨h.1, by omega⟩)
  have HB0 := Lib.hid hB0
  have HD0 := Lib.hid hD0
  have HL0 := Lib.hid hL0
  have q1 : Int.tdiv (n : Int) 2 = ((n / 2 : Nat) : Int) := rfl
  have q2 : (n : Int) / 2 = ((n / 2 : Nat) : Int) := rfl
  have q3 : wrap64 ((n / 2 : Nat) : Int) = ((n / 2 : Nat) : Int) := IntWalk.wrap64_in _ (by omega)
  have d0 := hD0.cell0
  have d1 := hD0.cell1
  generalize n / 2 = h at *
  clear h1 h2 h3 hls hL hB0 hD0 hV0 hL0
  go_enter Tryz.func15, Tryz.ntmps15
  go_wp2_with fail
  clear hW0 q1 q2 q3 d0 d1
  refine HW.out.mono ?_
  rintro e W1 ⟨v1, F', rfl, hw1, hp, hs, hb1⟩
  have hsh := HSh.out F' hp hs
  have HB1 := Lib.hid (HB0.out.trans (hb1.mono HB0.out.size))
  have HD1 := Lib.hid (HD0.out.bel HD0.out.lt hb1)
  have HL1 := Lib.hid (HL0.out.below hb1)
  obtain ⟨A1, l1, k1, rfl⟩ := hw1.slice
  by_cases hF : F' = []
  · have hl1 : l1 = 0 := by
      rcases hw1.shape with ⟨e, _⟩ | ⟨g, cap, e, _⟩
      · injection e
      · injection e with _ e2 _; rw [e2, hF]; rfl
    subst hl1
    rw [if_pos hF] at hsh
    have HV : Hid (shT n ls v = none) := Lib.hid (by unfold shT; rw [hsh]; rfl)
    clear hsh hw1 hp hs hb1 hF
    go_wp2
    exact bodyPost_ret (v := .tuple #[.string ⟨#[]⟩, .bool false]) (by simp [results, Tryz.results15, go_sem]) rfl ⟨by rw [HV.out]; rfl, HB1.out⟩
  · have hpos : 0 < F'.length := List.length_pos_iff.2 hF
    obtain ⟨g, hA1, hg2, hl1⟩ : ∃ g, A1 = some ⟨g, 0, none⟩ ∧ g < W1.heap.size ∧ l1 = F'.length := by
      rcases hw1.shape with ⟨_, e⟩ | ⟨g, cap, e, _, h2⟩
      · exact absurd e hF
      · injection e with e1 e2 _; exact ⟨g, e1, h2, e2⟩
    subst hA1
    subst hl1
    rw [if_neg hF] at hsh
    have hmem := HMem.out _ (hp.mem_iff.1 (getD_mem' F' 0 hpos))
    have HV : Hid (shT n ls v = some (toB (textC 0 (F'.getD 0 [])))) := Lib.hid (by unfold shT; rw [hsh]; rfl)
    have k0 : W1.cell? ⟨g, 0, none⟩ = some (.int .i64 (cO (F'.getD 0 []) 0)) := hw1.cells hpos 0 (by omega)
    have k1 : W1.cell? ⟨g, 1, none⟩ = some (.int .i64 (cO (F'.getD 0 []) 1)) := hw1.cells hpos 1 (by omega)
    have k2 : W1.cell? ⟨g, 2, none⟩ = some (.int .i64 (cO (F'.getD 0 []) 2)) := hw1.cells hpos 2 (by omega)
    obtain ⟨c, hc⟩ : ∃ c, F'.getD 0 [] = c := ⟨_, rfl⟩
    rw [hc] at hmem HV k0 k1 k2
    have HW2 := Lib.hid (fun X hL => HWr.out c X hmem.1 hmem.2 hL)
    obtain ⟨T, hT⟩ : ∃ T, toB (textC 0 c) = T := ⟨_, rfl⟩
    rw [hT] at HV HW2
    have z1 : ((F'.length : Int) == 0) = false := by simp; omega
    have i1 : (0 : Int) < (F'.length : Int) := by omega
    have i2 : 0 < F'.length := hpos
    obtain ⟨N, hN⟩ : ∃ N, F'.length = N := ⟨_, rfl⟩
    rw [hN] at z1 i1 i2 ⊢
    have HG := Lib.hid hg2
    have hA0 : (Duo W1.drew w.heap.size 44 (.int .i64 (n:Int)) (.pointer q) ∧ Lets W1.drew (.pointer q) 0 ls) ∧ (W1.drew.cell? ⟨g, 0, none⟩ = some (.int .i64 (cO c 0)) ∧ W1.drew.cell? ⟨g, 1, none⟩ = some (.int .i64 (cO c 1)) ∧ W1.drew.cell? ⟨g, 2, none⟩ = some (.int .i64 (cO c 2)) ∧ g < W1.drew.heap.size) ∧ Below w.heap.size w W1.drew :=
      ⟨⟨HD1.out, HL1.out.drew⟩, ⟨k0, k1, k2, hg2⟩, HB1.out.drew⟩
    clear hsh hw1 hp hs hb1 hF hpos hmem hc hT hN k0 k1 k2 hg2
    unfold wV at HW2
    go_wp2_with fail
    refine wp_region_held_drew (S := fun X => (Duo X w.heap.size 44 (.int .i64 (n:Int)) (.pointer q) ∧ Lets X (.pointer q) 0 ls) ∧ (X.cell? ⟨g, 0, none⟩ = some (.int .i64 (cO c 0)) ∧ X.cell? ⟨g, 1, none⟩ = some (.int .i64 (cO c 1)) ∧ X.cell? ⟨g, 2, none⟩ = some (.int .i64 (cO c 2)) ∧ g < X.heap.size) ∧ Below w.heap.size w X) hmx hA0 (fun _ => ?_)
    generalize W1.drew = W4 at *
    refine take1 0 (v := ?_) rfl (by kernel_rfl) (by kernel_rfl) (by kernel_rfl) (fun _ _ _ h => h) (by rfl) ?_ hA0 ?_
    rotate_left
    · intro W9 hA
      obtain ⟨⟨hd, _⟩, ⟨t0, t1, t2, _⟩, _⟩ := hA
      have d0 := hd.cell0
      have d1 := hd.cell1
      clear hd
      go_simp
      try with_reducible rfl
    try simp only [Act.put, List.setIfInBounds_toArray, List.set_cons_zero, List.set_cons_succ]
    refine take1 1 (v := ?_) rfl (by kernel_rfl) (by kernel_rfl) (by kernel_rfl) (fun _ _ _ h => h) (by rfl) ?_ hA0 ?_
    rotate_left
    · intro W9 hA
      obtain ⟨⟨hd, _⟩, ⟨t0, t1, t2, _⟩, _⟩ := hA
      have d0 := hd.cell0
      have d1 := hd.cell1
      clear hd
      go_simp
      try with_reducible rfl
    try simp only [Act.put, List.setIfInBounds_toArray, List.set_cons_zero, List.set_cons_succ]
    refine take1 2 (v := ?_) rfl (by kernel_rfl) (by kernel_rfl) (by kernel_rfl) (fun _ _ _ h => h) (by rfl) ?_ hA0 ?_
    rotate_left
    · intro W9 hA
      obtain ⟨⟨hd, _⟩, ⟨t0, t1, t2, _⟩, _⟩ := hA
      have d0 := hd.cell0
      have d1 := hd.cell1
      clear hd
      go_simp
      try with_reducible rfl
    try simp only [Act.put, List.setIfInBounds_toArray, List.set_cons_zero, List.set_cons_succ]
    refine take1 3 (v := ?_) rfl (by kernel_rfl) (by kernel_rfl) (by kernel_rfl) (fun _ _ _ h => h) (by rfl) ?_ hA0 ?_
    rotate_left
    · intro W9 hA
      obtain ⟨⟨hd, _⟩, ⟨t0, t1, t2, _⟩, _⟩ := hA
      have d0 := hd.cell0
      have d1 := hd.cell1
      clear hd
      go_simp
      try with_reducible rfl
    try simp only [Act.put, List.setIfInBounds_toArray, List.set_cons_zero, List.set_cons_succ]
    refine step1 4 (by kernel_rfl) rfl (fun K hK => ?_)
    go_simp
    refine (HW2.out _ hA0.1.2).mono ?_
    rintro e W1' ⟨rfl, hb1⟩
    go_wp2_with fail
    have hA1 := (⟨⟨hA0.1.1.bel hA0.1.1.lt hb1, hA0.1.2.below hb1⟩, ⟨(hb1.cell (p := ⟨g, 0, none⟩) hA0.2.1.2.2.2).trans hA0.2.1.1, (hb1.cell (p := ⟨g, 1, none⟩) hA0.2.1.2.2.2).trans hA0.2.1.2.1, (hb1.cell (p := ⟨g, 2, none⟩) hA0.2.1.2.2.2).trans hA0.2.1.2.2.1, Nat.lt_of_lt_of_le hA0.2.1.2.2.2 hb1.size⟩, hA0.2.2.trans (hb1.mono hA0.2.2.size)⟩ : (Duo _ w.heap.size 44 (.int .i64 (n:Int)) (.pointer q) ∧ Lets _ (.pointer q) 0 ls) ∧ (World.cell? _ ⟨g, 0, none⟩ = some (.int .i64 (cO c 0)) ∧ World.cell? _ ⟨g, 1, none⟩ = some (.int .i64 (cO c 1)) ∧ World.cell? _ ⟨g, 2, none⟩ = some (.int .i64 (cO c 2)) ∧ g < _) ∧ Below w.heap.size w _)
    refine hK.out _ _ hA1 ?_
    clear hK K
    try simp only [Act.put, List.setIfInBounds_toArray, List.set_cons_zero, List.set_cons_succ]
    refine take1 5 (v := ?_) rfl (by kernel_rfl) (by kernel_rfl) (by kernel_rfl) (fun _ _ _ h => h) (by rfl) ?_ hA1 ?_
    rotate_left
    · intro W9 hA
      obtain ⟨⟨hd, _⟩, ⟨t0, t1, t2, _⟩, _⟩ := hA
      have d0 := hd.cell0
      have d1 := hd.cell1
      clear hd
      go_simp
      try with_reducible rfl
    try simp only [Act.put, List.setIfInBounds_toArray, List.set_cons_zero, List.set_cons_succ]
    refine take1 6 (v := ?_) rfl (by kernel_rfl) (by kernel_rfl) (by kernel_rfl) (fun _ _ _ h => h) (by rfl) ?_ hA1 ?_
    rotate_left
    · intro W9 hA
      obtain ⟨⟨hd, _⟩, ⟨t0, t1, t2, _⟩, _⟩ := hA
      have d0 := hd.cell0
      have d1 := hd.cell1
      clear hd
      go_simp
      try with_reducible rfl
    try simp only [Act.put, List.setIfInBounds_toArray, List.set_cons_zero, List.set_cons_succ]
    refine stop1 (by kernel_rfl) ?_
    go_wp2
    exact bodyPost_ret (v := .tuple #[.string T, .bool true]) (by simp [results, Tryz.results15, go_sem]) rfl ⟨by rw [HV.out]; rfl, hA1.2.2⟩
theorem let_ltn (n : Nat) (xs : List Int) (h : LetIn (n : Int) xs) : ∀ l ∈ letL xs, l < n := by
  intro l hl
  obtain ⟨x, hx, e⟩ := List.mem_map.1 hl
  obtain ⟨i, hi, he⟩ := List.getElem_of_mem hx
  have h1 := h.2.2.2 i hi
  rw [List.getD_eq_getElem?_getD, List.getElem?_eq_getElem hi] at h1
  have h2 : 1 ≤ xs[i] ∧ xs[i] ≤ (n:Int) - 1 := h1
  rw [he] at h2
  have := h.1
  omega
set_option maxRecDepth 100000 in
set_option maxHeartbeats 2000000 in
theorem any_WordShort : AnyWordShort := by
  intro n lv xs v b w hxl hI
  have HA := Lib.hid (alphabetOf_any n lv xs b w hI)
  clear hI hxl
  go_enter Tryz.func5, Tryz.ntmps5
  go_wp2_with fail
  refine HA.out.mono ?_
  rintro e W1 ⟨⟨hL, p, rfl, hLt⟩ | ⟨hno, rfl⟩, hb1⟩
  · obtain ⟨q, rfl⟩ := hLt.ptr
    obtain ⟨m, rfl⟩ : ∃ m : Nat, n = (m : Int) := ⟨n.toNat, by have := hL.1; omega⟩
    have hll : (letL xs).length = xs.length := by simp [letL]
    have HB1 : Hid (Below w.heap.size w (W1.alloc (.cells #[.int .i64 (m:Int), .pointer q] 44))) := Lib.hid (hb1.alloc hb1.size _)
    have HS := Lib.hid (short_any m q (letL xs) v (W1.alloc (.cells #[.int .i64 (m:Int), .pointer q] 44)) (by have := hL.1; omega) (by have := hL.1; omega) (by rw [hll]; exact hL.2.2.1) (let_ltn m xs hL) (hLt.below ((Below.refl _ _).alloc (Nat.le_refl _) _)))
    have HV : Hid (shortO (m:Int) xs v = shT m (letL xs) v) := Lib.hid (by
      unfold shortO shT
      by_cases h : 0 ≤ v ∧ v ≤ (m:Int) - 1
      · rw [if_pos ⟨hL, h⟩, if_pos h, Int.toNat_natCast]
      · rw [if_neg (fun hh => h hh.2), if_neg h]; rfl)
    obtain ⟨T, hT⟩ : ∃ T, (shT m (letL xs) v).getD ⟨#[]⟩ = T := ⟨_, rfl⟩
    obtain ⟨t, ht⟩ : ∃ t, (shT m (letL xs) v).isSome = t := ⟨_, rfl⟩
    have HVT : Hid ((shortO (m:Int) xs v).getD ⟨#[]⟩ = T ∧ (shortO (m:Int) xs v).isSome = t) := Lib.hid (by rw [HV.out]; exact ⟨hT, ht⟩)
    rw [hT, ht] at HS
    clear hL hLt hb1 hll HV hT ht
    go_wp2_with fail
    refine HS.out.mono ?_
    rintro e W2 ⟨rfl, hb2⟩
    have HB2 := Lib.hid (HB1.out.trans (hb2.mono HB1.out.size))
    clear hb2
    go_wp2
    exact bodyPost_ret (v := .tuple #[.string T, .bool t]) (by simp [results, Tryz.results5, go_sem]) rfl ⟨by rw [HVT.out.1, HVT.out.2], HB2.out⟩
  · have HB1 : Hid (Below w.heap.size w (W1.alloc (.cells #[.int .i64 0, .pointer none] 44))) := Lib.hid (hb1.alloc hb1.size _)
    have HV : Hid (shortO n xs v = none) := Lib.hid (by unfold shortO; rw [if_neg (fun h => hno h.1)])
    clear hno hb1
    go_wp2
    exact bodyPost_ret (v := .tuple #[.string ⟨#[]⟩, .bool false]) (by simp [results, Tryz.results5, go_sem]) rfl ⟨by rw [HV.out]; rfl, HB1.out⟩
end Go.Proofs.YtnlalccnhpblkaaGreat
