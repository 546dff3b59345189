/- Words, the program's side: the shortest text of a place. Written by gen126.py. -/
import Derived.Test.YtgcfgegbbfbaaaaWrpG
namespace Go.Proofs.Ytgcfgegbbfbaaaa
open Go.RowKit Go.Shelf
set_option linter.unusedVariables false
attribute [local go_sem] Oper.semAt_some
/-! The two orders. -/
def tB (cs : List Int) : List Int := [bd (cO cs 0), bd (cO cs 1), bd (cO cs 2)]
theorem tB_tri {cs : List Int} (h : ∀ i, (cO cs i).natAbs ≤ 100) : tB cs = triL cs := by unfold tB triL; rw [bd_id (h 0), bd_id (h 1), bd_id (h 2)]; rfl
theorem swo_of (lt : List Int → List Int → Bool) (hi : ∀ a, lt a a = false) (ht : ∀ a b c, lt a b = true → lt b c = true → lt a c = true) (hto : ∀ x y, tB x = tB y ∨ lt (tB x) (tB y) = true ∨ lt (tB y) (tB x) = true) : Go.Sort.SWO (fun x y => lt (tB x) (tB y)) where
  irrefl x := hi _
  trans x y z h1 h2 := ht _ _ _ h1 h2
  ntrans x y z h1 h2 := by
    cases hc : lt (tB x) (tB z)
    · rfl
    · rcases hto x y with e | e | e
      · rw [e] at hc; rw [hc] at h2; cases h2
      · rw [e] at h1; cases h1
      · rcases hto y z with e2 | e2 | e2
        · rw [e2] at h1; rw [hc] at h1; cases h1
        · rw [e2] at h2; cases h2
        · have := ht _ _ _ hc (ht _ _ _ e2 e)
          rw [hi] at this; cases this
theorem tB_total (x y : List Int) : tB x = tB y ∨ lessC (tB x) (tB y) = true ∨ lessC (tB y) (tB x) = true := less_total _ _ rfl
theorem cmp_neg (x y : Int) : (Lib.compareInt x y < 0 ↔ x < y) ∧ (Lib.compareInt x y = 0 ↔ x = y) := by
  unfold Lib.compareInt
  by_cases h : x < y
  · simp [h]; omega
  · by_cases h2 : y < x
    · simp [h, h2]; omega
    · simp [h, h2]; omega
theorem cmp3_lt (x0 x1 x2 y0 y1 y2 : Int) : decide (cmp3 x0 x1 x2 y0 y1 y2 < 0) = lessC [x0, x1, x2] [y0, y1, y2] := by
  show _ = (if x0 ≠ y0 then decide (x0 < y0) else if x1 ≠ y1 then decide (x1 < y1) else if x2 ≠ y2 then decide (x2 < y2) else false)
  unfold cmp3
  have a := cmp_neg x0 y0
  have b := cmp_neg x1 y1
  have c := cmp_neg x2 y2
  by_cases h0 : x0 = y0
  · rw [if_neg (show ¬ Lib.compareInt x0 y0 ≠ 0 from fun hh => hh (a.2.2 h0)), if_neg (show ¬ x0 ≠ y0 from fun hh => hh h0)]
    by_cases h1 : x1 = y1
    · rw [if_neg (show ¬ Lib.compareInt x1 y1 ≠ 0 from fun hh => hh (b.2.2 h1)), if_neg (show ¬ x1 ≠ y1 from fun hh => hh h1)]
      by_cases h2 : x2 = y2
      · rw [if_neg (show ¬ x2 ≠ y2 from fun hh => hh h2), c.2.2 h2]; rfl
      · rw [if_pos (show x2 ≠ y2 from h2), decide_eq_decide]; exact c.1
    · rw [if_pos (show Lib.compareInt x1 y1 ≠ 0 from fun hh => h1 (b.2.1 hh)), if_pos (show x1 ≠ y1 from h1), decide_eq_decide]; exact b.1
  · rw [if_pos (show Lib.compareInt x0 y0 ≠ 0 from fun hh => h0 (a.2.1 hh)), if_pos (show x0 ≠ y0 from h0), decide_eq_decide]; exact a.1
def cfA (x y : List Int) : Int := cmp3 (bd (cO x 0)) (bd (cO x 1)) (bd (cO x 2)) (bd (cO y 0)) (bd (cO y 1)) (bd (cO y 2))
theorem cfA_lt : ltOf cfA = fun x y => lessC (tB x) (tB y) := by
  funext x y
  exact cmp3_lt _ _ _ _ _ _
theorem swoA : Go.Sort.SWO (ltOf cfA) := by rw [cfA_lt]; exact swo_of lessC less_irrefl less_trans tB_total
def cfS (x y : List Int) : Int := cmpS (bd (cO x 0)) (bd (cO x 1)) (bd (cO x 2)) (bd (cO y 0)) (bd (cO y 1)) (bd (cO y 2))
theorem ltS_iff (a b : List Int) : ltS a b = true ↔ absL a < absL b ∨ (absL a = absL b ∧ lessC b a = true) := by
  unfold ltS
  rw [Bool.or_eq_true, Bool.and_eq_true, decide_eq_true_eq, decide_eq_true_eq]
theorem cfS_lt : ltOf cfS = fun x y => ltS (tB x) (tB y) := by
  funext x y
  unfold ltOf cfS cmpS
  have hx : absL (tB x) = (bd (cO x 0)).natAbs + (bd (cO x 1)).natAbs + (bd (cO x 2)).natAbs := by show (bd (cO x 0)).natAbs + ((bd (cO x 1)).natAbs + ((bd (cO x 2)).natAbs + 0)) = _; omega
  have hy : absL (tB y) = (bd (cO y 0)).natAbs + (bd (cO y 1)).natAbs + (bd (cO y 2)).natAbs := by show (bd (cO y 0)).natAbs + ((bd (cO y 1)).natAbs + ((bd (cO y 2)).natAbs + 0)) = _; omega
  rw [← hx, ← hy]
  have a := cmp_neg ((absL (tB x) : Nat) : Int) ((absL (tB y) : Nat) : Int)
  rw [Bool.eq_iff_iff, ltS_iff, decide_eq_true_eq]
  by_cases h : absL (tB x) = absL (tB y)
  · rw [if_neg (fun hh => hh (a.2.2 (by omega)))]
    have c := cmp3_lt (bd (cO y 0)) (bd (cO y 1)) (bd (cO y 2)) (bd (cO x 0)) (bd (cO x 1)) (bd (cO x 2))
    constructor
    · intro hh
      exact .inr ⟨h, by rw [← decide_eq_true_eq (p := cmp3 _ _ _ _ _ _ < 0), c] at hh; exact hh⟩
    · rintro (hh | ⟨_, hh⟩)
      · omega
      · have hh' : lessC [bd (cO y 0), bd (cO y 1), bd (cO y 2)] [bd (cO x 0), bd (cO x 1), bd (cO x 2)] = true := hh
        rw [← c, decide_eq_true_eq] at hh'
        exact hh'
  · rw [if_pos (fun hh => h (by have := a.2.1 hh; omega))]
    constructor
    · intro hh
      exact .inl (by have := a.1.1 hh; omega)
    · rintro (hh | ⟨hh, _⟩)
      · exact a.1.2 (by omega)
      · exact absurd hh h
theorem swoS : Go.Sort.SWO (ltOf cfS) := by
  rw [cfS_lt]
  refine swo_of ltS (fun a => ?_) (fun a b c h1 h2 => ?_) (fun x y => ?_)
  · cases h : ltS a a
    · rfl
    · rcases (ltS_iff a a).1 h with h | ⟨_, h⟩
      · omega
      · rw [less_irrefl] at h; cases h
  · rw [ltS_iff] at *
    rcases h1 with h1 | ⟨h1, k1⟩ <;> rcases h2 with h2 | ⟨h2, k2⟩
    · exact .inl (by omega)
    · exact .inl (by omega)
    · exact .inl (by omega)
    · exact .inr ⟨by omega, less_trans _ _ _ k2 k1⟩
  · rw [ltS_iff, ltS_iff]
    rcases tB_total x y with h | h | h
    · exact .inl h
    · right
      rcases Nat.lt_trichotomy (absL (tB x)) (absL (tB y)) with k | k | k
      · exact .inl (.inl k)
      · exact .inr (.inr ⟨k.symm, h⟩)
      · exact .inr (.inl k)
    · right
      rcases Nat.lt_trichotomy (absL (tB x)) (absL (tB y)) with k | k | k
      · exact .inl (.inl k)
      · exact .inl (.inr ⟨k, h⟩)
      · exact .inr (.inl k)
theorem ltS_tri (a b : List Int) (h : a.length = b.length) (h3 : a.length ≤ 3) : ltS (triL a) (triL b) = ltS a b := by
  unfold ltS
  rw [tri_abs a h3, tri_abs b (by omega), tri_less b a h.symm (by omega)]
theorem word_bd {m L : Nat} {cs : List Int} (h : cs ∈ eaC m L) (hL : L ≤ 100) (i : Nat) : (cO cs i).natAbs ≤ 100 := by
  have h1 := ((ea_mem m L cs).1 h).2
  have := abs_get cs i
  unfold cO
  omega
/-- What the sorted list says of the shortest text. -/
theorem short_of (n : Nat) (ls : List Nat) (v : Int) (F' : List (List Int)) (h1 : 1 ≤ n) (h2 : n ≤ 12) (h : ∀ l ∈ ls, l < n) (h3 : ls.length ≤ 3)
    (hp : F'.Perm ((eaC ls.length (n / 2)).filter fun cs => ((endW n ls cs : Nat) : Int) == v)) (hs : ∀ i j, i < j → j < F'.length → ltOf cfS (F'.getD j []) (F'.getD i []) = false) :
    (if 0 ≤ v ∧ v ≤ (n:Int) - 1 then shortC n ls v.toNat else none) = if F' = [] then none else some (F'.getD 0 []) := by
  have hlt : ∀ cs, endW n ls cs < n := fun cs => rest_lt n _ h1
  by_cases hv : 0 ≤ v ∧ v ≤ (n:Int) - 1
  · rw [if_pos hv]
    have hf : ((eaC ls.length (n / 2)).filter fun cs => ((endW n ls cs : Nat) : Int) == v) = (eaC ls.length (n / 2)).filter fun cs => endW n ls cs == v.toNat := by
      refine List.filter_congr fun cs _ => ?_
      rw [Bool.eq_iff_iff]
      simp
      omega
    rw [hf] at hp
    by_cases hF : F' = []
    · rw [if_pos hF]
      subst hF
      exact short_nil n ls _ h1 h2 h (List.Perm.eq_nil hp.symm)
    · rw [if_neg hF]
      have hl : 0 < F'.length := List.length_pos_iff.2 hF
      have hc := hp.mem_iff.1 (getD_mem' F' 0 hl)
      refine short_least n ls _ _ h1 h2 h hc fun d hd => ?_
      obtain ⟨j, hj, e⟩ := List.getElem_of_mem (hp.mem_iff.2 hd)
      have ed : F'.getD j [] = d := by rw [List.getD_eq_getElem?_getD, List.getElem?_eq_getElem hj]; exact e
      have hd1 := (List.mem_filter.1 hd).1
      have hc1 := (List.mem_filter.1 hc).1
      cases j with
      | zero =>
        rw [← ed]
        cases hq : ltS (F'.getD 0 []) (F'.getD 0 [])
        · rfl
        · rcases (ltS_iff _ _).1 hq with hq | ⟨_, hq⟩
          · omega
          · rw [less_irrefl] at hq; cases hq
      | succ j =>
        have hq := hs 0 (j + 1) (by omega) hj
        rw [ed, cfS_lt] at hq
        have hq' : ltS (tB d) (tB (F'.getD 0 [])) = false := hq
        rw [tB_tri (word_bd hd1 (by omega)), tB_tri (word_bd hc1 (by omega)), ltS_tri _ _ (by rw [((ea_mem _ _ _).1 hd1).1, ((ea_mem _ _ _).1 hc1).1]) (by rw [((ea_mem _ _ _).1 hd1).1]; exact h3)] at hq'
        exact hq'
  · rw [if_neg hv]
    have hf : ((eaC ls.length (n / 2)).filter fun cs => ((endW n ls cs : Nat) : Int) == v) = [] := by
      rw [List.filter_eq_nil_iff]
      intro cs _ hh
      have := hlt cs
      simp at hh
      omega
    rw [hf] at hp
    rw [if_pos hp.eq_nil]
theorem cmpS_hc (x y : List Int) (W : World) : Calls Try.prog 57 #[.agg (encW x).toArray, .agg (encW y).toArray] W fun e w' => e = .returned (.int .i64 (cfS x y)) ∧ Grw W w' :=
  shortestFirst_any W _ _ _ _ _ _ (bd_le _) (bd_le _) (bd_le _) (bd_le _) (bd_le _) (bd_le _)
/-- What the test of the shortest text needs. -/
def ShI (n : Nat) (q : Option Addr) (ls : List Nat) (v : Int) (ab vb : Nat) (W : World) : Prop := Duo W ab 48 (.int .i64 (n:Int)) (.pointer q) ∧ Boxed W vb 3 (.int .i64 v) ∧ Lets W (.pointer q) 0 ls
set_option maxRecDepth 100000 in
set_option maxHeartbeats 4000000 in
theorem shortHold (n : Nat) (q : Option Addr) (ls : List Nat) (v : Int) (ab vb : Nat) (h1 : 1 ≤ n) (h2 : n ≤ 12) (h3 : ls.length ≤ 3) (hls : ∀ l ∈ ls, l ≤ 12) :
    HoldOk (ShI n q ls v ab vb) (fun cs => ((endW n ls cs : Nat) : Int) == v) (fun cs => cs.length = ls.length ∧ absL cs ≤ 6) 55 #[.pointer (some ⟨ab, 0, none⟩), .pointer (some ⟨vb, 0, none⟩)] := by
  refine ⟨fun X Y h k => ⟨k.duo h.1 (by decide) (by decide), k.box h.2.1 (by decide) (by decide), k.lets h.2.2⟩, fun cs W hok hI => ?_⟩
  have hmx : Try.prog.follows .mixedOrders = true := by kernel_rfl
  have HE := Lib.hid (fun X hL => end_any n (.pointer q) ls cs X h1 h2 hok.1 h3 (fun i => by have := abs_get cs i; unfold cO; have := hok.2; omega) hls hL)
  have hB0 := (Below.refl W.heap.size W).alloc (Nat.le_refl _) (.cells #[.int .i64 (cO cs 0), .int .i64 (cO cs 1), .int .i64 (cO cs 2)] 50)
  have hT0 := Ter.new W 50 (.int .i64 (cO cs 0)) (.int .i64 (cO cs 1)) (.int .i64 (cO cs 2))
  have hA0 : (Duo (W.alloc (.cells #[.int .i64 (cO cs 0), .int .i64 (cO cs 1), .int .i64 (cO cs 2)] 50)).drew ab 48 (.int .i64 (n:Int)) (.pointer q) ∧ Boxed (W.alloc (.cells #[.int .i64 (cO cs 0), .int .i64 (cO cs 1), .int .i64 (cO cs 2)] 50)).drew vb 3 (.int .i64 v) ∧ Lets (W.alloc (.cells #[.int .i64 (cO cs 0), .int .i64 (cO cs 1), .int .i64 (cO cs 2)] 50)).drew (.pointer q) 0 ls) ∧ Ter (W.alloc (.cells #[.int .i64 (cO cs 0), .int .i64 (cO cs 1), .int .i64 (cO cs 2)] 50)).drew W.heap.size 50 (.int .i64 (cO cs 0)) (.int .i64 (cO cs 1)) (.int .i64 (cO cs 2)) ∧ Below W.heap.size W (W.alloc (.cells #[.int .i64 (cO cs 0), .int .i64 (cO cs 1), .int .i64 (cO cs 2)] 50)).drew :=
    ⟨⟨hI.1.alloc _, hI.2.1.alloc _, (hI.2.2.below hB0).drew⟩, hT0, hB0.drew⟩
  obtain ⟨r, hr⟩ : ∃ r, endW n ls cs = r := ⟨_, rfl⟩
  rw [hr] at HE
  show Calls Try.prog 55 #[.agg (wV cs), .pointer (some ⟨ab, 0, none⟩), .pointer (some ⟨vb, 0, none⟩)] W fun e w' => e = .returned (.bool (((endW n ls cs : Nat) : Int) == v)) ∧ Below W.heap.size W w'
  rw [hr]
  obtain ⟨b, hb⟩ : ∃ b, ((r : Int) == v) = b := ⟨_, rfl⟩
  rw [hb]
  clear hr hB0 hT0 hI h1 h2 h3 hls hok
  unfold wV at *
  go_enter Try.func55, Try.ntmps55
  go_wp2_with fail
  obtain ⟨W0, hW0⟩ : ∃ W0, W.alloc (.cells #[.int .i64 (cO cs 0), .int .i64 (cO cs 1), .int .i64 (cO cs 2)] 50) = W0 := ⟨_, rfl⟩
  rw [hW0] at hA0 ⊢
  clear hW0
  refine wp_region_held_drew (S := fun X => (Duo X ab 48 (.int .i64 (n:Int)) (.pointer q) ∧ Boxed X vb 3 (.int .i64 v) ∧ Lets X (.pointer q) 0 ls) ∧ Ter X W.heap.size 50 (.int .i64 (cO cs 0)) (.int .i64 (cO cs 1)) (.int .i64 (cO cs 2)) ∧ Below W.heap.size W X) hmx hA0 (fun _ => ?_)
  generalize W0.drew = W4 at *
  refine take1 0 (v := ?_) rfl (by kernel_rfl) (by kernel_rfl) (by kernel_rfl) (fun _ _ _ h => h) (by rfl) ?_ hA0 ?_
  rotate_left
  · intro W9 hA
    obtain ⟨⟨hd, hv, _⟩, ht, _⟩ := hA
    have d0 := hd.cell0
    have d1 := hd.cell1
    have v0 := hv.cell
    have t0 := ht.cell0
    have t1 := ht.cell1
    have t2 := ht.cell2
    clear hd hv ht
    go_simp
    try with_reducible rfl
  try simp only [Act.put, List.setIfInBounds_toArray, List.set_cons_zero, List.set_cons_succ]
  refine take1 1 (v := ?_) rfl (by kernel_rfl) (by kernel_rfl) (by kernel_rfl) (fun _ _ _ h => h) (by rfl) ?_ hA0 ?_
  rotate_left
  · intro W9 hA
    obtain ⟨⟨hd, hv, _⟩, ht, _⟩ := hA
    have d0 := hd.cell0
    have d1 := hd.cell1
    have v0 := hv.cell
    have t0 := ht.cell0
    have t1 := ht.cell1
    have t2 := ht.cell2
    clear hd hv ht
    go_simp
    try with_reducible rfl
  try simp only [Act.put, List.setIfInBounds_toArray, List.set_cons_zero, List.set_cons_succ]
  refine take1 3 (v := ?_) rfl (by kernel_rfl) (by kernel_rfl) (by kernel_rfl) (fun _ _ _ h => h) (by rfl) ?_ hA0 ?_
  rotate_left
  · intro W9 hA
    obtain ⟨⟨hd, hv, _⟩, ht, _⟩ := hA
    have d0 := hd.cell0
    have d1 := hd.cell1
    have v0 := hv.cell
    have t0 := ht.cell0
    have t1 := ht.cell1
    have t2 := ht.cell2
    clear hd hv ht
    go_simp
    try with_reducible rfl
  try simp only [Act.put, List.setIfInBounds_toArray, List.set_cons_zero, List.set_cons_succ]
  refine step1 2 (by kernel_rfl) rfl (fun K hK => ?_)
  go_simp
  refine (HE.out _ hA0.1.2.2).mono ?_
  rintro e W1' ⟨rfl, hb1⟩
  go_wp2_with fail
  have hA1 := (⟨⟨hA0.1.1.bel hA0.1.1.lt hb1, boxed_below hA0.1.2.1 hA0.1.2.1.lt hb1, hA0.1.2.2.below hb1⟩, hA0.2.1.below hA0.2.1.lt hb1, hA0.2.2.trans (hb1.mono hA0.2.2.size)⟩ : (Duo _ ab 48 (.int .i64 (n:Int)) (.pointer q) ∧ Boxed _ vb 3 (.int .i64 v) ∧ Lets _ (.pointer q) 0 ls) ∧ Ter _ W.heap.size 50 (.int .i64 (cO cs 0)) (.int .i64 (cO cs 1)) (.int .i64 (cO cs 2)) ∧ Below W.heap.size W _)
  refine hK.out _ _ hA1 ?_
  clear hK K
  try simp only [Act.put, List.setIfInBounds_toArray, List.set_cons_zero, List.set_cons_succ]
  refine take1 4 (v := ?_) rfl (by kernel_rfl) (by kernel_rfl) (by kernel_rfl) (fun _ _ _ h => h) (by rfl) ?_ hA1 ?_
  rotate_left
  · intro W9 hA
    obtain ⟨⟨hd, hv, _⟩, ht, _⟩ := hA
    have d0 := hd.cell0
    have d1 := hd.cell1
    have v0 := hv.cell
    have t0 := ht.cell0
    have t1 := ht.cell1
    have t2 := ht.cell2
    clear hd hv ht
    go_simp
    try with_reducible rfl
  try simp only [Act.put, List.setIfInBounds_toArray, List.set_cons_zero, List.set_cons_succ]
  refine take1 5 (v := ?_) rfl (by kernel_rfl) (by kernel_rfl) (by kernel_rfl) (fun _ _ _ h => h) (by rfl) ?_ hA1 ?_
  rotate_left
  · intro W9 hA
    obtain ⟨⟨hd, hv, _⟩, ht, _⟩ := hA
    have d0 := hd.cell0
    have d1 := hd.cell1
    have v0 := hv.cell
    have t0 := ht.cell0
    have t1 := ht.cell1
    have t2 := ht.cell2
    clear hd hv ht
    go_simp
    try with_reducible rfl
  try simp only [Act.put, List.setIfInBounds_toArray, List.set_cons_zero, List.set_cons_succ]
  refine stop1 (by kernel_rfl) ?_
  go_wp2
  go_ret
  exact ⟨ret_bool (by first | rfl | exact hb), hA1.2.2⟩
end Go.Proofs.Ytgcfgegbbfbaaaa
