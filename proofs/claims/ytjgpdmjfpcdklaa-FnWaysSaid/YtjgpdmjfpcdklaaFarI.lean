/- Ways of least length: the program's closure, which calls itself. -/
import Derived.Test.YtjgpdmjfpcdklaaGF
import Derived.Test.YtjgpdmjfpcdklaaGE
namespace Go.Proofs.Ytjgpdmjfpcdklaa
open Go.RowKit Go.Shelf
set_option linter.unusedVariables false
attribute [local go_sem] Oper.semAt_some
theorem Aside.tri {T : Nat} {W W' : World} (h : Aside T W W') {B n s M : Nat} (hB : Tri W B n s M) (hn : B ≠ T) : Tri W' B n s M := (h.block B hB.lt hn).trans hB
theorem tri_own {β : Type} (B n s M : Nat) {N : Nat} (hB : B < N) : OwnFrom N (fun (_ : β) W => Tri W B n s M) := fun t W W' row h hg hr => h.kept hg (fun e => by have := (hr B e.symm).1; omega)
theorem dist_none' (n s v : Nat) (h1 : 1 ≤ n) (hd : distN n s v = 0) : v = 0 := by
  unfold distN at hd
  by_cases hp : (partN n s).testBit v = true
  · rw [if_pos hp] at hd
    have hb := (far_iff n s v 0 (by omega)).2 (by omega)
    by_cases e : v = 0
    · exact e
    · have : (iterN n s 0).testBit v = false := Nat.testBit_lt_two_pow (Nat.one_lt_two_pow e)
      rw [hb] at this
      cases this
  · rw [if_neg hp] at hd
    omega
/-- What a step adds to the ways of v. -/
def wayS (n s v k x : Nat) : Nat := if atS (partN n s) (farN n s) ((rest n ((v : Int) - (k : Int)) : Nat) : Int) = atS (partN n s) (farN n s) (v : Int) - 1 then x + gotN n s n (rest n ((v : Int) - (k : Int))) else x
theorem got_le (n s v : Nat) (h2 : n ≤ 12) : gotN n s n v ≤ 106993205379072 := by
  unfold gotN
  split
  · have h := way_le n s h2 (distN n s v).toNat v
    have := pow12 (distN n s v).toNat (by omega)
    omega
  · omega
theorem wayS_le (n s v : Nat) (h2 : n ≤ 12) (l : List Nat) (a : Nat) : fold (wayS n s v) a l ≤ a + 106993205379072 * l.length := by
  unfold fold
  induction l generalizing a with
  | nil => simp
  | cons k l ih =>
    simp only [List.foldl_cons, List.length_cons]
    have h := ih (wayS n s v k a)
    have h' : wayS n s v k a ≤ a + 106993205379072 := by
      unfold wayS
      split
      · have := got_le n s (rest n ((v : Int) - (k : Int))) h2
        omega
      · omega
    rw [Nat.mul_succ]
    omega
theorem atS_dist (n s v : Nat) : atS (partN n s) (farN n s) (v : Int) = if (partN n s).testBit v then distN n s v else 0 := by
  rw [atS_nat]
  unfold distN
  split <;> rfl
theorem part_rest (n s v k : Nat) (h1 : 1 ≤ n) (hv : (partN n s).testBit v = true) (hk : s.testBit k = true) (hkn : k < n) : (partN n s).testBit (rest n ((v : Int) - (k : Int))) = true := by
  rw [part_bit n s _ h1] at hv ⊢
  refine ⟨rest_lt n _ h1, ?_⟩
  have hd : partsN n s ∣ k := parts_dvd_step n s n k hkn hk
  have hn := parts_dvd_n n s n
  have e := rest_eq n ((v : Int) - (k : Int)) h1
  have e2 : ((rest n ((v : Int) - (k : Int)) : Nat) : Int) = ((v : Int) - (k : Int)) % (n : Int) := by
    unfold rest
    have := Int.emod_nonneg ((v : Int) - (k : Int)) (show (n : Int) ≠ 0 by omega)
    omega
  have h3 : ((partsN n s : Nat) : Int) ∣ ((rest n ((v : Int) - (k : Int)) : Nat) : Int) := by
    rw [e2, Int.emod_def]
    exact Int.dvd_sub (Int.dvd_sub (Int.natCast_dvd_natCast.2 hv.2) (Int.natCast_dvd_natCast.2 hd)) (Int.dvd_mul_of_dvd_left (Int.natCast_dvd_natCast.2 hn))
  exact Int.natCast_dvd_natCast.1 h3
/-- A step that leads nearer leads to a place of a distance less by 1. -/
theorem near_dist (n s v k : Nat) (h1 : 1 ≤ n) (hv : v < n) (h : atS (partN n s) (farN n s) ((rest n ((v : Int) - (k : Int)) : Nat) : Int) = atS (partN n s) (farN n s) (v : Int) - 1) :
    0 < distN n s v ∧ distN n s (rest n ((v : Int) - (k : Int))) < distN n s v := by
  rw [atS_dist, atS_dist] at h
  have r1 := distN_range n s v
  have r2 := distN_range n s (rest n ((v : Int) - (k : Int)))
  cases hb : (partN n s).testBit v
  · rw [hb] at h
    cases hc : (partN n s).testBit (rest n ((v : Int) - (k : Int)))
    · rw [hc] at h; simp at h
    · rw [hc] at h
      simp only [if_true, Bool.false_eq_true, if_false] at h
      have : distN n s (rest n ((v : Int) - (k : Int))) = (farN n s (rest n ((v : Int) - (k : Int))) : Int) := by unfold distN; rw [hc]; rfl
      omega
  · rw [hb] at h
    simp only [if_true] at h
    cases hc : (partN n s).testBit (rest n ((v : Int) - (k : Int)))
    · rw [hc] at h
      simp only [Bool.false_eq_true, if_false] at h
      have : distN n s (rest n ((v : Int) - (k : Int))) = -1 := by unfold distN; rw [hc]; rfl
      omega
    · rw [hc] at h
      simp only [if_true] at h
      have : distN n s (rest n ((v : Int) - (k : Int))) = (farN n s (rest n ((v : Int) - (k : Int))) : Int) := by unfold distN; rw [hc]; rfl
      omega
theorem ways_sum (n s v : Nat) (h1 : 1 ≤ n) (h2 : n ≤ 12) (hv : v < n) (hv0 : v ≠ 0) (j : Nat) (hj : j ≤ n) :
    overSet s (wayS n s v) j 0 = if 0 ≤ distN n s v then sumTo (wayT n s v ((distN n s v).toNat - 1) (wayN n s ((distN n s v).toNat - 1))) j else 0 := by
  induction j with
  | zero => show 0 = _; split <;> rfl
  | succ j ih =>
    rw [over_step, ih (by omega)]
    by_cases hd : 0 ≤ distN n s v
    · have hpos : 0 < distN n s v := by
        rcases Int.lt_or_eq_of_le hd with h | h
        · exact h
        · exact absurd (dist_none' n s v h1 h.symm) hv0
      have hp : (partN n s).testBit v = true := by
        cases hb : (partN n s).testBit v
        · unfold distN at hd; rw [hb] at hd; simp at hd
        · rfl
      rw [if_pos hd, if_pos hd]
      show (if s.testBit j = true then wayS n s v j (sumTo _ j) else sumTo _ j) = sumTo _ j + wayT n s v ((distN n s v).toNat - 1) (wayN n s ((distN n s v).toNat - 1)) j
      by_cases hs : s.testBit j = true
      · rw [if_pos hs]
        have hpr := part_rest n s v j h1 hp hs (by omega)
        unfold wayS wayT
        rw [atS_dist, atS_dist, hp, hpr]
        simp only [if_true]
        have r2 := distN_range n s (rest n ((v : Int) - (j : Int)))
        have r1 := distN_range n s v
        by_cases e : distN n s (rest n ((v : Int) - (j : Int))) = distN n s v - 1
        · have e' : distN n s (rest n ((v : Int) - (j : Int))) = (((distN n s v).toNat - 1 : Nat) : Int) := by omega
          rw [if_pos e, if_pos ⟨hs, e'⟩]
          unfold gotN
          rw [if_pos (by omega), e']
          simp
        · rw [if_neg e, if_neg (fun h => e (by have := h.2; omega))]
          rfl
      · rw [if_neg hs]
        unfold wayT
        rw [if_neg (fun h => hs h.1)]
        rfl
    · rw [if_neg hd, if_neg hd]
      split
      · unfold wayS
        rw [if_neg (fun h => by have := (near_dist n s v j h1 hv h).1; omega)]
      · rfl
theorem ways_got (n s v : Nat) (h1 : 1 ≤ n) (h2 : n ≤ 12) (hv : v < n) (hv0 : v ≠ 0) : overSet s (wayS n s v) n 0 = gotN n s n v := by
  rw [ways_sum n s v h1 h2 hv hv0 n (Nat.le_refl n)]
  unfold gotN
  have r1 := distN_range n s v
  by_cases hd : 0 ≤ distN n s v
  · have hpos : 0 < distN n s v := by
      rcases Int.lt_or_eq_of_le hd with h | h
      · exact h
      · exact absurd (dist_none' n s v h1 h.symm) hv0
    rw [if_pos hd, if_pos ⟨hd, by omega⟩]
    obtain ⟨d, hd'⟩ : ∃ d : Nat, (distN n s v).toNat = d + 1 := ⟨(distN n s v).toNat - 1, by omega⟩
    rw [hd']
    rfl
  · rw [if_neg hd, if_neg (fun h => hd h.1)]
/-- The closure that counts ways, in its box. -/
def Counter (W : World) (Db Cb : Nat) : Prop := Boxed W Cb 37 (.func (.func 65) #[] #[.pointer (some ⟨Db, 0, none⟩), .pointer (some ⟨Cb, 0, none⟩)])
set_option maxRecDepth 100000 in
set_option maxHeartbeats 4000000 in
theorem count_any (n s M Db Cb : Nat) (h1 : 1 ≤ n) (h2 : n ≤ 12) (hs : s < 2 ^ n) (j : Nat) : ∀ (v : Nat) (w : World), v < n → distN n s v < (j : Int) → Tri w Db n s M → Counter w Db Cb → Tells w M (partN n s) (farN n s) →
    Calls Try.prog 65 #[.int .i64 (v:Int), .pointer (some ⟨Db, 0, none⟩), .pointer (some ⟨Cb, 0, none⟩)] w fun e w' => e = .returned (.int .i64 ((gotN n s n v : Nat) : Int)) ∧ Below w.heap.size w w' := by
  induction j using Nat.strongRecOn with
  | _ j ih =>
  intro v w hv hvj hD hC hT
  by_cases hv0 : v = 0
  · subst hv0
    have hg : gotN n s n 0 = 1 := by
      unfold gotN
      rw [dist_zero n s h1 h2 hs, if_pos (by omega)]
      rfl
    rw [hg]
    clear hC hT hD ih
    go_enter Try.func65, Try.ntmps65
    go_wp2
    go_ret
    exact ⟨rfl, (Below.refl _ _).alloc (Nat.le_refl _) _⟩
  have hvI : ((v : Int) == 0) = false := by simp; omega
  have hvI2 : ¬ ((v : Int) = 0) := by omega
  have hMl := hT.lt
  have hDl := hD.lt
  have hCl : Cb < w.heap.size := Boxed.lt hC
  have HIH := Lib.hid ih
  have HG := Lib.hid (ways_got n s v h1 h2 hv hv0)
  have HN := Lib.hid (fun k (hk : _) => near_dist n s v k h1 hv hk)
  have HVJ := Lib.hid hvj
  clear ih hvj hv0
  have d0 := hD.cell0
  have d1 := hD.cell1
  have d2 := hD.cell2
  refine (callsIn_wide (n := 9)).1 ?_
  refine callsIn_of_wp_marks Try.func65 rfl trivial ?_ rfl
  simp only [Try.ntmps65, List.size_toArray, List.length_cons, List.length_nil, Nat.reduceAdd, Nat.reduceSub, Array.replicate_succ, Array.replicate_zero, List.push_toArray, List.append_toArray, List.nil_append, List.cons_append]
  have hDa := ((hD.alloc (.cells #[.int .i64 (v:Int)] 3)).alloc (.cells #[.int .i64 0] 3))
  have d1a := hDa.cell1
  gi_wp2_with (refine ⟨trivial, ?_⟩; gi_at_call 59; refine (callsIn_wide.2 (places_any _ _)).mono ?_; rintro e w' ⟨rfl, rfl⟩)
  have bD := hDa.alloc (.cells #[.int .i64 (s:Int)] 42)
  have bC : Counter (((w.alloc (.cells #[.int .i64 (v:Int)] 3)).alloc (.cells #[.int .i64 0] 3)).alloc (.cells #[.int .i64 (s:Int)] 42)) Db Cb := ((Boxed.alloc hC _).alloc _).alloc _
  have bV := ((Boxed.new w 3 (.int .i64 (v:Int))).alloc (.cells #[.int .i64 0] 3)).alloc (.cells #[.int .i64 (s:Int)] 42)
  have bT := (Boxed.new (w.alloc (.cells #[.int .i64 (v:Int)] 3)) 3 (.int .i64 0)).alloc (.cells #[.int .i64 (s:Int)] 42)
  have bP := Boxed.new ((w.alloc (.cells #[.int .i64 (v:Int)] 3)).alloc (.cells #[.int .i64 0] 3)) 42 (.int .i64 (s:Int))
  have bM := ((hT.alloc (.cells #[.int .i64 (v:Int)] 3)).alloc (.cells #[.int .i64 0] 3)).alloc (.cells #[.int .i64 (s:Int)] 42)
  simp only [World.size_alloc] at bT bP
  have hB0 : Below w.heap.size w (((w.alloc (.cells #[.int .i64 (v:Int)] 3)).alloc (.cells #[.int .i64 0] 3)).alloc (.cells #[.int .i64 (s:Int)] 42)) :=
    (((Below.refl _ w).alloc (Nat.le_refl _) _).alloc (by simp) _).alloc (by simp; omega) _
  have hsz : (((w.alloc (.cells #[.int .i64 (v:Int)] 3)).alloc (.cells #[.int .i64 0] 3)).alloc (.cells #[.int .i64 (s:Int)] 42)).heap.size = w.heap.size + 3 := by simp
  obtain ⟨W0, hW0⟩ : ∃ W0, ((w.alloc (.cells #[.int .i64 (v:Int)] 3)).alloc (.cells #[.int .i64 0] 3)).alloc (.cells #[.int .i64 (s:Int)] 42) = W0 := ⟨_, rfl⟩
  rw [hW0] at bD bC bV bT bP bM hB0 hsz ⊢
  clear hW0 hDa d1a d0 d1 d2 hD hC hT
  refine wpIn_rangeFunc_ownF rfl (by omega) (gf := 76) (lb := #[.pointer (some ⟨w.heap.size + 1 + 1, 0, none⟩)]) rfl trivial (enters_of Try.func76 (by kernel_rfl) rfl)
    (places_stops 8 (by omega) (w.heap.size + 1 + 1) w.heap.size n s hs h2 W0 bP) KB.trans (KB.put (by omega)) (Below.refl _ _) (fun _ => rfl)
    (fun pre W => ((((Tri W Db n s M ∧ Boxed W Cb 37 (.func (.func 65) #[] #[.pointer (some ⟨Db, 0, none⟩), .pointer (some ⟨Cb, 0, none⟩)])) ∧ Boxed W w.heap.size 3 (.int .i64 (v:Int))) ∧ Boxed W (w.heap.size + 1) 3 (.int .i64 ((fold (wayS n s v) 0 (vals pre) : Nat) : Int))) ∧ Tells W M (partN n s) (farN n s)) ∧ Below w.heap.size w W)
    (fun _ _ _ => False)
    (OwnFrom.and (OwnFrom.and (OwnFrom.and (OwnFrom.and (OwnFrom.and (tri_own _ _ _ _ (by omega)) (Own.from (boxed_own _ _ _) _)) (Own.from (boxed_own _ _ _) _)) (Own.from (boxed_own _ _ _) _)) (tells_own (by omega) (fun _ => partN n s) (fun _ => farN n s))) (ownFrom_below (Nat.le_refl _) (by omega)))
    (fun _ _ _ _ _ hs _ _ => hs)
    ⟨⟨⟨⟨⟨bD, bC⟩, bV⟩, bT⟩, bM⟩, hB0⟩
    (fun x => { tmps := #[.int .i64 (v:Int), .pointer (some ⟨Db, 0, none⟩), .pointer (some ⟨Cb, 0, none⟩), .pointer (some ⟨w.heap.size, 0, none⟩), .int .i64 0, .pointer (some ⟨w.heap.size + 1, 0, none⟩), .int .i64 (x.val : Int), .int .i64 (v:Int), .bool false, .pointer (some ⟨Db, 0, none⟩), .pointer (some ⟨Db, 1, none⟩), .int .i64 (s:Int), .func (.func 76) #[] #[.pointer (some ⟨w.heap.size + 1 + 1, 0, none⟩)], .int .i64 (x.val : Int), undef, undef, undef, undef, undef, undef, undef, undef, undef, undef, undef, undef, undef, undef, undef, undef], defers := [] }) ?assign ?body ?done ?stop
  case assign =>
    intro l x W K hK
    gi_wp2
    exact hK
  case body =>
    rintro l pre x W ⟨⟨⟨⟨⟨bD1, bC1⟩, bV1⟩, bT1⟩, bM1⟩, hB1⟩ hlen
    have d0 := bD1.cell0
    have d1 := bD1.cell1
    have d2 := bD1.cell2
    have cV := bV1.cell
    have hx := x.isLt
    have hacc := wayS_le n s v h2 (vals pre) 0
    have hvl : (vals pre).length < 100 := by simpa [vals] using hlen
    have hsW := hB1.size
    have lD := bD1.lt
    have lC := bC1.lt
    have lV := bV1.lt
    have lT := bT1.lt
    have HS := Lib.hid (fold_snoc (wayS n s v) 0 pre x)
    have hmx : Try.prog.follows .mixedOrders = true := by kernel_rfl
    have hnr := fun W hT => nearer_any n s M (partN n s) (farN n s) (v : Int) (x.val : Int) W h1 h2 hT (fun u _ => far_le12 n s u h2) ⟨by omega, by omega⟩ ⟨by omega, by omega⟩
    by_cases hnear : atS (partN n s) (farN n s) ((rest n ((v : Int) - (x.val : Int)) : Nat) : Int) = atS (partN n s) (farN n s) (v : Int) - 1
    · rw [show decide (atS (partN n s) (farN n s) ((rest n ((v : Int) - (x.val : Int)) : Nat) : Int) = atS (partN n s) (farN n s) (v : Int) - 1) = true from decide_eq_true hnear] at hnr
      have HNr := Lib.hid hnr
      have HU := Lib.hid (show wayS n s v x.val (fold (wayS n s v) 0 (vals pre)) = fold (wayS n s v) 0 (vals pre) + gotN n s n (rest n ((v : Int) - (x.val : Int))) from if_pos hnear)
      have hnd := HN.out x.val hnear
      have hgl := got_le n s (rest n ((v : Int) - (x.val : Int))) h2
      have HRest := Lib.hid (fun W => rest_any n ((v : Int) - (x.val : Int)) W h1 h2 ⟨by omega, by omega⟩)
      have hrl := rest_lt n ((v : Int) - (x.val : Int)) h1
      have HRc := Lib.hid (fun W (hD : Tri W Db n s M) (hC : Counter W Db Cb) (hT : Tells W M (partN n s) (farN n s)) => HIH.out (distN n s v).toNat (by have := HVJ.out; omega) (rest n ((v : Int) - (x.val : Int))) W hrl (by omega) hD hC hT)
      clear hnr hnear hnd
      generalize gotN n s n (rest n ((v : Int) - (x.val : Int))) = gq at *
      generalize rest n ((v : Int) - (x.val : Int)) = rq at *
      generalize fold (wayS n s v) 0 (vals pre) = aq at *
      have hwv : IntKind.i64.wrap ((v : Int) - (x.val : Int)) = (v : Int) - (x.val : Int) := IntWalk.i64_in _ ⟨by omega, by omega⟩
      have hwa : IntKind.i64.wrap ((aq : Int) + (gq : Int)) = ((aq + gq : Nat) : Int) := by rw [IntWalk.i64_in _ ⟨by omega, by omega⟩]; omega
      have hwb : wrap64 ((aq : Int) + (gq : Int)) = ((aq + gq : Nat) : Int) := by rw [IntWalk.wrap64_in _ (by omega)]; omega
      gi_wp2_with (refine ⟨trivial, ?_⟩; gi_at_call 66; refine (CallsIn.inRound l (callsIn_wide.2 (HNr.out _ bM1))).mono ?_; rintro e Wn ⟨rfl, hbn⟩)
      have hAn := (Aside.refl (w.heap.size + 1) W).call hbn
      have bDn := bD1.below lD hbn
      have bCn : Counter Wn Db Cb := boxed_below bC1 lC hbn
      have bVn := boxed_below bV1 lV hbn
      have bTn := boxed_below bT1 lT hbn
      have bMn := bM1.belowAll hbn
      clear d0 d1 d2 cV hbn
      have hA0 := Aside.start (w.heap.size + 1) Wn
      have bT_0 := (show Boxed Wn.drew _ _ _ from bTn)
      refine region_round (fun W2 => Aside (w.heap.size + 1) Wn W2) hmx (by kernel_rfl) (fun ⟨_, _, h⟩ => h) hA0 (fun _ => ?_)
      refine take1 1 (v := ?_) rfl (by kernel_rfl) (by kernel_rfl) (by kernel_rfl) (fun _ _ _ h => h) (by rfl) ?_ hA0 ?_
      rotate_left
      · intro W2 hA
        have c0 := (hA.tri bDn (by omega)).cell0
        have c1 := (hA.box bCn (by omega)).cell
        have c2 := (hA.box bVn (by omega)).cell
        clear hA
        go_simp
        try with_reducible rfl
      try simp only [Act.put, List.setIfInBounds_toArray, List.set_cons_zero, List.set_cons_succ]
      refine take1 2 (v := ?_) rfl (by kernel_rfl) (by kernel_rfl) (by kernel_rfl) (fun _ _ _ h => h) (by rfl) ?_ hA0 ?_
      rotate_left
      · intro W2 hA
        have c0 := (hA.tri bDn (by omega)).cell0
        have c1 := (hA.box bCn (by omega)).cell
        have c2 := (hA.box bVn (by omega)).cell
        clear hA
        go_simp
        try with_reducible rfl
      try simp only [Act.put, List.setIfInBounds_toArray, List.set_cons_zero, List.set_cons_succ]
      refine take1 3 (v := ?_) rfl (by kernel_rfl) (by kernel_rfl) (by kernel_rfl) (fun _ _ _ h => h) (by rfl) ?_ hA0 ?_
      rotate_left
      · intro W2 hA
        have c0 := (hA.tri bDn (by omega)).cell0
        have c1 := (hA.box bCn (by omega)).cell
        have c2 := (hA.box bVn (by omega)).cell
        clear hA
        go_simp
        try with_reducible rfl
      try simp only [Act.put, List.setIfInBounds_toArray, List.set_cons_zero, List.set_cons_succ]
      refine take1 4 (v := ?_) rfl (by kernel_rfl) (by kernel_rfl) (by kernel_rfl) (fun _ _ _ h => h) (by rfl) ?_ hA0 ?_
      rotate_left
      · intro W2 hA
        have c0 := (hA.tri bDn (by omega)).cell0
        have c1 := (hA.box bCn (by omega)).cell
        have c2 := (hA.box bVn (by omega)).cell
        clear hA
        go_simp
        try with_reducible rfl
      try simp only [Act.put, List.setIfInBounds_toArray, List.set_cons_zero, List.set_cons_succ]
      refine take1 5 (v := ?_) rfl (by kernel_rfl) (by kernel_rfl) (by kernel_rfl) (fun _ _ _ h => h) (by rfl) ?_ hA0 ?_
      rotate_left
      · intro W2 hA
        have c0 := (hA.tri bDn (by omega)).cell0
        have c1 := (hA.box bCn (by omega)).cell
        have c2 := (hA.box bVn (by omega)).cell
        clear hA
        go_simp
        try with_reducible rfl
      try simp only [Act.put, List.setIfInBounds_toArray, List.set_cons_zero, List.set_cons_succ]
      refine take1 6 (v := ?_) rfl (by kernel_rfl) (by kernel_rfl) (by kernel_rfl) (fun _ _ _ h => h) (by rfl) ?_ hA0 ?_
      rotate_left
      · intro W2 hA
        have c0 := (hA.tri bDn (by omega)).cell0
        have c1 := (hA.box bCn (by omega)).cell
        have c2 := (hA.box bVn (by omega)).cell
        clear hA
        go_simp
        try with_reducible rfl
      try simp only [Act.put, List.setIfInBounds_toArray, List.set_cons_zero, List.set_cons_succ]
      refine take1 7 (v := ?_) rfl (by kernel_rfl) (by kernel_rfl) (by kernel_rfl) (fun _ _ _ h => h) (by rfl) ?_ hA0 ?_
      rotate_left
      · intro W2 hA
        have c0 := (hA.tri bDn (by omega)).cell0
        have c1 := (hA.box bCn (by omega)).cell
        have c2 := (hA.box bVn (by omega)).cell
        clear hA
        go_simp
        try with_reducible rfl
      try simp only [Act.put, List.setIfInBounds_toArray, List.set_cons_zero, List.set_cons_succ]
      refine step2 0 8 (by kernel_rfl) rfl rfl (fun K hK => ?_) (fun K hK => ?_)
      · have cT_ := bT_0.cell
        go_simp
        refine hK.out _ _ hA0 ?_
        clear hK K
        try simp only [Act.put, List.setIfInBounds_toArray, List.set_cons_zero, List.set_cons_succ]
        refine step1 8 (by kernel_rfl) rfl (fun K hK => ?_)
        go_simp
        refine (HRest.out _).mono ?_
        rintro e W1' ⟨rfl, hb1⟩
        go_wp2_with fail
        have hA1 := hA0.call hb1
        have bT_1 := boxed_below bT_0 bT_0.lt hb1
        refine hK.out _ _ hA1 ?_
        clear hK K
        try simp only [Act.put, List.setIfInBounds_toArray, List.set_cons_zero, List.set_cons_succ]
        refine step1 9 (by kernel_rfl) rfl (fun K hK => ?_)
        go_simp
        refine (HRc.out _ (hA1.tri bDn (by omega)) (hA1.box bCn (by omega)) (bMn.same (hA1.block M bMn.lt (by omega)))).mono ?_
        rintro e W2' ⟨rfl, hb2⟩
        go_wp2_with fail
        have hA2 := hA1.call hb2
        have bT_2 := boxed_below bT_1 bT_1.lt hb2
        refine hK.out _ _ hA2 ?_
        clear hK K
        try simp only [Act.put, List.setIfInBounds_toArray, List.set_cons_zero, List.set_cons_succ]
        refine take1 10 (v := ?_) rfl (by kernel_rfl) (by kernel_rfl) (by kernel_rfl) (fun _ _ _ h => h) (by rfl) ?_ hA2 ?_
        rotate_left
        · intro W2 hA
          have c0 := (hA.tri bDn (by omega)).cell0
          have c1 := (hA.box bCn (by omega)).cell
          have c2 := (hA.box bVn (by omega)).cell
          clear hA
          go_simp
          try with_reducible rfl
        try simp only [Act.put, List.setIfInBounds_toArray, List.set_cons_zero, List.set_cons_succ]
        have cT_9 := bT_2.cell
        have fT_9 := bT_2.frozen
        refine step1 11 (by kernel_rfl) rfl (fun K hK => ?_)
        go_simp
        refine hK.out _ _ (hA2.set _) ?_
        clear hK K
        try simp only [Act.put, List.setIfInBounds_toArray, List.set_cons_zero, List.set_cons_succ]
        refine stop1 (by kernel_rfl) ?_
        gi_wp2
        have hA9 := hAn.after (hA2.set (.int .i64 ((aq + gq : Nat) : Int)))
        have bT9 := bT_2.set (.int .i64 ((aq + gq : Nat) : Int))
        exact ⟨hA9.others bT1, hA9.kb (by omega) (by omega) hsW, ⟨⟨⟨⟨hA9.tri bD1 (by omega), hA9.box bC1 (by omega)⟩, hA9.box bV1 (by omega)⟩, by rw [HS.out, HU.out]; exact bT9⟩, bM1.same (hA9.block M bM1.lt (by omega))⟩, hB1.trans (hA9.below (by omega) hsW)⟩
      · go_simp
        refine (HRest.out _).mono ?_
        rintro e W1' ⟨rfl, hb1⟩
        go_wp2_with fail
        have hA1 := hA0.call hb1
        have bT_1 := boxed_below bT_0 bT_0.lt hb1
        refine hK.out _ _ hA1 ?_
        clear hK K
        try simp only [Act.put, List.setIfInBounds_toArray, List.set_cons_zero, List.set_cons_succ]
        refine step2 0 9 (by kernel_rfl) rfl rfl (fun K hK => ?_) (fun K hK => ?_)
        · have cT_ := bT_1.cell
          go_simp
          refine hK.out _ _ hA1 ?_
          clear hK K
          try simp only [Act.put, List.setIfInBounds_toArray, List.set_cons_zero, List.set_cons_succ]
          refine step1 9 (by kernel_rfl) rfl (fun K hK => ?_)
          go_simp
          refine (HRc.out _ (hA1.tri bDn (by omega)) (hA1.box bCn (by omega)) (bMn.same (hA1.block M bMn.lt (by omega)))).mono ?_
          rintro e W2' ⟨rfl, hb2⟩
          go_wp2_with fail
          have hA2 := hA1.call hb2
          have bT_2 := boxed_below bT_1 bT_1.lt hb2
          refine hK.out _ _ hA2 ?_
          clear hK K
          try simp only [Act.put, List.setIfInBounds_toArray, List.set_cons_zero, List.set_cons_succ]
          refine take1 10 (v := ?_) rfl (by kernel_rfl) (by kernel_rfl) (by kernel_rfl) (fun _ _ _ h => h) (by rfl) ?_ hA2 ?_
          rotate_left
          · intro W2 hA
            have c0 := (hA.tri bDn (by omega)).cell0
            have c1 := (hA.box bCn (by omega)).cell
            have c2 := (hA.box bVn (by omega)).cell
            clear hA
            go_simp
            try with_reducible rfl
          try simp only [Act.put, List.setIfInBounds_toArray, List.set_cons_zero, List.set_cons_succ]
          have cT_9 := bT_2.cell
          have fT_9 := bT_2.frozen
          refine step1 11 (by kernel_rfl) rfl (fun K hK => ?_)
          go_simp
          refine hK.out _ _ (hA2.set _) ?_
          clear hK K
          try simp only [Act.put, List.setIfInBounds_toArray, List.set_cons_zero, List.set_cons_succ]
          refine stop1 (by kernel_rfl) ?_
          gi_wp2
          have hA9 := hAn.after (hA2.set (.int .i64 ((aq + gq : Nat) : Int)))
          have bT9 := bT_2.set (.int .i64 ((aq + gq : Nat) : Int))
          exact ⟨hA9.others bT1, hA9.kb (by omega) (by omega) hsW, ⟨⟨⟨⟨hA9.tri bD1 (by omega), hA9.box bC1 (by omega)⟩, hA9.box bV1 (by omega)⟩, by rw [HS.out, HU.out]; exact bT9⟩, bM1.same (hA9.block M bM1.lt (by omega))⟩, hB1.trans (hA9.below (by omega) hsW)⟩
        · go_simp
          refine (HRc.out _ (hA1.tri bDn (by omega)) (hA1.box bCn (by omega)) (bMn.same (hA1.block M bMn.lt (by omega)))).mono ?_
          rintro e W2' ⟨rfl, hb2⟩
          go_wp2_with fail
          have hA2 := hA1.call hb2
          have bT_2 := boxed_below bT_1 bT_1.lt hb2
          refine hK.out _ _ hA2 ?_
          clear hK K
          try simp only [Act.put, List.setIfInBounds_toArray, List.set_cons_zero, List.set_cons_succ]
          refine step1 0 (by kernel_rfl) rfl (fun K hK => ?_)
          have cT_ := bT_2.cell
          go_simp
          refine hK.out _ _ hA2 ?_
          clear hK K
          try simp only [Act.put, List.setIfInBounds_toArray, List.set_cons_zero, List.set_cons_succ]
          refine take1 10 (v := ?_) rfl (by kernel_rfl) (by kernel_rfl) (by kernel_rfl) (fun _ _ _ h => h) (by rfl) ?_ hA2 ?_
          rotate_left
          · intro W2 hA
            have c0 := (hA.tri bDn (by omega)).cell0
            have c1 := (hA.box bCn (by omega)).cell
            have c2 := (hA.box bVn (by omega)).cell
            clear hA
            go_simp
            try with_reducible rfl
          try simp only [Act.put, List.setIfInBounds_toArray, List.set_cons_zero, List.set_cons_succ]
          have cT_9 := bT_2.cell
          have fT_9 := bT_2.frozen
          refine step1 11 (by kernel_rfl) rfl (fun K hK => ?_)
          go_simp
          refine hK.out _ _ (hA2.set _) ?_
          clear hK K
          try simp only [Act.put, List.setIfInBounds_toArray, List.set_cons_zero, List.set_cons_succ]
          refine stop1 (by kernel_rfl) ?_
          gi_wp2
          have hA9 := hAn.after (hA2.set (.int .i64 ((aq + gq : Nat) : Int)))
          have bT9 := bT_2.set (.int .i64 ((aq + gq : Nat) : Int))
          exact ⟨hA9.others bT1, hA9.kb (by omega) (by omega) hsW, ⟨⟨⟨⟨hA9.tri bD1 (by omega), hA9.box bC1 (by omega)⟩, hA9.box bV1 (by omega)⟩, by rw [HS.out, HU.out]; exact bT9⟩, bM1.same (hA9.block M bM1.lt (by omega))⟩, hB1.trans (hA9.below (by omega) hsW)⟩
    · rw [show decide (atS (partN n s) (farN n s) ((rest n ((v : Int) - (x.val : Int)) : Nat) : Int) = atS (partN n s) (farN n s) (v : Int) - 1) = false from decide_eq_false hnear] at hnr
      have HNr := Lib.hid hnr
      have HU := Lib.hid (show wayS n s v x.val (fold (wayS n s v) 0 (vals pre)) = fold (wayS n s v) 0 (vals pre) from if_neg hnear)
      clear hnr hnear
      gi_wp2_with (refine ⟨trivial, ?_⟩; gi_at_call 66; refine (CallsIn.inRound l (callsIn_wide.2 (HNr.out _ bM1))).mono ?_; rintro e Wn ⟨rfl, hbn⟩)
      exact ⟨others_below hbn, KB.call (KB.refl _ _ W) hsW hbn, ⟨⟨⟨⟨bD1.below lD hbn, boxed_below bC1 lC hbn⟩, boxed_below bV1 lV hbn⟩, by rw [HS.out, HU.out]; exact boxed_below bT1 lT hbn⟩, bM1.belowAll hbn⟩, hB1.trans (hbn.mono hsW)⟩
  case done =>
    rintro D ys W hD rfl ⟨⟨⟨_, bT1⟩, _⟩, hB⟩ hK
    have cT := bT1.cell
    rw [fold_come, HG.out] at cT
    gi_wp2
    refine ⟨by simp, .inl ⟨_, _, rfl, run_takeDeferred hK, ?_⟩⟩
    exact ⟨_, results_tmp rfl _ _ _, rfl, hB.trans (belowK_b (w := w) (Nat.le_refl _) W D _ _ (by omega) hK rfl rfl)⟩
  case stop =>
    rintro D c pre W _ _ h _
    exact h.elim
end Go.Proofs.Ytjgpdmjfpcdklaa
