/- Rounds, the program's side: RoundBy. -/
import Derived.Test.YtfgolkbafnfblaaRoE
import Derived.Test.YtfgolkbafnfblaaRndG
import Derived.Test.YtfgolkbafnfblaaRndL
namespace Go.Proofs.Ytfgolkbafnfblaa
open Go.RowKit Go.Shelf
set_option linter.unusedVariables false
theorem restAll_any (n : Nat) (v : Int) (w : World) (h1 : 1 ≤ n) (h2 : n ≤ 12) (hv : -9223372036854775808 ≤ v ∧ v ≤ 9223372036854775807) :
    Calls Try.prog 57 #[.agg #[.int .i64 (n:Int)], .int .i64 v] w fun e w' => e = .returned (.int .i64 ((rest n v : Nat) : Int)) ∧ Below w.heap.size w w' := by
  have hr := rest_eq n v h1
  have hb := rest_in n v h1 h2
  have H := Lib.hid hr
  clear hr
  obtain ⟨hb1, hb2⟩ := hb
  obtain ⟨hv1, hv2⟩ := hv
  go_enter Try.func57, Try.ntmps57
  go_wp2
  go_quiet (fail)
  go_wp2
  go_ret
  exact ⟨ret_int H.out, below_drewN ((Below.refl _ _).alloc (Nat.le_refl _) _) _⟩
/-- Where any numbers lead, with int's wraparound. -/
def plN (n : Nat) (xs : List Int) : Nat → Nat
  | 0 => 0
  | i + 1 => rest n (wrap64 ((plN n xs i : Int) + xs.getD i 0))
theorem plN_lt (n : Nat) (xs : List Int) (i : Nat) (h1 : 1 ≤ n) : plN n xs i < n := by
  cases i with
  | zero => exact h1
  | succ i => exact rest_lt n _ h1
def plL (n : Nat) (xs : List Int) : List Int := tabI n (fun i => ((plN n xs i : Nat) : Int))
theorem pl_rat {n : Nat} {xs : List Int} (h1 : 1 ≤ n) (h2 : n ≤ 12) (h : ∀ i, i < n → 1 ≤ xs.getD i 0 ∧ xs.getD i 0 ≤ (n : Int) - 1) (i : Nat) (hi : i ≤ n) : plN n xs i = ratN n xs i := by
  induction i with
  | zero => rfl
  | succ i ih =>
    have e := ih (by omega)
    have hl := ratN_lt n xs i h1
    have hx := h i (by omega)
    show rest n (wrap64 ((plN n xs i : Int) + xs.getD i 0)) = rest n ((ratN n xs i : Int) + xs.getD i 0)
    rw [e, IntWalk.wrap64_in _ ⟨by omega, by omega⟩]
theorem pl_by {n : Nat} {xs : List Int} (h2 : n ≤ 12) (h : OkBy n xs) : plL n xs = byN n xs n := by
  have := h.rnd.two
  exact tabI_congr _ _ _ fun i hi => by rw [pl_rat (by omega) h2 h.inn i (by omega)]
theorem ok_pl {n : Nat} {xs : List Int} (h2 : n ≤ 12) : OkBy n xs ↔ IsRnd n (butN n) (plL n xs) ∧ rwordN n (plL n xs) n = xs := by
  constructor
  · intro h
    rw [pl_by h2 h]
    exact ⟨h.rnd, word_by h⟩
  · rintro ⟨h, e⟩
    have := (by_word h).1
    rwa [e] at this
def pTo (n : Nat) (xs : List Int) (j v : Nat) : Int := if v < j then ((plN n xs v : Nat) : Int) else 0
theorem pTo_set (n : Nat) (xs : List Int) (j : Nat) (z : Int) (hz : ((plN n xs j : Nat) : Int) = z) : (tabI n (pTo n xs j)).set j z = tabI n (pTo n xs (j + 1)) := by
  rw [tabI_set]
  refine tabI_congr _ _ _ fun v hv => ?_
  unfold pTo
  by_cases e : v = j
  · subst e; rw [if_pos rfl, if_pos (by omega), hz]
  · rw [if_neg e]
    by_cases h : v < j
    · rw [if_pos h, if_pos (by omega)]
    · rw [if_neg h, if_neg (by omega)]
theorem pTo_end (n : Nat) (xs : List Int) : tabI n (pTo n xs n) = plL n xs := tabI_congr _ _ _ fun v hv => by simp [pTo, hv]
theorem pTo_one (n : Nat) (xs : List Int) : List.replicate n (0 : Int) = tabI n (pTo n xs 1) := by
  have : List.replicate n (0 : Int) = tabI n (fun _ => 0) := by simp [tabI, List.map_const']
  rw [this]
  refine tabI_congr _ _ _ fun v hv => ?_
  unfold pTo
  by_cases h : v < 1
  · rw [if_pos h]
    obtain rfl : v = 0 := by omega
    rfl
  · rw [if_neg h]
theorem pTo_get (n : Nat) (xs : List Int) (j i : Nat) (hi : i < n) (hj : i < j) : (tabI n (pTo n xs j)).getD i 0 = ((plN n xs i : Nat) : Int) := by
  rw [tabI_get n _ i hi]
  simp [pTo, hj]
set_option maxHeartbeats 1000000 in
theorem placesAlong_any (n : Nat) (sv : Value) (xs : List Int) (b : Nat) (w : World) (h1 : 1 ≤ n) (h2 : n ≤ 12) (hlen : xs.length = n) (hI : IsInts w b sv xs) :
    Calls Try.prog 49 #[.agg #[.int .i64 (n:Int)], sv] w (OwnList w (plL n xs)) := by
  have hmx : Try.prog.follows .mixedOrders = true := by kernel_rfl
  rcases hI.shape with ⟨_, rfl⟩ | ⟨g, cap, rfl, hg1, hg2, hg3⟩
  · simp at hlen; omega
  have HI := Lib.hid hI
  have HL := Lib.hid hlen
  rw [hlen] at HI hg3 ⊢
  have HRe := Lib.hid (fun x W => restAll_any n (wrap64 x) W h1 h2 (wrap64_range x))
  have hmk := make_ints n (by omega) (w.alloc (.cells #[.int .i64 (n:Int)] 49))
  have hmd := made_ints n (by omega) (w.alloc (.cells #[.int .i64 (n:Int)] 49))
  rw [pTo_one n xs] at hmd
  simp only [World.size_alloc] at hmk hmd
  have hX0 := (Boxed.new w 49 (.int .i64 (n:Int))).alloc (.cells (madeCells #[.int .i64 0] n) 3)
  have hB0 : Below w.heap.size w ((w.alloc (.cells #[.int .i64 (n:Int)] 49)).alloc (.cells (madeCells #[.int .i64 0] n) 3)) := ((Below.refl _ _).alloc (Nat.le_refl _) _).alloc (by simp) _
  obtain ⟨W1, hW1⟩ : ∃ W1, (w.alloc (.cells #[.int .i64 (n:Int)] 49)).alloc (.cells (madeCells #[.int .i64 0] n) 3) = W1 := ⟨_, rfl⟩
  rw [hW1] at hmk hmd hX0 hB0
  have HM := Lib.hid (show IsInts W1 w.heap.size (.slice (some ⟨w.heap.size + 1, 0, none⟩) n n) (tabI n (pTo n xs 1)) from hmd.base (by omega))
  have HB0 := Lib.hid hB0
  clear hI hlen hmd hB0
  go_enter Try.func49, Try.ntmps49
  go_wp2
  clear hmk hW1
  go_loopw [6] (fun u wr => ∃ i : Nat, 1 ≤ i ∧ i ≤ n ∧ u = .int .i64 (i : Int) ∧ Boxed wr w.heap.size 49 (.int .i64 (n:Int)) ∧ IsInts wr w.heap.size (.slice (some ⟨w.heap.size + 1, 0, none⟩) n n) (tabI n (pTo n xs i)) ∧ Below w.heap.size w wr) (fun u _ => n - (intOf u).toNat)
  case atStart => exact ⟨1, Nat.le_refl _, h1, rfl, hX0, HM.out, HB0.out⟩
  case round =>
    obtain ⟨i, hi1, hi, rfl, hX, hM, hB⟩ := hrel
    have HB := Lib.hid hB
    have HMr := Lib.hid hM
    have HIr := Lib.hid (HI.out.belowAll hB)
    have hzr : w.heap.size + 1 < wr.heap.size := (World.ownsRow.lt hM _ rfl).2
    clear hB hM
    by_cases hlt : i < n
    · obtain ⟨J, hJ⟩ : ∃ J, i = J + 1 := ⟨i - 1, by omega⟩
      have cj := HIr.out.cell (i := J) (by rw [HL.out]; omega)
      have hM6 : IsInts wr w.heap.size (.slice (some ⟨w.heap.size + 1, 0, none⟩) (tabI n (pTo n xs i)).length n) (tabI n (pTo n xs i)) := by rw [tabI_len]; exact HMr.out
      have ck := hM6.cell (i := J) (by rw [tabI_len]; omega)
      rw [pTo_get n xs i J (by omega) (by omega)] at ck
      have HSt := Lib.hid (pTo_set n xs i _ rfl)
      have hpl := plN_lt n xs J h1
      have HRx := Lib.hid (fun W => HRe.out ((plN n xs J : Int) + xs.getD J 0) W)
      have hst : plN n xs i = rest n (wrap64 ((plN n xs J : Int) + xs.getD J 0)) := by rw [hJ]; rfl
      rw [hst] at HSt
      generalize plN n xs J = k at *
      generalize xs.getD J 0 = z at *
      generalize hU : wrap64 ((k : Int) + z) = U at *
      have hU2 : IntKind.i64.wrap ((k : Int) + z) = U := by rw [IntWalk.i64_left]; exact hU
      generalize rest n U = q at *
      have jI : (i : Int) - 1 = (J : Int) := by omega
      have j1 : IntKind.i64.wrap ((i : Int) - 1) = (J : Int) := by rw [jI]; exact IntWalk.i64_in _ ⟨by omega, by omega⟩
      have j2 : wrap64 ((i : Int) - 1) = (J : Int) := by rw [jI]; exact IntWalk.wrap64_in _ ⟨by omega, by omega⟩
      have i1 : (0 : Int) ≤ (i : Int) := by omega
      have i2 : (i : Int) < (n : Int) := by omega
      have i3 : (0 : Int) ≤ (J : Int) := by omega
      have i4 : (J : Int) < (n : Int) := by omega
      have HJ := Lib.hid hJ
      clear hM6 hst hJ jI
      go_wp2
      have hA0 : Aside (w.heap.size + 1) wr wr.drew ∧ wr.drew.cell? ⟨w.heap.size + 1, J, none⟩ = some (.int .i64 (k : Int)) := ⟨Aside.start (w.heap.size + 1) wr, ck⟩
      have hb0 : Below wr.heap.size wr wr.drew := (Below.refl _ _).drew
      refine wp_region_held_drew (S := fun W => Aside (w.heap.size + 1) wr W ∧ W.cell? ⟨w.heap.size + 1, J, none⟩ = some (.int .i64 (k : Int))) hmx hA0 (fun _ => ?_)
      generalize wr.drew = W4 at *
      refine take1 0 (v := ?_) rfl (by kernel_rfl) (by kernel_rfl) (by kernel_rfl) (fun _ _ _ h => h) (by rfl) ?_ hA0 ?_
      rotate_left
      · intro W9 hA
        have d0 := (hA.1.box hX (by omega)).cell
        have d1 := (asideCell hA.1 (p := ⟨g, J, none⟩) (by show g < _; omega) (by show g ≠ _; omega)).trans cj
        have d2 := hA.2
        clear hA
        go_simp
        try with_reducible rfl
      try simp only [Act.put, List.setIfInBounds_toArray, List.set_cons_zero, List.set_cons_succ]
      refine take1 1 (v := ?_) rfl (by kernel_rfl) (by kernel_rfl) (by kernel_rfl) (fun _ _ _ h => h) (by rfl) ?_ hA0 ?_
      rotate_left
      · intro W9 hA
        have d0 := (hA.1.box hX (by omega)).cell
        have d1 := (asideCell hA.1 (p := ⟨g, J, none⟩) (by show g < _; omega) (by show g ≠ _; omega)).trans cj
        have d2 := hA.2
        clear hA
        go_simp
        try with_reducible rfl
      try simp only [Act.put, List.setIfInBounds_toArray, List.set_cons_zero, List.set_cons_succ]
      refine take1 2 (v := ?_) rfl (by kernel_rfl) (by kernel_rfl) (by kernel_rfl) (fun _ _ _ h => h) (by rfl) ?_ hA0 ?_
      rotate_left
      · intro W9 hA
        have d0 := (hA.1.box hX (by omega)).cell
        have d1 := (asideCell hA.1 (p := ⟨g, J, none⟩) (by show g < _; omega) (by show g ≠ _; omega)).trans cj
        have d2 := hA.2
        clear hA
        go_simp
        try with_reducible rfl
      try simp only [Act.put, List.setIfInBounds_toArray, List.set_cons_zero, List.set_cons_succ]
      refine take1 3 (v := ?_) rfl (by kernel_rfl) (by kernel_rfl) (by kernel_rfl) (fun _ _ _ h => h) (by rfl) ?_ hA0 ?_
      rotate_left
      · intro W9 hA
        have d0 := (hA.1.box hX (by omega)).cell
        have d1 := (asideCell hA.1 (p := ⟨g, J, none⟩) (by show g < _; omega) (by show g ≠ _; omega)).trans cj
        have d2 := hA.2
        clear hA
        go_simp
        try with_reducible rfl
      try simp only [Act.put, List.setIfInBounds_toArray, List.set_cons_zero, List.set_cons_succ]
      refine take1 4 (v := ?_) rfl (by kernel_rfl) (by kernel_rfl) (by kernel_rfl) (fun _ _ _ h => h) (by rfl) ?_ hA0 ?_
      rotate_left
      · intro W9 hA
        have d0 := (hA.1.box hX (by omega)).cell
        have d1 := (asideCell hA.1 (p := ⟨g, J, none⟩) (by show g < _; omega) (by show g ≠ _; omega)).trans cj
        have d2 := hA.2
        clear hA
        go_simp
        try with_reducible rfl
      try simp only [Act.put, List.setIfInBounds_toArray, List.set_cons_zero, List.set_cons_succ]
      refine take1 5 (v := ?_) rfl (by kernel_rfl) (by kernel_rfl) (by kernel_rfl) (fun _ _ _ h => h) (by rfl) ?_ hA0 ?_
      rotate_left
      · intro W9 hA
        have d0 := (hA.1.box hX (by omega)).cell
        have d1 := (asideCell hA.1 (p := ⟨g, J, none⟩) (by show g < _; omega) (by show g ≠ _; omega)).trans cj
        have d2 := hA.2
        clear hA
        go_simp
        try with_reducible rfl
      try simp only [Act.put, List.setIfInBounds_toArray, List.set_cons_zero, List.set_cons_succ]
      refine take1 6 (v := ?_) rfl (by kernel_rfl) (by kernel_rfl) (by kernel_rfl) (fun _ _ _ h => h) (by rfl) ?_ hA0 ?_
      rotate_left
      · intro W9 hA
        have d0 := (hA.1.box hX (by omega)).cell
        have d1 := (asideCell hA.1 (p := ⟨g, J, none⟩) (by show g < _; omega) (by show g ≠ _; omega)).trans cj
        have d2 := hA.2
        clear hA
        go_simp
        try with_reducible rfl
      try simp only [Act.put, List.setIfInBounds_toArray, List.set_cons_zero, List.set_cons_succ]
      refine take1 7 (v := ?_) rfl (by kernel_rfl) (by kernel_rfl) (by kernel_rfl) (fun _ _ _ h => h) (by rfl) ?_ hA0 ?_
      rotate_left
      · intro W9 hA
        have d0 := (hA.1.box hX (by omega)).cell
        have d1 := (asideCell hA.1 (p := ⟨g, J, none⟩) (by show g < _; omega) (by show g ≠ _; omega)).trans cj
        have d2 := hA.2
        clear hA
        go_simp
        try with_reducible rfl
      try simp only [Act.put, List.setIfInBounds_toArray, List.set_cons_zero, List.set_cons_succ]
      refine take1 8 (v := ?_) rfl (by kernel_rfl) (by kernel_rfl) (by kernel_rfl) (fun _ _ _ h => h) (by rfl) ?_ hA0 ?_
      rotate_left
      · intro W9 hA
        have d0 := (hA.1.box hX (by omega)).cell
        have d1 := (asideCell hA.1 (p := ⟨g, J, none⟩) (by show g < _; omega) (by show g ≠ _; omega)).trans cj
        have d2 := hA.2
        clear hA
        go_simp
        try with_reducible rfl
      try simp only [Act.put, List.setIfInBounds_toArray, List.set_cons_zero, List.set_cons_succ]
      refine take1 9 (v := ?_) rfl (by kernel_rfl) (by kernel_rfl) (by kernel_rfl) (fun _ _ _ h => h) (by rfl) ?_ hA0 ?_
      rotate_left
      · intro W9 hA
        have d0 := (hA.1.box hX (by omega)).cell
        have d1 := (asideCell hA.1 (p := ⟨g, J, none⟩) (by show g < _; omega) (by show g ≠ _; omega)).trans cj
        have d2 := hA.2
        clear hA
        go_simp
        try with_reducible rfl
      try simp only [Act.put, List.setIfInBounds_toArray, List.set_cons_zero, List.set_cons_succ]
      refine take1 10 (v := ?_) rfl (by kernel_rfl) (by kernel_rfl) (by kernel_rfl) (fun _ _ _ h => h) (by rfl) ?_ hA0 ?_
      rotate_left
      · intro W9 hA
        have d0 := (hA.1.box hX (by omega)).cell
        have d1 := (asideCell hA.1 (p := ⟨g, J, none⟩) (by show g < _; omega) (by show g ≠ _; omega)).trans cj
        have d2 := hA.2
        clear hA
        go_simp
        try with_reducible rfl
      try simp only [Act.put, List.setIfInBounds_toArray, List.set_cons_zero, List.set_cons_succ]
      refine take1 11 (v := ?_) rfl (by kernel_rfl) (by kernel_rfl) (by kernel_rfl) (fun _ _ _ h => h) (by rfl) ?_ hA0 ?_
      rotate_left
      · intro W9 hA
        have d0 := (hA.1.box hX (by omega)).cell
        have d1 := (asideCell hA.1 (p := ⟨g, J, none⟩) (by show g < _; omega) (by show g ≠ _; omega)).trans cj
        have d2 := hA.2
        clear hA
        go_simp
        try with_reducible rfl
      try simp only [Act.put, List.setIfInBounds_toArray, List.set_cons_zero, List.set_cons_succ]
      refine take1 12 (v := ?_) rfl (by kernel_rfl) (by kernel_rfl) (by kernel_rfl) (fun _ _ _ h => h) (by rfl) ?_ hA0 ?_
      rotate_left
      · intro W9 hA
        have d0 := (hA.1.box hX (by omega)).cell
        have d1 := (asideCell hA.1 (p := ⟨g, J, none⟩) (by show g < _; omega) (by show g ≠ _; omega)).trans cj
        have d2 := hA.2
        clear hA
        go_simp
        try with_reducible rfl
      try simp only [Act.put, List.setIfInBounds_toArray, List.set_cons_zero, List.set_cons_succ]
      refine take1 13 (v := ?_) rfl (by kernel_rfl) (by kernel_rfl) (by kernel_rfl) (fun _ _ _ h => h) (by rfl) ?_ hA0 ?_
      rotate_left
      · intro W9 hA
        have d0 := (hA.1.box hX (by omega)).cell
        have d1 := (asideCell hA.1 (p := ⟨g, J, none⟩) (by show g < _; omega) (by show g ≠ _; omega)).trans cj
        have d2 := hA.2
        clear hA
        go_simp
        try with_reducible rfl
      try simp only [Act.put, List.setIfInBounds_toArray, List.set_cons_zero, List.set_cons_succ]
      refine step1 14 (by kernel_rfl) rfl (fun K hK => ?_)
      go_simp
      refine (HRx.out _).mono ?_
      rintro e W5 ⟨rfl, hb5⟩
      go_wp2_with fail
      have hb1 := hb0.trans (hb5.mono hb0.size)
      have hA1 : Aside (w.heap.size + 1) wr W5 ∧ W5.cell? ⟨w.heap.size + 1, J, none⟩ = some (.int .i64 (k : Int)) := ⟨hA0.1.call hb5, (hb5.cell (p := ⟨w.heap.size + 1, J, none⟩) (Nat.lt_of_lt_of_le hzr hb0.size)).trans hA0.2⟩
      refine hK.out _ _ hA1 ?_
      clear hK K hb5 hA0 hb0
      try simp only [Act.put, List.setIfInBounds_toArray, List.set_cons_zero, List.set_cons_succ]
      refine take1 15 (v := ?_) rfl (by kernel_rfl) (by kernel_rfl) (by kernel_rfl) (fun _ _ _ h => h) (by rfl) ?_ hA1 ?_
      rotate_left
      · intro W9 hA
        clear hA
        go_simp
        try with_reducible rfl
      try simp only [Act.put, List.setIfInBounds_toArray, List.set_cons_zero, List.set_cons_succ]
      have hM5 := HMr.out.belowAll hb1
      have hM6 : IsInts W5 w.heap.size (.slice (some ⟨w.heap.size + 1, 0, none⟩) (tabI n (pTo n xs i)).length n) (tabI n (pTo n xs i)) := by rw [tabI_len]; exact hM5
      have e0 := hM6.cell (i := i) (by rw [tabI_len]; exact hlt)
      have f0 := hM6.frozen i
      have hM7 := hM6.set i (q : Int)
      rw [HSt.out, tabI_len] at hM7
      generalize (tabI n (pTo n xs i)).getD i 0 = z0 at e0
      have hX7 : Boxed (W5.setCell ⟨w.heap.size + 1, i, none⟩ (.int .i64 (q : Int))) w.heap.size 49 (.int .i64 (n:Int)) := (hA1.1.setAt i _).box hX (by omega)
      have hB7 := (HB.out.trans (hb1.mono HB.out.size)).setCell (p := ⟨w.heap.size + 1, i, none⟩) (by simp) (.int .i64 (q : Int))
      have hA2 : Aside (w.heap.size + 1) wr (W5.setCell ⟨w.heap.size + 1, i, none⟩ (.int .i64 (q : Int))) ∧ (W5.setCell ⟨w.heap.size + 1, i, none⟩ (.int .i64 (q : Int))).cell? ⟨w.heap.size + 1, J, none⟩ = some (.int .i64 (k : Int)) := by
        refine ⟨hA1.1.setAt i _, ?_⟩
        rw [World.cell?_setCell_other _ _ _ _ (by intro e; injection e with e1 e2; have := HJ.out; omega)]
        exact hA1.2
      refine step1 16 (by kernel_rfl) rfl (fun K hK => ?_)
      go_simp
      refine hK.out _ _ hA2 ?_
      clear hK K e0 f0 hM5 hM6
      try simp only [Act.put, List.setIfInBounds_toArray, List.set_cons_zero, List.set_cons_succ]
      refine stop1 (by kernel_rfl) ?_
      go_wp2
      go_roundw
      case rel => exact ⟨i + 1, by omega, by omega, by go_num, hX7, hM7, hB7⟩
      case measure => simp [intOf]; omega
    · obtain rfl : i = n := by omega
      have hE := pTo_end i xs
      rw [hE] at HMr
      go_wp2
      go_ret
      exact ⟨_, rfl, HB.out, HMr.out⟩
theorem implRoundBy_no (n : Int) (sv : Value) (w : World) (h : ¬ (1 ≤ n ∧ n ≤ 12)) :
    Calls Try.prog 25 #[.int .i64 n, sv] w (ListRes w [] false) := by
  have HO := Lib.hid (fun W => ringOf_out n (.slice none 0 0) W h)
  clear h
  go_enter Try.func25, Try.ntmps25
  go_wp2_with fail
  refine (HO.out _).mono ?_
  rintro e w1 ⟨rfl, hb1⟩
  go_wp2
  go_ret2
  exact nil_res ⟨rfl, hb1.alloc hb1.size _⟩
set_option maxHeartbeats 1000000 in
theorem implRoundBy_any (n : Nat) (sv : Value) (xs : List Int) (b : Nat) (w : World) (h1 : 1 ≤ n) (h2 : n ≤ 12) (hI : IsInts w b sv xs) :
    Calls Try.prog 25 #[.int .i64 (n:Int), sv] w (ListRes w (byRes n xs) (okByB n xs)) := by
  have HO := Lib.hid (fun W => ringOf_nil n W h1 h2)
  by_cases hlen : xs.length = n
  rotate_left
  · have hno : ¬ OkBy n xs := fun h => hlen h.len
    have e0 := byRes_no hno
    have e1 := okBy_no hno
    rw [e0, e1]
    rcases hI.shape with ⟨rfl, rfl⟩ | ⟨g, cap, rfl, hg1, hg2, hg3⟩
    · have e1 : ((0 : Int) == (n : Int)) = false := by simp; omega
      have e2 : ((0 : Int) != (n : Int)) = true := by simp; omega
      clear hno hI hlen e0
      go_enter Try.func25, Try.ntmps25
      go_wp2_with fail
      refine (HO.out _).mono ?_
      rintro e w1 ⟨rfl, hb1⟩
      go_wp2
      go_ret2
      exact nil_res ⟨rfl, hb1.alloc hb1.size _⟩
    · generalize xs.length = L at *
      have e1 : ((L : Int) == (n : Int)) = false := by simp; omega
      have e2 : ((L : Int) != (n : Int)) = true := by simp; omega
      clear hno hI hlen e0
      go_enter Try.func25, Try.ntmps25
      go_wp2_with fail
      refine (HO.out _).mono ?_
      rintro e w1 ⟨rfl, hb1⟩
      go_wp2
      go_ret2
      exact nil_res ⟨rfl, hb1.alloc hb1.size _⟩
  rcases hI.shape with ⟨_, rfl⟩ | ⟨g, cap, rfl, hg1, hg2, hg3⟩
  · simp at hlen; omega
  have HAll := Lib.hid (fun W => allSteps_any n W h1 h2)
  have HP := Lib.hid (fun W (h : IsInts W b (.slice (some ⟨g, 0, none⟩) xs.length cap) xs) => placesAlong_any n _ xs b W h1 h2 hlen h)
  have HR := Lib.hid (fun pv W (h : IsInts W w.heap.size pv (plL n xs)) => isRound_any n (butN n) pv (plL n xs) w.heap.size W h1 h2 (but_lt n h1) (but_bit0 n h2) h)
  have HI := Lib.hid hI
  have hpl : (plL n xs).length = n := tabI_len n _
  rw [hlen] at HI HP ⊢
  by_cases hr : IsRnd n (butN n) (plL n xs)
  · rw [isRnd_yes hr] at HR
    have hord := inOrd_of_rnd hr
    have HS := Lib.hid (fun pv W (h : IsInts W w.heap.size pv (plL n xs)) => stepsAlong_any n pv (plL n xs) w.heap.size W h1 h2 hord.len hord.inn h)
    have hwl := rword_len n (plL n xs) n
    have HEq := Lib.hid (fun qv bq sv W (hq : IsInts W bq qv (rwordN n (plL n xs) n)) (h : IsInts W b sv xs) => slicesEq_any qv sv (rwordN n (plL n xs) n) xs W bq b hq h n h1 (by omega) hwl hlen)
    by_cases he : rwordN n (plL n xs) n = xs
    · have hok := (ok_pl h2).2 ⟨hr, he⟩
      have e0 := byRes_yes hok
      rw [e0, okBy_yes hok, ← pl_by h2 hok]
      rw [decide_eq_true he] at HEq
      clear hok e0 hord he hr hwl hI hlen hg3
      generalize rwordN n (plL n xs) n = ws at *
      generalize plL n xs = ps at *
      generalize butN n = q at *
      go_enter Try.func25, Try.ntmps25
      go_wp2_with fail
      refine (HO.out _).mono ?_
      rintro e w1 ⟨rfl, hb1⟩
      have bx1 := Boxed.new w1 49 (.int .i64 (n:Int))
      have B1 := hb1.alloc hb1.size (.cells #[.int .i64 (n:Int)] 49)
      have HI1 := Lib.hid (HI.out.belowAll B1)
      have c1 := bx1.cell
      clear hb1
      go_wp2_with fail
      refine (HP.out _ HI1.out).mono ?_
      rintro e w2 ⟨pv, rfl, hb2, hI2⟩
      have bx2 := boxed_below bx1 bx1.lt hb2
      have B2 := B1.trans (hb2.mono B1.size)
      have HIp := Lib.hid (hI2.base B1.size)
      have HI2 := Lib.hid (HI1.out.belowAll hb2)
      have c2 := bx2.cell
      clear hb2 B1 bx1 HI1 c1 hI2
      go_wp2_with fail
      refine (HAll.out _).mono ?_
      rintro e w3 ⟨rfl, hb3⟩
      have bx3 := boxed_below bx2 bx2.lt hb3
      have B3 := B2.trans (hb3.mono B2.size)
      have HIp := Lib.hid (HIp.out.belowAll hb3)
      have HI3 := Lib.hid (HI2.out.belowAll hb3)
      have c3 := bx3.cell
      clear hb3 B2 bx2 HI2 c2
      go_wp2_with fail
      refine (HR.out _ _ HIp.out).mono ?_
      rintro e w4 ⟨rfl, hb4⟩
      have bx4 := boxed_below bx3 bx3.lt hb4
      have B4 := B3.trans (hb4.mono B3.size)
      have HIp := Lib.hid (HIp.out.belowAll hb4)
      have HI4 := Lib.hid (HI3.out.belowAll hb4)
      have c4 := bx4.cell
      clear hb4 B3 bx3 HI3 c3
      go_wp2_with fail
      refine (HS.out _ _ HIp.out).mono ?_
      rintro e w5 ⟨qv, rfl, hb5, hI5⟩
      have B5 := B4.trans (hb5.mono B4.size)
      have HIp := Lib.hid (HIp.out.belowAll hb5)
      have HI5 := Lib.hid (HI4.out.belowAll hb5)
      have HIq := Lib.hid hI5
      clear hb5 B4 bx4 HI4 c4 hI5
      go_wp2_with fail
      refine (HEq.out _ _ _ _ HIq.out HI5.out).mono ?_
      rintro e w6 ⟨rfl, hb6⟩
      have B6 := B5.trans (hb6.mono B5.size)
      have HIp := Lib.hid (HIp.out.belowAll hb6)
      clear hb6 B5
      go_wp2
      go_ret2
      exact ⟨_, rfl, B6, HIp.out⟩
    · have hno : ¬ OkBy n xs := fun h => he ((ok_pl h2).1 h).2
      rw [byRes_no hno, okBy_no hno]
      rw [decide_eq_false he] at HEq
      clear hno hord he hr hwl hI hlen hg3
      generalize rwordN n (plL n xs) n = ws at *
      generalize plL n xs = ps at *
      generalize butN n = q at *
      go_enter Try.func25, Try.ntmps25
      go_wp2_with fail
      refine (HO.out _).mono ?_
      rintro e w1 ⟨rfl, hb1⟩
      have bx1 := Boxed.new w1 49 (.int .i64 (n:Int))
      have B1 := hb1.alloc hb1.size (.cells #[.int .i64 (n:Int)] 49)
      have HI1 := Lib.hid (HI.out.belowAll B1)
      have c1 := bx1.cell
      clear hb1
      go_wp2_with fail
      refine (HP.out _ HI1.out).mono ?_
      rintro e w2 ⟨pv, rfl, hb2, hI2⟩
      have bx2 := boxed_below bx1 bx1.lt hb2
      have B2 := B1.trans (hb2.mono B1.size)
      have HIp := Lib.hid (hI2.base B1.size)
      have HI2 := Lib.hid (HI1.out.belowAll hb2)
      have c2 := bx2.cell
      clear hb2 B1 bx1 HI1 c1 hI2
      go_wp2_with fail
      refine (HAll.out _).mono ?_
      rintro e w3 ⟨rfl, hb3⟩
      have bx3 := boxed_below bx2 bx2.lt hb3
      have B3 := B2.trans (hb3.mono B2.size)
      have HIp := Lib.hid (HIp.out.belowAll hb3)
      have HI3 := Lib.hid (HI2.out.belowAll hb3)
      have c3 := bx3.cell
      clear hb3 B2 bx2 HI2 c2
      go_wp2_with fail
      refine (HR.out _ _ HIp.out).mono ?_
      rintro e w4 ⟨rfl, hb4⟩
      have bx4 := boxed_below bx3 bx3.lt hb4
      have B4 := B3.trans (hb4.mono B3.size)
      have HIp := Lib.hid (HIp.out.belowAll hb4)
      have HI4 := Lib.hid (HI3.out.belowAll hb4)
      have c4 := bx4.cell
      clear hb4 B3 bx3 HI3 c3
      go_wp2_with fail
      refine (HS.out _ _ HIp.out).mono ?_
      rintro e w5 ⟨qv, rfl, hb5, hI5⟩
      have B5 := B4.trans (hb5.mono B4.size)
      have HIp := Lib.hid (HIp.out.belowAll hb5)
      have HI5 := Lib.hid (HI4.out.belowAll hb5)
      have HIq := Lib.hid hI5
      clear hb5 B4 bx4 HI4 c4 hI5
      go_wp2_with fail
      refine (HEq.out _ _ _ _ HIq.out HI5.out).mono ?_
      rintro e w6 ⟨rfl, hb6⟩
      have B6 := B5.trans (hb6.mono B5.size)
      have HIp := Lib.hid (HIp.out.belowAll hb6)
      clear hb6 B5
      go_wp2
      go_ret2
      exact nil_res ⟨rfl, B6⟩
  · have hno : ¬ OkBy n xs := fun h => hr ((ok_pl h2).1 h).1
    rw [isRnd_no hr] at HR
    rw [byRes_no hno, okBy_no hno]
    clear hno hr hI hlen hg3
    generalize plL n xs = ps at *
    generalize butN n = q at *
    go_enter Try.func25, Try.ntmps25
    go_wp2_with fail
    refine (HO.out _).mono ?_
    rintro e w1 ⟨rfl, hb1⟩
    have bx1 := Boxed.new w1 49 (.int .i64 (n:Int))
    have B1 := hb1.alloc hb1.size (.cells #[.int .i64 (n:Int)] 49)
    have HI1 := Lib.hid (HI.out.belowAll B1)
    have c1 := bx1.cell
    clear hb1
    go_wp2_with fail
    refine (HP.out _ HI1.out).mono ?_
    rintro e w2 ⟨pv, rfl, hb2, hI2⟩
    have bx2 := boxed_below bx1 bx1.lt hb2
    have B2 := B1.trans (hb2.mono B1.size)
    have HIp := Lib.hid (hI2.base B1.size)
    have HI2 := Lib.hid (HI1.out.belowAll hb2)
    have c2 := bx2.cell
    clear hb2 B1 bx1 HI1 c1 hI2
    go_wp2_with fail
    refine (HAll.out _).mono ?_
    rintro e w3 ⟨rfl, hb3⟩
    have bx3 := boxed_below bx2 bx2.lt hb3
    have B3 := B2.trans (hb3.mono B2.size)
    have HIp := Lib.hid (HIp.out.belowAll hb3)
    have HI3 := Lib.hid (HI2.out.belowAll hb3)
    have c3 := bx3.cell
    clear hb3 B2 bx2 HI2 c2
    go_wp2_with fail
    refine (HR.out _ _ HIp.out).mono ?_
    rintro e w4 ⟨rfl, hb4⟩
    have bx4 := boxed_below bx3 bx3.lt hb4
    have B4 := B3.trans (hb4.mono B3.size)
    have HIp := Lib.hid (HIp.out.belowAll hb4)
    have HI4 := Lib.hid (HI3.out.belowAll hb4)
    have c4 := bx4.cell
    clear hb4 B3 bx3 HI3 c3
    go_wp2
    go_ret2
    exact nil_res ⟨rfl, B4⟩
end Go.Proofs.Ytfgolkbafnfblaa
