/- Rounds, the program's side: steps along a list, whether it is a round. -/
import Derived.Test.YtfgolkbafnfblaaRoA
import Derived.Test.YtfgolkbafnfblaaRndF
import Derived.Test.YtfgolkbafnfblaaGD
import Derived.Test.YtfgolkbafnfblaaFarLL
import Derived.Test.YtfgolkbafnfblaaGA
namespace Go.Proofs.Ytfgolkbafnfblaa
open Go.RowKit Go.Shelf
set_option linter.unusedVariables false
theorem asideCell {T : Nat} {W W' : World} (h : Aside T W W') {p : Addr} (hp : p.block < W.heap.size) (hn : p.block ≠ T) : W'.cell? p = W.cell? p := by simp only [World.cell?, h.block p.block hp hn]
theorem inOrd_of_rnd {n s : Nat} {xs : List Int} (h : IsRnd n s xs) : InOrd n xs :=
  ⟨h.len, h.zero, fun i hi => ⟨h.lo i hi, h.hi i hi⟩, (seen_all n xs fun j hj => ⟨h.lo j hj, h.hi j hj⟩).2 h.all⟩
theorem rnd_of_ord {n s : Nat} {xs : List Int} (h1 : 1 ≤ n) (h0 : s.testBit 0 = false) (h : InOrd n xs) (ha : ∀ i, i < n → s.testBit (rest n (xs.getD ((i + 1) % n) 0 - xs.getD i 0)) = true) : IsRnd n s xs := by
  refine ⟨h.len, ?_, h.zero, fun i hi => (h.inn i hi).1, fun i hi => (h.inn i hi).2, ha, (seen_all n xs h.inn).1 h.all⟩
  refine Decidable.byContradiction fun hn => ?_
  obtain rfl : n = 1 := by omega
  have := ha 0 (by omega)
  rw [show rest 1 (xs.getD ((0 + 1) % 1) 0 - xs.getD 0 0) = 0 by have := rest_lt 1 (xs.getD ((0 + 1) % 1) 0 - xs.getD 0 0) (by omega); omega] at this
  rw [h0] at this
  cases this
/-- A list of one's own. -/
def OwnList (w : World) (xs : List Int) (e : Ending) (w' : World) : Prop := ∃ sv, e = .returned sv ∧ Below w.heap.size w w' ∧ IsInts w' w.heap.size sv xs
def wTo (n : Nat) (xs : List Int) (j v : Nat) : Int := if v < j then ((rest n (xs.getD ((v + 1) % n) 0 - xs.getD v 0) : Nat) : Int) else 0
theorem wTo_set (n : Nat) (xs : List Int) (j : Nat) (z : Int) (hz : ((rest n (xs.getD ((j + 1) % n) 0 - xs.getD j 0) : Nat) : Int) = z) : (tabI n (wTo n xs j)).set j z = tabI n (wTo n xs (j + 1)) := by
  rw [tabI_set]
  refine tabI_congr _ _ _ fun v hv => ?_
  unfold wTo
  by_cases e : v = j
  · subst e; rw [if_pos rfl, if_pos (by omega), hz]
  · rw [if_neg e]
    by_cases h : v < j
    · rw [if_pos h, if_pos (by omega)]
    · rw [if_neg h, if_neg (by omega)]
theorem wTo_end (n : Nat) (xs : List Int) : tabI n (wTo n xs n) = rwordN n xs n := tabI_congr _ _ _ fun v hv => by simp [wTo, hv]
theorem wTo_zero (n : Nat) (xs : List Int) : List.replicate n (0 : Int) = tabI n (wTo n xs 0) := by
  have : List.replicate n (0 : Int) = tabI n (fun _ => 0) := by simp [tabI, List.map_const']
  rw [this]
  exact tabI_congr _ _ _ fun v hv => by simp [wTo]
set_option maxHeartbeats 1000000 in
theorem stepsAlong_any (n : Nat) (sv : Value) (xs : List Int) (b : Nat) (w : World) (h1 : 1 ≤ n) (h2 : n ≤ 12) (hlen : xs.length = n) (hr : ∀ i, i < n → 0 ≤ xs.getD i 0 ∧ xs.getD i 0 < (n : Int)) (hI : IsInts w b sv xs) :
    Calls Try.prog 39 #[.agg #[.int .i64 (n:Int)], sv] w (OwnList w (rwordN n xs n)) := by
  have hmx : Try.prog.follows .mixedOrders = true := by kernel_rfl
  rcases hI.shape with ⟨_, rfl⟩ | ⟨g, cap, rfl, hg1, hg2, hg3⟩
  · simp at hlen; omega
  have HI := Lib.hid hI
  have HL := Lib.hid hlen
  rw [hlen] at HI hg3 ⊢
  have HRe := Lib.hid (fun x hx W => rest_any n x W h1 h2 hx)
  have HIn := Lib.hid hr
  have hmk := make_ints n (by omega) (w.alloc (.cells #[.int .i64 (n:Int)] 49))
  have hmd := made_ints n (by omega) (w.alloc (.cells #[.int .i64 (n:Int)] 49))
  rw [wTo_zero n xs] at hmd
  simp only [World.size_alloc] at hmk hmd
  have hX0 := (Boxed.new w 49 (.int .i64 (n:Int))).alloc (.cells (madeCells #[.int .i64 0] n) 3)
  have hB0 : Below w.heap.size w ((w.alloc (.cells #[.int .i64 (n:Int)] 49)).alloc (.cells (madeCells #[.int .i64 0] n) 3)) := ((Below.refl _ _).alloc (Nat.le_refl _) _).alloc (by simp) _
  obtain ⟨W1, hW1⟩ : ∃ W1, (w.alloc (.cells #[.int .i64 (n:Int)] 49)).alloc (.cells (madeCells #[.int .i64 0] n) 3) = W1 := ⟨_, rfl⟩
  rw [hW1] at hmk hmd hX0 hB0
  have HM := Lib.hid (show IsInts W1 w.heap.size (.slice (some ⟨w.heap.size + 1, 0, none⟩) n n) (tabI n (wTo n xs 0)) from hmd.base (by omega))
  have HB0 := Lib.hid hB0
  clear hI hlen hr hmd hB0
  go_enter Try.func39, Try.ntmps39
  go_wp2
  clear hmk hW1
  go_loopw [13] (fun u wr => ∃ i : Nat, i ≤ n ∧ u = .int .i64 (i : Int) ∧ Boxed wr w.heap.size 49 (.int .i64 (n:Int)) ∧ IsInts wr w.heap.size (.slice (some ⟨w.heap.size + 1, 0, none⟩) n n) (tabI n (wTo n xs i)) ∧ Below w.heap.size w wr) (fun u _ => n - (intOf u).toNat)
  case atStart => exact ⟨0, Nat.zero_le _, rfl, hX0, HM.out, HB0.out⟩
  case round =>
    obtain ⟨i, hi, rfl, hX, hM, hB⟩ := hrel
    have HB := Lib.hid hB
    have HMr := Lib.hid hM
    have HIr := Lib.hid (HI.out.belowAll hB)
    have hzr : w.heap.size + 1 < wr.heap.size := (World.ownsRow.lt hM _ rfl).2
    clear hB hM
    by_cases hlt : i < n
    · have ci := HIr.out.cell (i := i) (by rw [HL.out]; exact hlt)
      have hJ : (i + 1) % n < n := Nat.mod_lt _ (by omega)
      have eJ : Int.tmod ((i : Int) + 1) (n : Int) = (((i + 1) % n : Nat) : Int) := by rw [Int.ofNat_tmod]; rfl
      have cj := HIr.out.cell (i := (i + 1) % n) (by rw [HL.out]; exact hJ)
      have hri := HIn.out i hlt
      have hrj := HIn.out _ hJ
      have HSt := Lib.hid (wTo_set n xs i _ rfl)
      generalize (i + 1) % n = J at *
      generalize xs.getD J 0 = zj at *
      generalize xs.getD i 0 = z at *
      have HRx := Lib.hid (fun W => HRe.out (zj - z) ⟨by omega, by omega⟩ W)
      have hd1 : IntKind.i64.wrap (zj - z) = zj - z := IntWalk.i64_in _ ⟨by omega, by omega⟩
      have hd2 : wrap64 (zj - z) = zj - z := IntWalk.wrap64_in _ ⟨by omega, by omega⟩
      generalize rest n (zj - z) = q at *
      have i1 : (0 : Int) ≤ (i : Int) := by omega
      have i2 : (i : Int) < (n : Int) := by omega
      have i3 : (0 : Int) ≤ (J : Int) := by omega
      have i4 : (J : Int) < (n : Int) := by omega
      have i5 : ((n : Int) = 0) = False := by simp; omega
      have i6 : ((n : Int) == 0) = false := by simp; omega
      have i8 : (n = 0) = False := by simp; omega
      have i7 : IntKind.i64.wrap ((i : Int) + 1) = (i : Int) + 1 := IntWalk.i64_in _ ⟨by omega, by omega⟩
      go_wp2
      have hA0 := Aside.start (w.heap.size + 1) wr
      have hb0 : Below wr.heap.size wr wr.drew := (Below.refl _ _).drew
      refine wp_region_held_drew (S := fun W => Aside (w.heap.size + 1) wr W) hmx hA0 (fun _ => ?_)
      generalize wr.drew = W4 at *
      refine take1 0 (v := ?_) rfl (by kernel_rfl) (by kernel_rfl) (by kernel_rfl) (fun _ _ _ h => h) (by rfl) ?_ hA0 ?_
      rotate_left
      · intro W9 hA
        have d0 := (hA.box hX (by omega)).cell
        have d1 := (asideCell hA (p := ⟨g, J, none⟩) (by show g < _; omega) (by show g ≠ _; omega)).trans cj
        clear hA
        go_simp
        try with_reducible rfl
      try simp only [Act.put, List.setIfInBounds_toArray, List.set_cons_zero, List.set_cons_succ]
      refine take1 1 (v := ?_) rfl (by kernel_rfl) (by kernel_rfl) (by kernel_rfl) (fun _ _ _ h => h) (by rfl) ?_ hA0 ?_
      rotate_left
      · intro W9 hA
        have d0 := (hA.box hX (by omega)).cell
        have d1 := (asideCell hA (p := ⟨g, J, none⟩) (by show g < _; omega) (by show g ≠ _; omega)).trans cj
        clear hA
        go_simp
        try with_reducible rfl
      try simp only [Act.put, List.setIfInBounds_toArray, List.set_cons_zero, List.set_cons_succ]
      refine take1 2 (v := ?_) rfl (by kernel_rfl) (by kernel_rfl) (by kernel_rfl) (fun _ _ _ h => h) (by rfl) ?_ hA0 ?_
      rotate_left
      · intro W9 hA
        have d0 := (hA.box hX (by omega)).cell
        have d1 := (asideCell hA (p := ⟨g, J, none⟩) (by show g < _; omega) (by show g ≠ _; omega)).trans cj
        clear hA
        go_simp
        try with_reducible rfl
      try simp only [Act.put, List.setIfInBounds_toArray, List.set_cons_zero, List.set_cons_succ]
      refine take1 3 (v := ?_) rfl (by kernel_rfl) (by kernel_rfl) (by kernel_rfl) (fun _ _ _ h => h) (by rfl) ?_ hA0 ?_
      rotate_left
      · intro W9 hA
        have d0 := (hA.box hX (by omega)).cell
        have d1 := (asideCell hA (p := ⟨g, J, none⟩) (by show g < _; omega) (by show g ≠ _; omega)).trans cj
        clear hA
        go_simp
        try with_reducible rfl
      try simp only [Act.put, List.setIfInBounds_toArray, List.set_cons_zero, List.set_cons_succ]
      refine take1 4 (v := ?_) rfl (by kernel_rfl) (by kernel_rfl) (by kernel_rfl) (fun _ _ _ h => h) (by rfl) ?_ hA0 ?_
      rotate_left
      · intro W9 hA
        have d0 := (hA.box hX (by omega)).cell
        have d1 := (asideCell hA (p := ⟨g, J, none⟩) (by show g < _; omega) (by show g ≠ _; omega)).trans cj
        clear hA
        go_simp
        try with_reducible rfl
      try simp only [Act.put, List.setIfInBounds_toArray, List.set_cons_zero, List.set_cons_succ]
      refine take1 5 (v := ?_) rfl (by kernel_rfl) (by kernel_rfl) (by kernel_rfl) (fun _ _ _ h => h) (by rfl) ?_ hA0 ?_
      rotate_left
      · intro W9 hA
        have d0 := (hA.box hX (by omega)).cell
        have d1 := (asideCell hA (p := ⟨g, J, none⟩) (by show g < _; omega) (by show g ≠ _; omega)).trans cj
        clear hA
        go_simp
        try with_reducible rfl
      try simp only [Act.put, List.setIfInBounds_toArray, List.set_cons_zero, List.set_cons_succ]
      refine take1 6 (v := ?_) rfl (by kernel_rfl) (by kernel_rfl) (by kernel_rfl) (fun _ _ _ h => h) (by rfl) ?_ hA0 ?_
      rotate_left
      · intro W9 hA
        have d0 := (hA.box hX (by omega)).cell
        have d1 := (asideCell hA (p := ⟨g, J, none⟩) (by show g < _; omega) (by show g ≠ _; omega)).trans cj
        clear hA
        go_simp
        try with_reducible rfl
      try simp only [Act.put, List.setIfInBounds_toArray, List.set_cons_zero, List.set_cons_succ]
      refine take1 7 (v := ?_) rfl (by kernel_rfl) (by kernel_rfl) (by kernel_rfl) (fun _ _ _ h => h) (by rfl) ?_ hA0 ?_
      rotate_left
      · intro W9 hA
        have d0 := (hA.box hX (by omega)).cell
        have d1 := (asideCell hA (p := ⟨g, J, none⟩) (by show g < _; omega) (by show g ≠ _; omega)).trans cj
        clear hA
        go_simp
        try with_reducible rfl
      try simp only [Act.put, List.setIfInBounds_toArray, List.set_cons_zero, List.set_cons_succ]
      refine take1 8 (v := ?_) rfl (by kernel_rfl) (by kernel_rfl) (by kernel_rfl) (fun _ _ _ h => h) (by rfl) ?_ hA0 ?_
      rotate_left
      · intro W9 hA
        have d0 := (hA.box hX (by omega)).cell
        have d1 := (asideCell hA (p := ⟨g, J, none⟩) (by show g < _; omega) (by show g ≠ _; omega)).trans cj
        clear hA
        go_simp
        try with_reducible rfl
      try simp only [Act.put, List.setIfInBounds_toArray, List.set_cons_zero, List.set_cons_succ]
      refine take1 9 (v := ?_) rfl (by kernel_rfl) (by kernel_rfl) (by kernel_rfl) (fun _ _ _ h => h) (by rfl) ?_ hA0 ?_
      rotate_left
      · intro W9 hA
        have d0 := (hA.box hX (by omega)).cell
        have d1 := (asideCell hA (p := ⟨g, J, none⟩) (by show g < _; omega) (by show g ≠ _; omega)).trans cj
        clear hA
        go_simp
        try with_reducible rfl
      try simp only [Act.put, List.setIfInBounds_toArray, List.set_cons_zero, List.set_cons_succ]
      refine take1 10 (v := ?_) rfl (by kernel_rfl) (by kernel_rfl) (by kernel_rfl) (fun _ _ _ h => h) (by rfl) ?_ hA0 ?_
      rotate_left
      · intro W9 hA
        have d0 := (hA.box hX (by omega)).cell
        have d1 := (asideCell hA (p := ⟨g, J, none⟩) (by show g < _; omega) (by show g ≠ _; omega)).trans cj
        clear hA
        go_simp
        try with_reducible rfl
      try simp only [Act.put, List.setIfInBounds_toArray, List.set_cons_zero, List.set_cons_succ]
      refine take1 11 (v := ?_) rfl (by kernel_rfl) (by kernel_rfl) (by kernel_rfl) (fun _ _ _ h => h) (by rfl) ?_ hA0 ?_
      rotate_left
      · intro W9 hA
        have d0 := (hA.box hX (by omega)).cell
        have d1 := (asideCell hA (p := ⟨g, J, none⟩) (by show g < _; omega) (by show g ≠ _; omega)).trans cj
        clear hA
        go_simp
        try with_reducible rfl
      try simp only [Act.put, List.setIfInBounds_toArray, List.set_cons_zero, List.set_cons_succ]
      refine take1 12 (v := ?_) rfl (by kernel_rfl) (by kernel_rfl) (by kernel_rfl) (fun _ _ _ h => h) (by rfl) ?_ hA0 ?_
      rotate_left
      · intro W9 hA
        have d0 := (hA.box hX (by omega)).cell
        have d1 := (asideCell hA (p := ⟨g, J, none⟩) (by show g < _; omega) (by show g ≠ _; omega)).trans cj
        clear hA
        go_simp
        try with_reducible rfl
      try simp only [Act.put, List.setIfInBounds_toArray, List.set_cons_zero, List.set_cons_succ]
      refine step1 13 (by kernel_rfl) rfl (fun K hK => ?_)
      go_simp
      refine (HRx.out _).mono ?_
      rintro e W5 ⟨rfl, hb5⟩
      go_wp2_with fail
      have hA1 := hA0.call hb5
      have hb1 := hb0.trans (hb5.mono hb0.size)
      refine hK.out _ _ hA1 ?_
      clear hK K hb5 hA0 hb0
      try simp only [Act.put, List.setIfInBounds_toArray, List.set_cons_zero, List.set_cons_succ]
      refine take1 14 (v := ?_) rfl (by kernel_rfl) (by kernel_rfl) (by kernel_rfl) (fun _ _ _ h => h) (by rfl) ?_ hA1 ?_
      rotate_left
      · intro W9 hA
        clear hA
        go_simp
        try with_reducible rfl
      try simp only [Act.put, List.setIfInBounds_toArray, List.set_cons_zero, List.set_cons_succ]
      have hM5 := HMr.out.belowAll hb1
      have hM6 : IsInts W5 w.heap.size (.slice (some ⟨w.heap.size + 1, 0, none⟩) (tabI n (wTo n xs i)).length n) (tabI n (wTo n xs i)) := by rw [tabI_len]; exact hM5
      have e0 := hM6.cell (i := i) (by rw [tabI_len]; exact hlt)
      have f0 := hM6.frozen i
      have hM7 := hM6.set i (q : Int)
      rw [HSt.out, tabI_len] at hM7
      generalize (tabI n (wTo n xs i)).getD i 0 = z0 at e0
      have hX7 : Boxed (W5.setCell ⟨w.heap.size + 1, i, none⟩ (.int .i64 (q : Int))) w.heap.size 49 (.int .i64 (n:Int)) := (hA1.setAt i _).box hX (by omega)
      have hB7 := (HB.out.trans (hb1.mono HB.out.size)).setCell (p := ⟨w.heap.size + 1, i, none⟩) (by simp) (.int .i64 (q : Int))
      refine step1 15 (by kernel_rfl) rfl (fun K hK => ?_)
      go_simp
      refine hK.out _ _ (hA1.setAt i _) ?_
      clear hK K e0 f0 hM5 hM6
      try simp only [Act.put, List.setIfInBounds_toArray, List.set_cons_zero, List.set_cons_succ]
      refine stop1 (by kernel_rfl) ?_
      go_wp2
      go_roundw
      case rel => exact ⟨i + 1, by omega, by go_num, hX7, hM7, hB7⟩
      case measure => simp [intOf]; omega
    · obtain rfl : i = n := by omega
      have hE := wTo_end i xs
      rw [hE] at HMr
      go_wp2
      go_ret
      exact ⟨_, rfl, HB.out, HMr.out⟩
end Go.Proofs.Ytfgolkbafnfblaa
