/- Rows of edges: the program. -/
import Derived.Test.YtookciehnjnmnaaTreeR
import Derived.Test.YtookciehnjnmnaaGC
import Derived.Test.YtookciehnjnmnaaStepZ
import Derived.Test.YtookciehnjnmnaaGA
namespace Go.Proofs.Ytookciehnjnmnaa
open Go.RowKit Go.Shelf
set_option linter.unusedVariables false
attribute [local go_sem] Oper.semAt_some
/-- What the program's row v has when w places have been asked. -/
def rowE (n b v : Nat) (deg : Int) (w j : Nat) : Int := if j < w then entT n b (1 + v) deg (1 + j) else if j = v then deg else 0
theorem rowE_start (n b v : Nat) (deg : Int) (j : Nat) : rowE n b v deg 0 j = if j = v then deg else 0 := by
  unfold rowE
  rw [if_neg (by omega)]
theorem rowE_end (n b v m : Nat) (deg : Int) (j : Nat) (h : j < m) : rowE n b v deg m j = entT n b (1 + v) deg (1 + j) := by
  unfold rowE
  rw [if_pos h]
theorem rest_diff (n w v : Nat) (hw : w < n) (hv : v < n) : rest n ((w : Int) - (v : Int)) = (1 + w + n - (1 + v)) % n := by
  unfold rest
  have e : ((w : Int) - (v : Int)) % (n : Int) = (((1 + w + n - (1 + v)) % n : Nat) : Int) := by
    rw [Int.natCast_emod, show (((1 + w + n - (1 + v) : Nat)) : Int) = ((w : Int) - (v : Int)) + (n : Int) by omega, Int.add_emod_right]
  rw [e]
  exact Int.toNat_natCast _
theorem rowE_no (n b v : Nat) (deg : Int) (w j : Nat) (hw : w < n) (hv : v < n) (h : w = v ∨ b.testBit (rest n ((w : Int) - (v : Int))) = false) : rowE n b v deg w j = rowE n b v deg (w + 1) j := by
  unfold rowE
  by_cases e : j < w
  · rw [if_pos e, if_pos (show j < w + 1 by omega)]
  · rw [if_neg e]
    by_cases e2 : j = w
    · subst e2
      rw [if_pos (show j < j + 1 by omega)]
      unfold entT
      by_cases e3 : j = v
      · rw [if_pos e3, if_pos (show 1 + j = 1 + v by omega)]
      · rw [if_neg e3, if_neg (show ¬ 1 + j = 1 + v by omega), ← rest_diff n j v hw hv, h.resolve_left e3]
        rfl
    · rw [if_neg (show ¬ j < w + 1 by omega)]
theorem rowE_yes (n b v : Nat) (deg : Int) (w j : Nat) (hw : w < n) (hv : v < n) (hne : w ≠ v) (h : b.testBit (rest n ((w : Int) - (v : Int))) = true) : (if j = w then -1 else rowE n b v deg w j) = rowE n b v deg (w + 1) j := by
  unfold rowE
  by_cases e2 : j = w
  · subst e2
    rw [if_pos rfl, if_pos (show j < j + 1 by omega)]
    unfold entT
    rw [if_neg (show ¬ 1 + j = 1 + v by omega), ← rest_diff n j v hw hv, h]
    rfl
  · rw [if_neg e2]
    by_cases e : j < w
    · rw [if_pos e, if_pos (show j < w + 1 by omega)]
    · rw [if_neg e, if_neg (show ¬ j < w + 1 by omega)]
/-- The rows of which v are whole, and row v as it is being made. -/
def matE (n b v : Nat) (deg : Int) (w i j : Nat) : Int := if i = v then rowE n b v deg w j else entT n b (1 + i) deg (1 + j)
theorem Try.infoRows : (Try.prog.info? 32).map (fun i => (i.zero, i.size, i.bytes)) = some (some (.slice none 0 0), 1, 24) := by kernel_rfl
theorem make_rows (m : Nat) (hm : m ≤ 1000) (w : World) :
    (Instr.makeSlice 51 (.int .i64 (m:Int)) (.int .i64 (m:Int))).run Try.prog w = .ok (.slice (some ⟨w.heap.size, 0, none⟩) m m) (w.alloc (.cells (madeCells #[.slice none 0 0] m) 32)) :=
  run_make_row' 51 32 _ _ Try.underlying51 Try.infoRows rfl .i64 .i64 m (by omega) (by omega) w
theorem grid_made (m : Nat) (w : World) : Grid (w.alloc (.cells (madeCells #[.slice none 0 0] m) 32)) w.heap.size w.heap.size 0 m m (fun _ => 0) (fun _ => 0) (fun _ _ => 0) := by
  have h := World.rowIs_made w (.slice none 0 0) m 32
  exact ⟨fun i hi => ⟨by rw [h.cell hi]; rfl, h.frozen i⟩, Nat.zero_le _, fun i hi => by omega, fun i j hi => by omega, fun i j hi => by omega, Nat.le_refl _, fun i hi => by omega, fun i hi => by omega, fun i j hi => by omega⟩
theorem zeros_row (m : Nat) (w : World) : (∀ j, j < m → (w.alloc (.cells (madeCells #[.int .i64 0] m) 3)).cell? ⟨w.heap.size, j, none⟩ = some (.int .i64 0)) ∧ ∀ j, (w.alloc (.cells (madeCells #[.int .i64 0] m) 3)).frozen? ⟨w.heap.size, j, none⟩ = false := by
  have h := World.rowIs_made w (.int .i64 0) m 3
  exact ⟨fun j hj => h.cell hj, fun j => h.frozen j⟩
set_option maxRecDepth 100000 in
set_option maxHeartbeats 4000000 in
theorem edgeRows_any (n s : Nat) (w : World) (h1 : 1 ≤ n) (h2 : n ≤ 12) (hs : s < 2 ^ n) (h0 : (bothN n s).testBit 0 = false) :
    Calls Try.prog 71 #[.agg #[.int .i64 (n:Int), .int .i64 (s:Int)]] w fun e w' => ∃ (g : Nat) (G C : Nat → Nat), e = .returned (.slice (some ⟨g, 0, none⟩) (n - 1) (n - 1)) ∧ Below w.heap.size w w' ∧
      Grid w' w.heap.size g (n - 1) (n - 1) (n - 1) G C (fun i j => entT n (bothN n s) (1 + i) ((sizeN (bothN n s) : Nat) : Int) (1 + j)) := by
  have hmx : Try.prog.follows .mixedOrders = true := by kernel_rfl
  have hbl := bothN_lt n s h1 hs
  have hp12 := pow_le n h2
  have HBo := Lib.hid (fun W => both_any n s W h1 h2 hs)
  have HRe := Lib.hid (fun x hx W => rest_any n x W h1 h2 hx)
  obtain ⟨b, hb⟩ : ∃ b, bothN n s = b := ⟨_, rfl⟩
  rw [hb] at hbl HBo h0 ⊢
  have HSi := Lib.hid (fun W => placesSize_any b W (pow_mono h2 hbl))
  have HHa := Lib.hid (fun v (hv : v < 40) W => has_any b v W (by omega) hv)
  obtain ⟨m, hm⟩ : ∃ m, n - 1 = m := ⟨_, rfl⟩
  rw [hm]
  have hm1 : (n : Int) - 1 = (m : Int) := by omega
  have hm2 : wrap64 ((n : Int) - 1) = (m : Int) := by rw [hm1]; exact IntWalk.wrap64_in _ ⟨by omega, by omega⟩
  have hm3 : IntKind.i64.wrap ((n : Int) - 1) = (m : Int) := by rw [hm1]; exact IntWalk.i64_in _ ⟨by omega, by omega⟩
  have hmk := make_rows m (by omega)
  have hmi := make_ints m (by omega)
  have HGm := Lib.hid (fun W => grid_made m W)
  have HZ := Lib.hid (fun W => zeros_row m W)
  have hD := Duo.new w 41 (.int .i64 (n:Int)) (.int .i64 (s:Int))
  have hB := (Below.refl w.heap.size w).alloc (Nat.le_refl _) (.cells #[.int .i64 (n:Int), .int .i64 (s:Int)] 41)
  have HD := Lib.hid hD
  have HB := Lib.hid hB
  have HM := Lib.hid hm
  clear hD hB hb hm
  go_enter Try.func71, Try.ntmps71
  go_wp2_with fail
  refine (HBo.out _).mono ?_
  rintro e w1 ⟨rfl, hb1⟩
  have HD1 := Lib.hid (duo_below HD.out HD.out.lt hb1)
  have HB1 := Lib.hid (HB.out.trans (hb1.mono HB.out.size))
  have zl := HD1.out.lt
  have d0 := HD1.out.cell0
  have d1 := HD1.out.cell1
  clear hb1 HD HB
  go_wp2
  have HG0 := Lib.hid ((HGm.out w1).mono (show w.heap.size + 1 ≤ w1.heap.size by omega))
  have HD2 := Lib.hid (HD1.out.alloc (.cells (madeCells #[.slice none 0 0] m) 32))
  have HB2 := Lib.hid (HB1.out.alloc HB1.out.size (.cells (madeCells #[.slice none 0 0] m) 32))
  obtain ⟨g, hg⟩ : ∃ g, w1.heap.size = g := ⟨_, rfl⟩
  rw [hg] at HG0 ⊢
  obtain ⟨W0, hW0⟩ : ∃ W0, w1.alloc (.cells (madeCells #[.slice none 0 0] m) 32) = W0 := ⟨_, rfl⟩
  rw [hW0] at HG0 HD2 HB2 ⊢
  obtain ⟨q, hq⟩ : ∃ q, sizeN b = q := ⟨_, rfl⟩
  rw [hq] at HSi
  have HQ := Lib.hid hq
  clear hW0 hg hq HGm HD1 HB1 d0 d1 zl hmk
  go_loopw [16] (fun u wr => ∃ (v : Nat) (G C : Nat → Nat), v ≤ m ∧ u = .int .i64 (v : Int) ∧ Grid wr (w.heap.size + 1) g v m m G C (fun i j => entT n b (1 + i) (q : Int) (1 + j)) ∧ Duo wr w.heap.size 41 (.int .i64 (n:Int)) (.int .i64 (s:Int)) ∧ Below w.heap.size w wr) (fun u _ => m - (intOf u).toNat)
  case atStart => exact ⟨0, _, _, Nat.zero_le _, rfl, HG0.out.congr (fun i j hi _ => by omega), HD2.out, HB2.out⟩
  case round =>
    obtain ⟨v, G, C, hv, rfl, hG, hD, hB⟩ := hrel
    clear HG0 HD2 HB2
    have HG := Lib.hid hG
    have HD := Lib.hid hD
    have HB := Lib.hid hB
    clear hG hD hB
    by_cases hlt : v < m
    · have zg := HG.out.ltg (by omega)
      have zd := HD.out.lt
      have zN := HG.out.base
      obtain ⟨r0, r2⟩ := HG.out.room v hlt
      obtain ⟨v0, r1⟩ := Option.isSome_iff_exists.1 r0
      clear r0
      have d0 := HD.out.cell0
      have d1 := HD.out.cell1
      have i1 : (0 : Int) ≤ (v : Int) := by omega
      have i2 : (v : Int) < (m : Int) := by omega
      obtain ⟨z1, z2⟩ := HZ.out wr
      have HG1 := Lib.hid ((HG.out.alloc (.cells (madeCells #[.int .i64 0] m) 3)).row hlt wr.heap.size m (fun _ => 0) (by omega) (by omega) (fun i hi => by have := HG.out.lt i hi (by omega); omega) z1 (fun j _ => z2 j))
      have HD1 := Lib.hid ((HD.out.alloc (.cells (madeCells #[.int .i64 0] m) 3)).same (Below.heap_setCell _ ⟨g, v, none⟩ (.slice (some ⟨wr.heap.size, 0, none⟩) m m) w.heap.size (by simp; omega)))
      have HB1 := Lib.hid ((HB.out.alloc HB.out.size (.cells (madeCells #[.int .i64 0] m) 3)).setCell (p := ⟨g, v, none⟩) (by simp; omega) (.slice (some ⟨wr.heap.size, 0, none⟩) m m))
      rw [World.setCell_alloc_past (w := wr) _ g v _ zg] at HG1 HD1 HB1
      clear z1 z2
      go_wp2
      obtain ⟨W2, hW2⟩ : ∃ W2, ((wr.setCell ⟨g, v, none⟩ (.slice (some ⟨wr.heap.size, 0, none⟩) m m)).alloc (.cells (madeCells #[.int .i64 0] m) 3)) = W2 := ⟨_, rfl⟩
      rw [hW2] at HG1 HD1 HB1 ⊢
      obtain ⟨G2, hG2⟩ : ∃ G2 : Nat → Nat, (fun i => if i = v then wr.heap.size else G i) = G2 := ⟨_, rfl⟩
      obtain ⟨C2, hC2⟩ : ∃ C2 : Nat → Nat, (fun i => if i = v then m else C i) = C2 := ⟨_, rfl⟩
      rw [hG2, hC2] at HG1
      clear hW2 hG2 hC2 d0 d1 r1 r2 v0 zg zd HG HD HB
      have hA0 : (∃ M, Grid W2.drew (w.heap.size + 1) g (v + 1) m m G2 C2 M) ∧ Duo W2.drew w.heap.size 41 (.int .i64 (n:Int)) (.int .i64 (s:Int)) ∧ Below w.heap.size w W2.drew := ⟨⟨_, HG1.out.drew⟩, HD1.out, HB1.out.drew⟩
      have HG3 := Lib.hid HG1.out.drew
      refine wp_region_held_drew (S := fun W => (∃ M, Grid W (w.heap.size + 1) g (v + 1) m m G2 C2 M) ∧ Duo W w.heap.size 41 (.int .i64 (n:Int)) (.int .i64 (s:Int)) ∧ Below w.heap.size w W) hmx hA0 (fun _ => ?_)
      generalize W2.drew = W3 at *
      clear HG1 HD1 HB1
      refine take1 0 (v := ?_) rfl (by kernel_rfl) (by kernel_rfl) (by kernel_rfl) (fun _ _ _ h => h) (by rfl) ?_ hA0 ?_
      rotate_left
      · intro W9 hA
        have co := hA.1.choose_spec.outer v (by omega)
        clear hA
        go_simp
        try with_reducible rfl
      try simp only [Act.put, List.setIfInBounds_toArray, List.set_cons_zero, List.set_cons_succ]
      refine take1 1 (v := ?_) rfl (by kernel_rfl) (by kernel_rfl) (by kernel_rfl) (fun _ _ _ h => h) (by rfl) ?_ hA0 ?_
      rotate_left
      · intro W9 hA
        have co := hA.1.choose_spec.outer v (by omega)
        clear hA
        go_simp
        try with_reducible rfl
      try simp only [Act.put, List.setIfInBounds_toArray, List.set_cons_zero, List.set_cons_succ]
      refine take1 2 (v := ?_) rfl (by kernel_rfl) (by kernel_rfl) (by kernel_rfl) (fun _ _ _ h => h) (by rfl) ?_ hA0 ?_
      rotate_left
      · intro W9 hA
        have co := hA.1.choose_spec.outer v (by omega)
        clear hA
        go_simp
        try with_reducible rfl
      try simp only [Act.put, List.setIfInBounds_toArray, List.set_cons_zero, List.set_cons_succ]
      refine take1 3 (v := ?_) rfl (by kernel_rfl) (by kernel_rfl) (by kernel_rfl) (fun _ _ _ h => h) (by rfl) ?_ hA0 ?_
      rotate_left
      · intro W9 hA
        have co := hA.1.choose_spec.outer v (by omega)
        clear hA
        go_simp
        try with_reducible rfl
      try simp only [Act.put, List.setIfInBounds_toArray, List.set_cons_zero, List.set_cons_succ]
      refine take1 4 (v := ?_) rfl (by kernel_rfl) (by kernel_rfl) (by kernel_rfl) (fun _ _ _ h => h) (by rfl) ?_ hA0 ?_
      rotate_left
      · intro W9 hA
        have co := hA.1.choose_spec.outer v (by omega)
        clear hA
        go_simp
        try with_reducible rfl
      try simp only [Act.put, List.setIfInBounds_toArray, List.set_cons_zero, List.set_cons_succ]
      refine take1 5 (v := ?_) rfl (by kernel_rfl) (by kernel_rfl) (by kernel_rfl) (fun _ _ _ h => h) (by rfl) ?_ hA0 ?_
      rotate_left
      · intro W9 hA
        have co := hA.1.choose_spec.outer v (by omega)
        clear hA
        go_simp
        try with_reducible rfl
      try simp only [Act.put, List.setIfInBounds_toArray, List.set_cons_zero, List.set_cons_succ]
      refine step1 6 (by kernel_rfl) rfl (fun K hK => ?_)
      go_simp
      refine (HSi.out _).mono ?_
      rintro e W4 ⟨rfl, hb4⟩
      go_wp2_with fail
      have hA1 : (∃ M, Grid W4 (w.heap.size + 1) g (v + 1) m m G2 C2 M) ∧ Duo W4 w.heap.size 41 (.int .i64 (n:Int)) (.int .i64 (s:Int)) ∧ Below w.heap.size w W4 := ⟨⟨_, HG3.out.belowAll hb4⟩, duo_below hA0.2.1 hA0.2.1.lt hb4, hA0.2.2.trans (hb4.mono hA0.2.2.size)⟩
      have HG4 := Lib.hid (HG3.out.belowAll hb4)
      refine hK.out _ _ hA1 ?_
      clear hK K
      try simp only [Act.put, List.setIfInBounds_toArray, List.set_cons_zero, List.set_cons_succ]
      refine take1 7 (v := ?_) rfl (by kernel_rfl) (by kernel_rfl) (by kernel_rfl) (fun _ _ _ h => h) (by rfl) ?_ hA1 ?_
      rotate_left
      · intro W9 hA
        clear hA
        go_simp
        try with_reducible rfl
      try simp only [Act.put, List.setIfInBounds_toArray, List.set_cons_zero, List.set_cons_succ]
      have c1 := HG4.out.inner v v (by omega) hlt
      have c2 := HG4.out.froz v v (by omega) hlt
      have zG := HG4.out.baseG v (by omega)
      refine step1 8 (by kernel_rfl) rfl (fun K hK => ?_)
      go_simp
      have HG5 := Lib.hid ((HG4.out.put v v (q : Int) (by omega) hlt).congr (M' := matE n b v (q : Int) 0) (fun i j hi hj => by
        unfold matE
        by_cases e : i = v
        · subst e
          rw [rowE_start]
          by_cases e2 : j = i
          · subst e2
            rw [if_pos ⟨rfl, rfl⟩, if_pos rfl, if_pos rfl]
          · rw [if_neg (fun h => e2 h.2), if_pos rfl, if_pos rfl, if_neg e2]
        · rw [if_neg (fun h => e h.1), if_neg e, if_neg e]))
      have HD5 := Lib.hid (hA1.2.1.same (Below.heap_setCell W4 ⟨G2 v, v, none⟩ (.int .i64 (q : Int)) w.heap.size (by simp; omega)))
      have HB5 := Lib.hid (hA1.2.2.setCell (p := ⟨G2 v, v, none⟩) (by simp; omega) (.int .i64 (q : Int)))
      refine hK.out _ _ ⟨⟨_, HG5.out⟩, HD5.out, HB5.out⟩ ?_
      clear hK K c1 c2 HG4 hA1 hA0 HG3
      try simp only [Act.put, List.setIfInBounds_toArray, List.set_cons_zero, List.set_cons_succ]
      refine stop1 (by kernel_rfl) ?_
      obtain ⟨W5, hW5⟩ : ∃ W5, W4.setCell ⟨G2 v, v, none⟩ (.int .i64 (q : Int)) = W5 := ⟨_, rfl⟩
      rw [hW5] at HG5 HD5 HB5 ⊢
      clear hW5 zG hb4
      go_wp2
      go_loopw [37] (fun u wr => ∃ x : Nat, x ≤ m ∧ u = .int .i64 (x : Int) ∧ Grid wr (w.heap.size + 1) g (v + 1) m m G2 C2 (matE n b v (q : Int) x) ∧ Duo wr w.heap.size 41 (.int .i64 (n:Int)) (.int .i64 (s:Int)) ∧ Below w.heap.size w wr) (fun u _ => m - (intOf u).toNat)
      case atStart => exact ⟨0, Nat.zero_le _, rfl, HG5.out, HD5.out, HB5.out⟩
      case round =>
        obtain ⟨x, hx, rfl, hG, hD, hB⟩ := hrel
        clear HG5 HD5 HB5
        have HG := Lib.hid hG
        have HD := Lib.hid hD
        have HB := Lib.hid hB
        clear hG hD hB
        by_cases hlx : x < m
        · have d0 := HD.out.cell0
          have hdx : IntKind.i64.wrap ((x : Int) - (v : Int)) = (x : Int) - (v : Int) := IntWalk.i64_in _ ⟨by omega, by omega⟩
          have hdy : wrap64 ((x : Int) - (v : Int)) = (x : Int) - (v : Int) := IntWalk.wrap64_in _ ⟨by omega, by omega⟩
          have HR := Lib.hid (fun W => HRe.out ((x : Int) - (v : Int)) ⟨by omega, by omega⟩ W)
          have hrl := rest_lt n ((x : Int) - (v : Int)) h1
          have HNo := Lib.hid (fun h j => rowE_no n b v (q : Int) x j (by have := HM.out; omega) (by have := HM.out; omega) h)
          have HYe := Lib.hid (fun hne h j => rowE_yes n b v (q : Int) x j (by have := HM.out; omega) (by have := HM.out; omega) hne h)
          have HSelf : Hid (x = v → b.testBit (rest n ((x : Int) - (v : Int))) = false) := Lib.hid (fun e => by
            subst e
            rw [show (x : Int) - (x : Int) = 0 by omega]
            have : rest n 0 = 0 := by unfold rest; simp
            rw [this]; exact h0)
          obtain ⟨r, hr⟩ : ∃ r, rest n ((x : Int) - (v : Int)) = r := ⟨_, rfl⟩
          rw [hr] at HR hrl HNo HYe HSelf
          have HHr := Lib.hid (fun W => HHa.out r (by omega) W)
          clear hr
          cases hbt : b.testBit r
          · rw [hbt] at HHr
            have HE := Lib.hid (HNo.out (.inr hbt))
            clear hbt
            go_wp2_with fail
            refine (HR.out _).mono ?_
            rintro e W6 ⟨rfl, hb6⟩
            have HG6 := Lib.hid ((HG.out.belowAll hb6).congr (M' := matE n b v (q : Int) (x + 1)) (fun i j _ _ => by unfold matE; rw [HE.out j]))
            have HD6 := Lib.hid (duo_below HD.out HD.out.lt hb6)
            have HB6 := Lib.hid (HB.out.trans (hb6.mono HB.out.size))
            clear hb6
            go_wp2_with fail
            refine (HHr.out _).mono ?_
            rintro e W7 ⟨rfl, rfl⟩
            go_wp2
            go_roundw
            case rel => exact ⟨x + 1, by omega, by go_num, HG6.out, HD6.out, HB6.out⟩
            case measure => simp [intOf]; omega
          · rw [hbt] at HHr
            have hne : x ≠ v := fun e => by
              have := HSelf.out e
              rw [hbt] at this; cases this
            have HE := Lib.hid (HYe.out hne hbt)
            clear hbt
            go_wp2_with fail
            refine (HR.out _).mono ?_
            rintro e W6 ⟨rfl, hb6⟩
            have HG6 := Lib.hid (HG.out.belowAll hb6)
            have HD6 := Lib.hid (duo_below HD.out HD.out.lt hb6)
            have HB6 := Lib.hid (HB.out.trans (hb6.mono HB.out.size))
            clear hb6
            go_wp2_with fail
            refine (HHr.out _).mono ?_
            rintro e W7 ⟨rfl, rfl⟩
            have c0 := HG6.out.outer v (by omega)
            have c1 := HG6.out.inner v x (by omega) hlx
            have c2 := HG6.out.froz v x (by omega) hlx
            have zG := HG6.out.baseG v (by omega)
            have i3 : (0 : Int) ≤ (x : Int) := by omega
            have i4 : (x : Int) < (m : Int) := by omega
            have HG7 := Lib.hid ((HG6.out.put v x (-1) (by omega) hlx).congr (M' := matE n b v (q : Int) (x + 1)) (fun i j _ _ => by
              unfold matE
              by_cases e : i = v
              · subst e
                rw [if_pos rfl, if_pos rfl, ← HE.out j]
                by_cases e2 : j = x
                · rw [if_pos ⟨rfl, e2⟩, if_pos e2]
                · rw [if_neg (fun h => e2 h.2), if_neg e2]
              · rw [if_neg (fun h => e h.1), if_neg e, if_neg e]))
            have HD7 := Lib.hid (HD6.out.same (Below.heap_setCell W6 ⟨G2 v, x, none⟩ (.int .i64 (-1)) w.heap.size (by simp; omega)))
            have HB7 := Lib.hid (HB6.out.setCell (p := ⟨G2 v, x, none⟩) (by simp; omega) (.int .i64 (-1)))
            clear hne
            go_wp2
            go_roundw
            case rel => exact ⟨x + 1, by omega, by go_num, HG7.out, HD7.out, HB7.out⟩
            case measure => simp [intOf]; omega
        · obtain rfl : x = m := by omega
          have HG6 := Lib.hid (HG.out.congr (M' := fun i j => entT n b (1 + i) (q : Int) (1 + j)) (fun i j hi hj => by
            unfold matE
            by_cases e : i = v
            · subst e
              rw [if_pos rfl, rowE_end n b i x (q : Int) j hj]
            · rw [if_neg e]))
          go_wp2
          go_roundw
          case rel => exact ⟨v + 1, G2, C2, by omega, by go_num, HG6.out, HD.out, HB.out⟩
          case measure => simp [intOf]; omega
    · obtain rfl : v = m := by omega
      have HG1 := Lib.hid (HG.out.mono (show w.heap.size ≤ w.heap.size + 1 by omega))
      go_wp2
      go_ret
      exact ⟨g, G, C, rfl, HB.out, by rw [HQ.out]; exact HG1.out⟩
end Go.Proofs.Ytookciehnjnmnaa
