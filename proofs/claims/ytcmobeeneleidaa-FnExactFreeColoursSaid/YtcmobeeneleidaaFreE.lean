/- Fair colours: the model's least number. -/
import Derived.Test.YtcmobeeneleidaaFreD
namespace Go.Proofs.Ytcmobeeneleidaa
open Go.RowKit Go.Shelf
set_option linter.unusedVariables false
attribute [local go_sem] Oper.semAt_some
theorem wpList_append_want {ops : Array Oper} {rest : List Oper} {o : Oper} {act : Act} {Q : Exit → Act → World → Prop} (hgd : Region.wanted o (yielded ops act.tmps) = true) (s x : Operand) (ho : o.op = .call { callee := .builtin .append, args := #[s, x], argTypes := #[27, 27] })
    (a : Value) (ys xs : List Int) (W : World) (N g cap b : Nat) (hs : act.eval s = a) (hx : act.eval x = .slice (some ⟨g, 0, none⟩) xs.length cap) (hO : IsInts W N a ys) (hX : IsInts W b (.slice (some ⟨g, 0, none⟩) xs.length cap) xs)
    (hl : ys.length + xs.length ≤ 1000) (hN : N ≤ W.heap.size)
    (h : ∀ (v' : Value) (w1 : World), IsInts w1 N v' (ys ++ xs) → (∀ (v : Value) (zs : List Int) (N' : Nat), IsInts W N' v zs → (v.ownBlock = none ∨ v.ownBlock ≠ a.ownBlock) → IsInts w1 N' v zs) →
      (∀ (B : Nat) (w0 : World), B ≤ N → Below B w0 W → Below B w0 w1) → W.heap.size ≤ w1.heap.size → wpList Try.prog ops Q rest (act.put o.dst v') w1) : wpList Try.prog ops Q (o :: rest) act W :=
  BigFrame.wpList_want hgd fun _ hK => wp_append_any s x ho a ys xs W N g cap b hs hx hO hX hl hN fun v' w1 h1 h2 h3 h4 => hK _ _ (h v' w1 h1 h2 h3 h4)
/-- Whether there are fair colours that begin with xs, a new colour being tried once. -/
def canN (q k : Nat) : Nat → List Int → Nat → Bool
  | 0, _, _ => true
  | m + 1, xs, used => anyN (fun c => okTo q xs c xs.length && canN q k m (xs ++ [(c : Int)]) (max used (c + 1))) (min k (used + 1))
theorem l6fCan_zero (n s k b g cap used : Nat) (xs : List Int) (w : World) (hl : xs.length = n) :
    Calls Try.prog 42 #[.int .i64 (n:Int), .int .i64 (s:Int), .int .i64 (k:Int), .slice (some ⟨g, 0, none⟩) xs.length cap, .int .i64 (used:Int)] w fun e w' => e = .returned (.bool true) ∧ Below w.heap.size w w' := by
  rw [hl]
  have e1 : ((n : Int) == (n : Int)) = true := by simp
  go_enter Try.func42, Try.ntmps42
  go_wp2
  go_ret
  exact ⟨rfl, Below.refl _ _⟩
set_option maxRecDepth 100000 in
set_option maxHeartbeats 1000000 in
theorem l6fCan_lo (m n s k b g cap used : Nat) (xs : List Int) (w : World) (h1 : 1 ≤ n) (h2 : n ≤ 8) (hs : s < 2 ^ n) (hk : k ≤ 1000) (hu : used ≤ 1000) (hl : xs.length + (m + 1) = n) (hmk : used + 1 < k)
    (hI : IsInts w b (.slice (some ⟨g, 0, none⟩) xs.length cap) xs)
    (IH : ∀ (v b' g' cap' : Nat) (W : World), v < k → v ≤ used → IsInts W b' (.slice (some ⟨g', 0, none⟩) (xs ++ [(v : Int)]).length cap') (xs ++ [(v : Int)]) →
      Calls Try.prog 42 #[.int .i64 (n:Int), .int .i64 (s:Int), .int .i64 (k:Int), .slice (some ⟨g', 0, none⟩) (xs ++ [(v : Int)]).length cap', .int .i64 ((max used (v + 1) : Nat) : Int)] W fun e w' => e = .returned (.bool (canN (bothN n s) k m (xs ++ [(v : Int)]) (max used (v + 1)))) ∧ Below W.heap.size W w') :
    Calls Try.prog 42 #[.int .i64 (n:Int), .int .i64 (s:Int), .int .i64 (k:Int), .slice (some ⟨g, 0, none⟩) xs.length cap, .int .i64 (used:Int)] w fun e w' => e = .returned (.bool (canN (bothN n s) k (m + 1) xs used)) ∧ Below w.heap.size w w' := by
  have hmx : Try.prog.follows .mixedOrders = true := by kernel_rfl
  have hpw := pow_le n (by omega)
  have HBo := Lib.hid (fun W => l2Both_any n s W h1 (by omega) hs)
  have hbl := bothN_lt n s h1 hs
  have HI := Lib.hid hI
  have HIH := Lib.hid IH
  have HWe : Hid (canN (bothN n s) k (m + 1) xs used = anyN (fun c => okTo (bothN n s) xs c xs.length && canN (bothN n s) k m (xs ++ [(c : Int)]) (max used (c + 1))) (min k (used + 1))) := Lib.hid rfl
  generalize bothN n s = q at *
  have hgl := (World.ownsRow.lt hI g rfl).2
  have HLs : Hid (([] : List Int).length + xs.length ≤ 1000) := Lib.hid (by simp; omega)
  have HLs2 : Hid (∀ v : Nat, xs.length + [(v : Int)].length ≤ 1000) := Lib.hid (fun v => by simp; omega)
  obtain ⟨L, hL⟩ : ∃ L, xs.length = L := ⟨_, rfl⟩
  rw [hL] at HI hl HWe ⊢
  have HL := Lib.hid hL
  have e1 : ((L : Int) == (n : Int)) = false := beq_cast_ne (by omega)
  obtain ⟨canF, hcanF⟩ : ∃ canF : Nat → Bool, canF = fun c => okTo q xs c L && canN q k m (xs ++ [(c : Int)]) (max used (c + 1)) := ⟨_, rfl⟩
  rw [← hcanF] at HWe
  have HCan : Hid (∀ c, canF c = (okTo q xs c L && canN q k m (xs ++ [(c : Int)]) (max used (c + 1)))) := Lib.hid (fun c => by rw [hcanF])
  obtain ⟨K, hK⟩ : ∃ K, min k (used + 1) = K := ⟨_, rfl⟩
  rw [hK] at HWe
  have hKe : K = used + 1 := by omega
  rw [hKe] at HWe
  clear hKe hK
  have m1 : (used : Int) + 1 < (k : Int) := by omega
  have m2 := decide_eq_true m1
  have m3 : decide (used + 1 < k) = true := decide_eq_true hmk
  have p0 : IntKind.i64.wrap ((used : Int) + 1) = (used : Int) + 1 := IntWalk.i64_in _ ⟨by omega, by omega⟩
  have HEnd : Hid ((∀ d, d < used + 1 → canF d = false) → canN q k (m + 1) xs used = false) := Lib.hid (fun h => by rw [HWe.out]; exact anyN_false canF (used + 1) h)
  have HYes : Hid (∀ d, d < used + 1 → canF d = true → canN q k (m + 1) xs used = true) := Lib.hid (fun d hd h => by rw [HWe.out]; exact anyN_true canF (used + 1) d hd h)
  have HMa : Hid (∀ c : Nat, True) := Lib.hid (fun _ => trivial)
  clear hI hL IH HWe hcanF hmk
  go_enter Try.func42, Try.ntmps42
  go_wp2_with (go_at_call 37; refine (HBo.out _).mono ?_; rintro e w' ⟨rfl, rfl⟩)
  --GEN40Clo
  go_loopw [13] (fun vs wr => ∃ c : Nat, c ≤ (used + 1) ∧ vs = .int .i64 (c : Int) ∧ Below w.heap.size w wr ∧ Hid (∀ d, d < c → canF d = false)) (fun vs _ => (used + 1) - (intOf vs).toNat)
  case atStart => exact ⟨0, Nat.zero_le _, rfl, Below.refl _ _, Lib.hid (fun d hd => absurd hd (by omega))⟩
  case round =>
    obtain ⟨c, hc, rfl, hB, HNo⟩ := hrel
    have HB := Lib.hid hB
    have HIr := Lib.hid (HI.out.belowAll hB)
    have hsz := hB.size
    clear hB
    by_cases hlt : c < (used + 1)
    · have hck : c < k := by omega
      have hcu : c ≤ used := by omega
      have c1 : (c : Int) < (used : Int) + 1 := by omega
      have c2 := decide_eq_true c1
      have c3 : decide (c < (used + 1)) = true := decide_eq_true hlt
      go_wp2
      go_loop [14, 15] (fun u v => ∃ j : Nat, j ≤ L ∧ u = .bool (okTo q xs c j) ∧ v = .int .i64 (j : Int)) (fun _ v => L - (intOf v).toNat)
      case atStart => exact ⟨0, Nat.zero_le _, rfl, rfl⟩
      case round =>
        obtain ⟨j, hj, rfl, rfl⟩ := hrel
        by_cases hjl : j < L
        · have HOk : Hid (okTo q xs c (j + 1) = (okTo q xs c j && (!q.testBit (L - j) || !decide (xs.getD j 0 = (c : Int))))) := Lib.hid (by rw [← HL.out]; rfl)
          have cj := HIr.out.cell (i := j) (by rw [HL.out]; exact hjl)
          obtain ⟨Dd, hD⟩ : ∃ Dd, L - j = Dd := ⟨_, rfl⟩
          rw [hD] at HOk
          have dI : (L : Int) - (j : Int) = (Dd : Int) := by omega
          have d1 : IntKind.i64.wrap ((L : Int) - (j : Int)) = (Dd : Int) := by rw [dI]; exact IntWalk.i64_in _ ⟨by omega, by omega⟩
          have d2 : wrap64 ((L : Int) - (j : Int)) = (Dd : Int) := by rw [dI]; exact IntWalk.wrap64_in _ ⟨by omega, by omega⟩
          have hD64 : min Dd 64 = Dd := by omega
          have hbt := has_nat0 q Dd (by omega)
          have i1 : (0 : Int) ≤ (j : Int) := by omega
          have i2 : (j : Int) < (L : Int) := by omega
          have i3 : (0 : Int) ≤ (Dd : Int) := by omega
          generalize xs.getD j 0 = z at *
          clear hD dI
          cases ho : okTo q xs c j
          · rw [ho] at HOk
            have HOk2 : Hid (okTo q xs c (j + 1) = false) := HOk
            clear HOk ho hbt
            go_wp2
            go_round
            case rel => exact ⟨j + 1, by omega, by rw [HOk2.out], by go_num⟩
            case measure => simp [intOf]; omega
          · rw [ho] at HOk
            cases hb : q.testBit Dd
            · rw [hb] at hbt HOk
              have HOk2 : Hid (okTo q xs c (j + 1) = true) := HOk
              clear HOk ho hb
              go_wp2
              go_round
              case rel => exact ⟨j + 1, by omega, by rw [HOk2.out], by go_num⟩
              case measure => simp [intOf]; omega
            · rw [hb] at hbt HOk
              by_cases hz : z = (c : Int)
              · rw [decide_eq_true hz] at HOk
                have HOk2 : Hid (okTo q xs c (j + 1) = false) := HOk
                have e1 : (z == (c : Int)) = true := by simp [hz]
                have e2 : (z != (c : Int)) = false := by simp [hz]
                clear HOk ho hb hz
                go_wp2
                go_round
                case rel => exact ⟨j + 1, by omega, by rw [HOk2.out], by go_num⟩
                case measure => simp [intOf]; omega
              · rw [decide_eq_false hz] at HOk
                have HOk2 : Hid (okTo q xs c (j + 1) = true) := HOk
                have e1 : (z == (c : Int)) = false := by simp [hz]
                have e2 : (z != (c : Int)) = true := by simp [hz]
                clear HOk ho hb hz
                go_wp2
                go_round
                case rel => exact ⟨j + 1, by omega, by rw [HOk2.out], by go_num⟩
                case measure => simp [intOf]; omega
        · obtain rfl : j = L := by omega
          have HCf := Lib.hid (HCan.out c)
          have HNo2 : Hid (canF c = false → ∀ d, d < c + 1 → canF d = false) := Lib.hid (fun h d hd => by
            by_cases e : d = c
            · subst e; exact h
            · exact HNo.out d (by omega))
          cases ho : okTo q xs c j
          · rw [ho] at HCf
            have HN3 := Lib.hid (HNo2.out HCf.out)
            clear HCf HNo2 ho
            go_wp2
            go_roundw
            case rel => exact ⟨c + 1, by omega, by go_num, HB.out, HN3⟩
            case measure => simp [intOf]; omega
          · rw [ho] at HCf
            have HIH1 := Lib.hid (fun b' g' cap' W h => HIH.out c b' g' cap' W hck hcu h)
            have p1 : IntKind.i64.wrap ((c : Int) + 1) = (c : Int) + 1 := IntWalk.i64_in _ ⟨by omega, by omega⟩
            have hHB := HB.out
            have hBa := hHB.alloc hsz (.cells #[] 3)
            have HIa := Lib.hid (show IsInts (wr.alloc (.cells #[] 3)) b (.slice (some ⟨g, 0, none⟩) j cap) xs from World.ownsRow.alloc HIr.out _)
            have HX1 := Lib.hid (nil_made wr wr.heap.size (Nat.le_refl _))
            have hzW : wr.heap.size ≤ (wr.alloc (.cells #[] 3)).heap.size := by simp
            have HBa := Lib.hid hBa
            have HzW := Lib.hid hzW
            have HYc := Lib.hid (HYes.out c hlt)
            clear hBa hzW hHB
            by_cases hmu : used < c + 1
            · have hM : max used (c + 1) = c + 1 := by omega
              have x1 : (used : Int) < (c : Int) + 1 := by omega
              have x2 := decide_eq_true x1
              have x3 : decide (used < c + 1) = true := decide_eq_true hmu
              rw [hM] at HIH1 HCf
              have HIH2 := Lib.hid (fun b' g' cap' W h => HIH1.out b' g' cap' W h)
              rw [Int.natCast_add] at HIH2
              have HCf2 : Hid (canF c = canN q k m (xs ++ [(c : Int)]) (c + 1)) := HCf
              generalize canN q k m (xs ++ [(c : Int)]) (c + 1) = y at *
              clear hM hmu HCf ho HIH1
              go_wp2_with (first
                | (at_builtin; refine wpList_append_want rfl (.tmp 60) (.tmp 61) rfl (.slice (some ⟨wr.heap.size, 0, none⟩) 0 0) [] xs (wr.alloc (.cells #[] 3)) wr.heap.size g cap b rfl (by rw [HL.out]; rfl) HX1.out (by rw [HL.out]; exact HIa.out) HLs.out HzW.out (fun v2 W5 hX2 hkeep2 hbelow2 hgrow2 => ?_);
                    have HX2 := Lib.hid (show IsInts W5 wr.heap.size v2 xs from hX2); have HB5 := Lib.hid (hbelow2 _ _ hsz HBa.out); have HG5 := Lib.hid (Nat.le_trans HzW.out hgrow2); clear hX2 hkeep2 hbelow2 hgrow2)
                | (at_builtin; refine wpList_append_want rfl (.tmp 62) (.tmp 64) rfl v2 xs [(c : Int)] (W5.alloc (.cells #[.int .i64 (c : Int)] 3)) wr.heap.size W5.heap.size 1 wr.heap.size rfl rfl (World.ownsRow.alloc HX2.out _) (lit_one W5 wr.heap.size (c : Int) HG5.out) (HLs2.out c) (Nat.le_trans HG5.out (by simp)) (fun v3 W7 hX3 hkeep3 hbelow3 hgrow3 => ?_);
                    have HX3 := Lib.hid hX3; have HB7 := Lib.hid (hbelow3 _ _ hsz (HB5.out.alloc (Nat.le_trans hsz HG5.out) (.cells #[.int .i64 (c : Int)] 3))); clear hX3 hkeep3 hbelow3 hgrow3)
                | fail)
              clear HX2 HIa HX1
              rcases HX3.out.shape with ⟨_, e⟩ | ⟨g3, cap3, hv3, hg31, hg32, hg33⟩
              · exact absurd e (by simp)
              subst hv3
              refine (HIH2.out _ _ _ _ HX3.out).mono ?_
              rintro e W9 ⟨rfl, hb9⟩
              have HB9 := Lib.hid (HB7.out.trans (hb9.mono HB7.out.size))
              clear hb9 hg33
              cases hy : y
              · have HN3 := Lib.hid (HNo2.out (by rw [HCf2.out, hy]))
                clear HCf2 HNo2 hy HYc
                go_wp2
                go_roundw
                case rel => exact ⟨c + 1, by omega, by go_num, HB9.out, HN3⟩
                case measure => simp [intOf]; omega
              · have HF := Lib.hid (HYc.out (by rw [HCf2.out, hy]))
                clear HCf2 HNo2 hy HYc
                go_wp2
                go_ret
                exact ⟨ret_bool HF.out.symm, HB9.out⟩
            · have hM : max used (c + 1) = used := by omega
              have x1 : ¬ (used : Int) < (c : Int) + 1 := by omega
              have x2 := decide_eq_false x1
              have x3 : decide (used < c + 1) = false := decide_eq_false hmu
              rw [hM] at HIH1 HCf
              have HIH2 := Lib.hid (fun b' g' cap' W h => HIH1.out b' g' cap' W h)
              have HCf2 : Hid (canF c = canN q k m (xs ++ [(c : Int)]) used) := HCf
              generalize canN q k m (xs ++ [(c : Int)]) used = y at *
              clear hM hmu HCf ho HIH1
              go_wp2_with (first
                | (at_builtin; refine wpList_append_want rfl (.tmp 60) (.tmp 61) rfl (.slice (some ⟨wr.heap.size, 0, none⟩) 0 0) [] xs (wr.alloc (.cells #[] 3)) wr.heap.size g cap b rfl (by rw [HL.out]; rfl) HX1.out (by rw [HL.out]; exact HIa.out) HLs.out HzW.out (fun v2 W5 hX2 hkeep2 hbelow2 hgrow2 => ?_);
                    have HX2 := Lib.hid (show IsInts W5 wr.heap.size v2 xs from hX2); have HB5 := Lib.hid (hbelow2 _ _ hsz HBa.out); have HG5 := Lib.hid (Nat.le_trans HzW.out hgrow2); clear hX2 hkeep2 hbelow2 hgrow2)
                | (at_builtin; refine wpList_append_want rfl (.tmp 62) (.tmp 64) rfl v2 xs [(c : Int)] (W5.alloc (.cells #[.int .i64 (c : Int)] 3)) wr.heap.size W5.heap.size 1 wr.heap.size rfl rfl (World.ownsRow.alloc HX2.out _) (lit_one W5 wr.heap.size (c : Int) HG5.out) (HLs2.out c) (Nat.le_trans HG5.out (by simp)) (fun v3 W7 hX3 hkeep3 hbelow3 hgrow3 => ?_);
                    have HX3 := Lib.hid hX3; have HB7 := Lib.hid (hbelow3 _ _ hsz (HB5.out.alloc (Nat.le_trans hsz HG5.out) (.cells #[.int .i64 (c : Int)] 3))); clear hX3 hkeep3 hbelow3 hgrow3)
                | fail)
              clear HX2 HIa HX1
              rcases HX3.out.shape with ⟨_, e⟩ | ⟨g3, cap3, hv3, hg31, hg32, hg33⟩
              · exact absurd e (by simp)
              subst hv3
              refine (HIH2.out _ _ _ _ HX3.out).mono ?_
              rintro e W9 ⟨rfl, hb9⟩
              have HB9 := Lib.hid (HB7.out.trans (hb9.mono HB7.out.size))
              clear hb9 hg33
              cases hy : y
              · have HN3 := Lib.hid (HNo2.out (by rw [HCf2.out, hy]))
                clear HCf2 HNo2 hy HYc
                go_wp2
                go_roundw
                case rel => exact ⟨c + 1, by omega, by go_num, HB9.out, HN3⟩
                case measure => simp [intOf]; omega
              · have HF := Lib.hid (HYc.out (by rw [HCf2.out, hy]))
                clear HCf2 HNo2 hy HYc
                go_wp2
                go_ret
                exact ⟨ret_bool HF.out.symm, HB9.out⟩
    · obtain rfl : c = (used + 1) := by omega
      have HF := Lib.hid (HEnd.out HNo.out)
      go_wp2
      go_ret
      exact ⟨ret_bool HF.out.symm, HB.out⟩
set_option maxRecDepth 100000 in
set_option maxHeartbeats 1000000 in
theorem l6fCan_hi (m n s k b g cap used : Nat) (xs : List Int) (w : World) (h1 : 1 ≤ n) (h2 : n ≤ 8) (hs : s < 2 ^ n) (hk : k ≤ 1000) (hu : used ≤ 1000) (hl : xs.length + (m + 1) = n) (hmk : ¬ used + 1 < k)
    (hI : IsInts w b (.slice (some ⟨g, 0, none⟩) xs.length cap) xs)
    (IH : ∀ (v b' g' cap' : Nat) (W : World), v < k → v ≤ used → IsInts W b' (.slice (some ⟨g', 0, none⟩) (xs ++ [(v : Int)]).length cap') (xs ++ [(v : Int)]) →
      Calls Try.prog 42 #[.int .i64 (n:Int), .int .i64 (s:Int), .int .i64 (k:Int), .slice (some ⟨g', 0, none⟩) (xs ++ [(v : Int)]).length cap', .int .i64 ((max used (v + 1) : Nat) : Int)] W fun e w' => e = .returned (.bool (canN (bothN n s) k m (xs ++ [(v : Int)]) (max used (v + 1)))) ∧ Below W.heap.size W w') :
    Calls Try.prog 42 #[.int .i64 (n:Int), .int .i64 (s:Int), .int .i64 (k:Int), .slice (some ⟨g, 0, none⟩) xs.length cap, .int .i64 (used:Int)] w fun e w' => e = .returned (.bool (canN (bothN n s) k (m + 1) xs used)) ∧ Below w.heap.size w w' := by
  have hmx : Try.prog.follows .mixedOrders = true := by kernel_rfl
  have hpw := pow_le n (by omega)
  have HBo := Lib.hid (fun W => l2Both_any n s W h1 (by omega) hs)
  have hbl := bothN_lt n s h1 hs
  have HI := Lib.hid hI
  have HIH := Lib.hid IH
  have HWe : Hid (canN (bothN n s) k (m + 1) xs used = anyN (fun c => okTo (bothN n s) xs c xs.length && canN (bothN n s) k m (xs ++ [(c : Int)]) (max used (c + 1))) (min k (used + 1))) := Lib.hid rfl
  generalize bothN n s = q at *
  have hgl := (World.ownsRow.lt hI g rfl).2
  have HLs : Hid (([] : List Int).length + xs.length ≤ 1000) := Lib.hid (by simp; omega)
  have HLs2 : Hid (∀ v : Nat, xs.length + [(v : Int)].length ≤ 1000) := Lib.hid (fun v => by simp; omega)
  obtain ⟨L, hL⟩ : ∃ L, xs.length = L := ⟨_, rfl⟩
  rw [hL] at HI hl HWe ⊢
  have HL := Lib.hid hL
  have e1 : ((L : Int) == (n : Int)) = false := beq_cast_ne (by omega)
  obtain ⟨canF, hcanF⟩ : ∃ canF : Nat → Bool, canF = fun c => okTo q xs c L && canN q k m (xs ++ [(c : Int)]) (max used (c + 1)) := ⟨_, rfl⟩
  rw [← hcanF] at HWe
  have HCan : Hid (∀ c, canF c = (okTo q xs c L && canN q k m (xs ++ [(c : Int)]) (max used (c + 1)))) := Lib.hid (fun c => by rw [hcanF])
  obtain ⟨K, hK⟩ : ∃ K, min k (used + 1) = K := ⟨_, rfl⟩
  rw [hK] at HWe
  have hKe : K = k := by omega
  rw [hKe] at HWe
  clear hKe hK
  have m1 : ¬ (used : Int) + 1 < (k : Int) := by omega
  have m2 := decide_eq_false m1
  have m3 : decide (used + 1 < k) = false := decide_eq_false hmk
  have p0 : IntKind.i64.wrap ((used : Int) + 1) = (used : Int) + 1 := IntWalk.i64_in _ ⟨by omega, by omega⟩
  have HEnd : Hid ((∀ d, d < k → canF d = false) → canN q k (m + 1) xs used = false) := Lib.hid (fun h => by rw [HWe.out]; exact anyN_false canF k h)
  have HYes : Hid (∀ d, d < k → canF d = true → canN q k (m + 1) xs used = true) := Lib.hid (fun d hd h => by rw [HWe.out]; exact anyN_true canF k d hd h)
  have HMa : Hid (∀ c : Nat, True) := Lib.hid (fun _ => trivial)
  clear hI hL IH HWe hcanF
  go_enter Try.func42, Try.ntmps42
  go_wp2_with (go_at_call 37; refine (HBo.out _).mono ?_; rintro e w' ⟨rfl, rfl⟩)
  --GEN40Chi
  go_loopw [13] (fun vs wr => ∃ c : Nat, c ≤ k ∧ vs = .int .i64 (c : Int) ∧ Below w.heap.size w wr ∧ Hid (∀ d, d < c → canF d = false)) (fun vs _ => k - (intOf vs).toNat)
  case atStart => exact ⟨0, Nat.zero_le _, rfl, Below.refl _ _, Lib.hid (fun d hd => absurd hd (by omega))⟩
  case round =>
    obtain ⟨c, hc, rfl, hB, HNo⟩ := hrel
    have HB := Lib.hid hB
    have HIr := Lib.hid (HI.out.belowAll hB)
    have hsz := hB.size
    clear hB
    by_cases hlt : c < k
    · have hck : c < k := by omega
      have hcu : c ≤ used := by omega
      have c1 : (c : Int) < (k : Int) := by omega
      have c2 := decide_eq_true c1
      have c3 : decide (c < k) = true := decide_eq_true hlt
      go_wp2
      go_loop [14, 15] (fun u v => ∃ j : Nat, j ≤ L ∧ u = .bool (okTo q xs c j) ∧ v = .int .i64 (j : Int)) (fun _ v => L - (intOf v).toNat)
      case atStart => exact ⟨0, Nat.zero_le _, rfl, rfl⟩
      case round =>
        obtain ⟨j, hj, rfl, rfl⟩ := hrel
        by_cases hjl : j < L
        · have HOk : Hid (okTo q xs c (j + 1) = (okTo q xs c j && (!q.testBit (L - j) || !decide (xs.getD j 0 = (c : Int))))) := Lib.hid (by rw [← HL.out]; rfl)
          have cj := HIr.out.cell (i := j) (by rw [HL.out]; exact hjl)
          obtain ⟨Dd, hD⟩ : ∃ Dd, L - j = Dd := ⟨_, rfl⟩
          rw [hD] at HOk
          have dI : (L : Int) - (j : Int) = (Dd : Int) := by omega
          have d1 : IntKind.i64.wrap ((L : Int) - (j : Int)) = (Dd : Int) := by rw [dI]; exact IntWalk.i64_in _ ⟨by omega, by omega⟩
          have d2 : wrap64 ((L : Int) - (j : Int)) = (Dd : Int) := by rw [dI]; exact IntWalk.wrap64_in _ ⟨by omega, by omega⟩
          have hD64 : min Dd 64 = Dd := by omega
          have hbt := has_nat0 q Dd (by omega)
          have i1 : (0 : Int) ≤ (j : Int) := by omega
          have i2 : (j : Int) < (L : Int) := by omega
          have i3 : (0 : Int) ≤ (Dd : Int) := by omega
          generalize xs.getD j 0 = z at *
          clear hD dI
          cases ho : okTo q xs c j
          · rw [ho] at HOk
            have HOk2 : Hid (okTo q xs c (j + 1) = false) := HOk
            clear HOk ho hbt
            go_wp2
            go_round
            case rel => exact ⟨j + 1, by omega, by rw [HOk2.out], by go_num⟩
            case measure => simp [intOf]; omega
          · rw [ho] at HOk
            cases hb : q.testBit Dd
            · rw [hb] at hbt HOk
              have HOk2 : Hid (okTo q xs c (j + 1) = true) := HOk
              clear HOk ho hb
              go_wp2
              go_round
              case rel => exact ⟨j + 1, by omega, by rw [HOk2.out], by go_num⟩
              case measure => simp [intOf]; omega
            · rw [hb] at hbt HOk
              by_cases hz : z = (c : Int)
              · rw [decide_eq_true hz] at HOk
                have HOk2 : Hid (okTo q xs c (j + 1) = false) := HOk
                have e1 : (z == (c : Int)) = true := by simp [hz]
                have e2 : (z != (c : Int)) = false := by simp [hz]
                clear HOk ho hb hz
                go_wp2
                go_round
                case rel => exact ⟨j + 1, by omega, by rw [HOk2.out], by go_num⟩
                case measure => simp [intOf]; omega
              · rw [decide_eq_false hz] at HOk
                have HOk2 : Hid (okTo q xs c (j + 1) = true) := HOk
                have e1 : (z == (c : Int)) = false := by simp [hz]
                have e2 : (z != (c : Int)) = true := by simp [hz]
                clear HOk ho hb hz
                go_wp2
                go_round
                case rel => exact ⟨j + 1, by omega, by rw [HOk2.out], by go_num⟩
                case measure => simp [intOf]; omega
        · obtain rfl : j = L := by omega
          have HCf := Lib.hid (HCan.out c)
          have HNo2 : Hid (canF c = false → ∀ d, d < c + 1 → canF d = false) := Lib.hid (fun h d hd => by
            by_cases e : d = c
            · subst e; exact h
            · exact HNo.out d (by omega))
          cases ho : okTo q xs c j
          · rw [ho] at HCf
            have HN3 := Lib.hid (HNo2.out HCf.out)
            clear HCf HNo2 ho
            go_wp2
            go_roundw
            case rel => exact ⟨c + 1, by omega, by go_num, HB.out, HN3⟩
            case measure => simp [intOf]; omega
          · rw [ho] at HCf
            have HIH1 := Lib.hid (fun b' g' cap' W h => HIH.out c b' g' cap' W hck hcu h)
            have p1 : IntKind.i64.wrap ((c : Int) + 1) = (c : Int) + 1 := IntWalk.i64_in _ ⟨by omega, by omega⟩
            have hHB := HB.out
            have hBa := hHB.alloc hsz (.cells #[] 3)
            have HIa := Lib.hid (show IsInts (wr.alloc (.cells #[] 3)) b (.slice (some ⟨g, 0, none⟩) j cap) xs from World.ownsRow.alloc HIr.out _)
            have HX1 := Lib.hid (nil_made wr wr.heap.size (Nat.le_refl _))
            have hzW : wr.heap.size ≤ (wr.alloc (.cells #[] 3)).heap.size := by simp
            have HBa := Lib.hid hBa
            have HzW := Lib.hid hzW
            have HYc := Lib.hid (HYes.out c hlt)
            clear hBa hzW hHB
            by_cases hmu : used < c + 1
            · have hM : max used (c + 1) = c + 1 := by omega
              have x1 : (used : Int) < (c : Int) + 1 := by omega
              have x2 := decide_eq_true x1
              have x3 : decide (used < c + 1) = true := decide_eq_true hmu
              rw [hM] at HIH1 HCf
              have HIH2 := Lib.hid (fun b' g' cap' W h => HIH1.out b' g' cap' W h)
              rw [Int.natCast_add] at HIH2
              have HCf2 : Hid (canF c = canN q k m (xs ++ [(c : Int)]) (c + 1)) := HCf
              generalize canN q k m (xs ++ [(c : Int)]) (c + 1) = y at *
              clear hM hmu HCf ho HIH1
              go_wp2_with (first
                | (at_builtin; refine wpList_append_want rfl (.tmp 60) (.tmp 61) rfl (.slice (some ⟨wr.heap.size, 0, none⟩) 0 0) [] xs (wr.alloc (.cells #[] 3)) wr.heap.size g cap b rfl (by rw [HL.out]; rfl) HX1.out (by rw [HL.out]; exact HIa.out) HLs.out HzW.out (fun v2 W5 hX2 hkeep2 hbelow2 hgrow2 => ?_);
                    have HX2 := Lib.hid (show IsInts W5 wr.heap.size v2 xs from hX2); have HB5 := Lib.hid (hbelow2 _ _ hsz HBa.out); have HG5 := Lib.hid (Nat.le_trans HzW.out hgrow2); clear hX2 hkeep2 hbelow2 hgrow2)
                | (at_builtin; refine wpList_append_want rfl (.tmp 62) (.tmp 64) rfl v2 xs [(c : Int)] (W5.alloc (.cells #[.int .i64 (c : Int)] 3)) wr.heap.size W5.heap.size 1 wr.heap.size rfl rfl (World.ownsRow.alloc HX2.out _) (lit_one W5 wr.heap.size (c : Int) HG5.out) (HLs2.out c) (Nat.le_trans HG5.out (by simp)) (fun v3 W7 hX3 hkeep3 hbelow3 hgrow3 => ?_);
                    have HX3 := Lib.hid hX3; have HB7 := Lib.hid (hbelow3 _ _ hsz (HB5.out.alloc (Nat.le_trans hsz HG5.out) (.cells #[.int .i64 (c : Int)] 3))); clear hX3 hkeep3 hbelow3 hgrow3)
                | fail)
              clear HX2 HIa HX1
              rcases HX3.out.shape with ⟨_, e⟩ | ⟨g3, cap3, hv3, hg31, hg32, hg33⟩
              · exact absurd e (by simp)
              subst hv3
              refine (HIH2.out _ _ _ _ HX3.out).mono ?_
              rintro e W9 ⟨rfl, hb9⟩
              have HB9 := Lib.hid (HB7.out.trans (hb9.mono HB7.out.size))
              clear hb9 hg33
              cases hy : y
              · have HN3 := Lib.hid (HNo2.out (by rw [HCf2.out, hy]))
                clear HCf2 HNo2 hy HYc
                go_wp2
                go_roundw
                case rel => exact ⟨c + 1, by omega, by go_num, HB9.out, HN3⟩
                case measure => simp [intOf]; omega
              · have HF := Lib.hid (HYc.out (by rw [HCf2.out, hy]))
                clear HCf2 HNo2 hy HYc
                go_wp2
                go_ret
                exact ⟨ret_bool HF.out.symm, HB9.out⟩
            · have hM : max used (c + 1) = used := by omega
              have x1 : ¬ (used : Int) < (c : Int) + 1 := by omega
              have x2 := decide_eq_false x1
              have x3 : decide (used < c + 1) = false := decide_eq_false hmu
              rw [hM] at HIH1 HCf
              have HIH2 := Lib.hid (fun b' g' cap' W h => HIH1.out b' g' cap' W h)
              have HCf2 : Hid (canF c = canN q k m (xs ++ [(c : Int)]) used) := HCf
              generalize canN q k m (xs ++ [(c : Int)]) used = y at *
              clear hM hmu HCf ho HIH1
              go_wp2_with (first
                | (at_builtin; refine wpList_append_want rfl (.tmp 60) (.tmp 61) rfl (.slice (some ⟨wr.heap.size, 0, none⟩) 0 0) [] xs (wr.alloc (.cells #[] 3)) wr.heap.size g cap b rfl (by rw [HL.out]; rfl) HX1.out (by rw [HL.out]; exact HIa.out) HLs.out HzW.out (fun v2 W5 hX2 hkeep2 hbelow2 hgrow2 => ?_);
                    have HX2 := Lib.hid (show IsInts W5 wr.heap.size v2 xs from hX2); have HB5 := Lib.hid (hbelow2 _ _ hsz HBa.out); have HG5 := Lib.hid (Nat.le_trans HzW.out hgrow2); clear hX2 hkeep2 hbelow2 hgrow2)
                | (at_builtin; refine wpList_append_want rfl (.tmp 62) (.tmp 64) rfl v2 xs [(c : Int)] (W5.alloc (.cells #[.int .i64 (c : Int)] 3)) wr.heap.size W5.heap.size 1 wr.heap.size rfl rfl (World.ownsRow.alloc HX2.out _) (lit_one W5 wr.heap.size (c : Int) HG5.out) (HLs2.out c) (Nat.le_trans HG5.out (by simp)) (fun v3 W7 hX3 hkeep3 hbelow3 hgrow3 => ?_);
                    have HX3 := Lib.hid hX3; have HB7 := Lib.hid (hbelow3 _ _ hsz (HB5.out.alloc (Nat.le_trans hsz HG5.out) (.cells #[.int .i64 (c : Int)] 3))); clear hX3 hkeep3 hbelow3 hgrow3)
                | fail)
              clear HX2 HIa HX1
              rcases HX3.out.shape with ⟨_, e⟩ | ⟨g3, cap3, hv3, hg31, hg32, hg33⟩
              · exact absurd e (by simp)
              subst hv3
              refine (HIH2.out _ _ _ _ HX3.out).mono ?_
              rintro e W9 ⟨rfl, hb9⟩
              have HB9 := Lib.hid (HB7.out.trans (hb9.mono HB7.out.size))
              clear hb9 hg33
              cases hy : y
              · have HN3 := Lib.hid (HNo2.out (by rw [HCf2.out, hy]))
                clear HCf2 HNo2 hy HYc
                go_wp2
                go_roundw
                case rel => exact ⟨c + 1, by omega, by go_num, HB9.out, HN3⟩
                case measure => simp [intOf]; omega
              · have HF := Lib.hid (HYc.out (by rw [HCf2.out, hy]))
                clear HCf2 HNo2 hy HYc
                go_wp2
                go_ret
                exact ⟨ret_bool HF.out.symm, HB9.out⟩
    · obtain rfl : c = k := by omega
      have HF := Lib.hid (HEnd.out HNo.out)
      go_wp2
      go_ret
      exact ⟨ret_bool HF.out.symm, HB.out⟩
end Go.Proofs.Ytcmobeeneleidaa
