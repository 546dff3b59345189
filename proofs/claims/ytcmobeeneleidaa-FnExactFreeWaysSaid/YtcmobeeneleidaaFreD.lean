/- Fair colours: the model's functions. -/
import Derived.Test.YtcmobeeneleidaaFreC
import Derived.Test.YtcmobeeneleidaaRndI
namespace Go.Proofs.Ytcmobeeneleidaa
open Go.RowKit Go.Shelf
set_option linter.unusedVariables false
attribute [local go_sem] Oper.semAt_some
theorem wpList_append_any {ops : Array Oper} {rest : List Oper} {o : Oper} {act : Act} {Q : Exit → Act → World → Prop} (hgd : o.guard = none) (s x : Operand) (ho : o.op = .call { callee := .builtin .append, args := #[s, x], argTypes := #[27, 27] })
    (a : Value) (ys xs : List Int) (W : World) (N g cap b : Nat) (hs : act.eval s = a) (hx : act.eval x = .slice (some ⟨g, 0, none⟩) xs.length cap) (hO : IsInts W N a ys) (hX : IsInts W b (.slice (some ⟨g, 0, none⟩) xs.length cap) xs)
    (hl : ys.length + xs.length ≤ 1000) (hN : N ≤ W.heap.size)
    (h : ∀ (v' : Value) (w1 : World), IsInts w1 N v' (ys ++ xs) → (∀ (v : Value) (zs : List Int) (N' : Nat), IsInts W N' v zs → (v.ownBlock = none ∨ v.ownBlock ≠ a.ownBlock) → IsInts w1 N' v zs) →
      (∀ (B : Nat) (w0 : World), B ≤ N → Below B w0 W → Below B w0 w1) → W.heap.size ≤ w1.heap.size → wpList Try.prog ops Q rest (act.put o.dst v') w1) : wpList Try.prog ops Q (o :: rest) act W :=
  wpList_plain hgd fun _ hK => wp_append_any s x ho a ys xs W N g cap b hs hx hO hX hl hN fun v' w1 h1 h2 h3 h4 => hK _ _ (h v' w1 h1 h2 h3 h4)
/-- Whether the colour c is fair behind the colours xs, as far as the first j of them go; q are both steps. -/
def okTo (q : Nat) (xs : List Int) (c : Nat) : Nat → Bool
  | 0 => true
  | j + 1 => okTo q xs c j && (!q.testBit (xs.length - j) || !decide (xs.getD j 0 = (c : Int)))
/-- How many ways lead on, m colours being open. -/
def waysN (q k : Nat) : Nat → List Int → Nat
  | 0, _ => 1
  | m + 1, xs => sumTo (fun c => if okTo q xs c xs.length then waysN q k m (xs ++ [(c : Int)]) else 0) k
theorem csumTo_le (f : Nat → Nat) (b k : Nat) (h : ∀ v, v < k → f v ≤ b) : sumTo f k ≤ k * b := by
  induction k with
  | zero => simp [sumTo]
  | succ k ih =>
    have e : sumTo f (k + 1) = sumTo f k + f k := rfl
    have := ih fun v hv => h v (by omega)
    have := h k (by omega)
    rw [e, Nat.succ_mul]
    omega
theorem cways_le (q k m : Nat) (xs : List Int) : waysN q k m xs ≤ k ^ m := by
  induction m generalizing xs with
  | zero => simp [waysN]
  | succ m ih =>
    rw [Nat.pow_succ, Nat.mul_comm]
    refine csumTo_le _ (k ^ m) k fun v hv => ?_
    split
    · exact ih _
    · exact Nat.zero_le _
set_option maxHeartbeats 1000000 in
theorem l6fWays_zero (n s k b g cap : Nat) (xs : List Int) (w : World) (hl : xs.length = n) :
    Calls Try.prog 40 #[.int .i64 (n:Int), .int .i64 (s:Int), .int .i64 (k:Int), .slice (some ⟨g, 0, none⟩) xs.length cap] w fun e w' => e = .returned (.int .i64 1) ∧ Below w.heap.size w w' := by
  rw [hl]
  have e1 : ((n : Int) == (n : Int)) = true := by simp
  go_enter Try.func40, Try.ntmps40
  go_wp2
  go_ret
  exact ⟨rfl, Below.refl _ _⟩
set_option maxRecDepth 100000 in
set_option maxHeartbeats 1000000 in
theorem l6fWays_succ (m n s k b g cap : Nat) (xs : List Int) (w : World) (h1 : 1 ≤ n) (h2 : n ≤ 8) (hs : s < 2 ^ n) (hk : k ≤ 4) (hl : xs.length + (m + 1) = n)
    (hI : IsInts w b (.slice (some ⟨g, 0, none⟩) xs.length cap) xs)
    (IH : ∀ (v b' g' cap' : Nat) (W : World), v < k → IsInts W b' (.slice (some ⟨g', 0, none⟩) (xs ++ [(v : Int)]).length cap') (xs ++ [(v : Int)]) →
      Calls Try.prog 40 #[.int .i64 (n:Int), .int .i64 (s:Int), .int .i64 (k:Int), .slice (some ⟨g', 0, none⟩) (xs ++ [(v : Int)]).length cap'] W fun e w' => e = .returned (.int .i64 ((waysN (bothN n s) k m (xs ++ [(v : Int)]) : Nat) : Int)) ∧ Below W.heap.size W w') :
    Calls Try.prog 40 #[.int .i64 (n:Int), .int .i64 (s:Int), .int .i64 (k:Int), .slice (some ⟨g, 0, none⟩) xs.length cap] w fun e w' => e = .returned (.int .i64 ((waysN (bothN n s) k (m + 1) xs : Nat) : Int)) ∧ Below w.heap.size w w' := by
  have hmx : Try.prog.follows .mixedOrders = true := by kernel_rfl
  have hpw := pow_le n (by omega)
  have HBo := Lib.hid (fun W => l2Both_any n s W h1 (by omega) hs)
  have hbl := bothN_lt n s h1 hs
  have HI := Lib.hid hI
  have HIH := Lib.hid IH
  have HWe : Hid (waysN (bothN n s) k (m + 1) xs = sumTo (fun c => if okTo (bothN n s) xs c xs.length then waysN (bothN n s) k m (xs ++ [(c : Int)]) else 0) k) := Lib.hid rfl
  generalize bothN n s = q at *
  have hgl := (World.ownsRow.lt hI g rfl).2
  have HLs : Hid (([] : List Int).length + xs.length ≤ 1000) := Lib.hid (by simp; omega)
  have HLs2 : Hid (∀ v : Nat, xs.length + [(v : Int)].length ≤ 1000) := Lib.hid (fun v => by simp; omega)
  obtain ⟨L, hL⟩ : ∃ L, xs.length = L := ⟨_, rfl⟩
  rw [hL] at HI hl ⊢
  have HL := Lib.hid hL
  have e1 : ((L : Int) == (n : Int)) = false := beq_cast_ne (by omega)
  rw [hL] at HWe
  have HSe : Hid (sumTo (fun c => if okTo q xs c L then waysN q k m (xs ++ [(c : Int)]) else 0) k = waysN q k (m + 1) xs) := Lib.hid HWe.out.symm
  have hpm : k ^ m ≤ 65536 := by
    have a := Nat.pow_le_pow_left hk m
    have b := Nat.pow_le_pow_right (n := 4) (by omega) (show m ≤ 8 by omega)
    have : 4 ^ 8 = 65536 := by decide
    omega
  have HCw := Lib.hid (fun c : Nat => Nat.le_trans (cways_le q k m (xs ++ [(c : Int)])) hpm)
  have HCb : Hid (∀ c, c ≤ k → sumTo (fun c => if okTo q xs c L then waysN q k m (xs ++ [(c : Int)]) else 0) c ≤ 262144) := Lib.hid (fun c hc => by
    have h := csumTo_le (fun c => if okTo q xs c L then waysN q k m (xs ++ [(c : Int)]) else 0) 65536 c (fun v hv => by
      split
      · exact HCw.out v
      · exact Nat.zero_le _)
    have : c * 65536 ≤ 4 * 65536 := Nat.mul_le_mul_right _ (by omega)
    omega)
  clear hI hL IH HWe hpm
  go_enter Try.func40, Try.ntmps40
  go_wp2_with (go_at_call 37; refine (HBo.out _).mono ?_; rintro e w' ⟨rfl, rfl⟩)
  --GEN40W
  go_loopw [11, 12] (fun cs vs wr => ∃ c : Nat, c ≤ k ∧ cs = .int .i64 ((sumTo (fun c => if okTo q xs c L then waysN q k m (xs ++ [(c : Int)]) else 0) c : Nat) : Int) ∧ vs = .int .i64 (c : Int) ∧ Below w.heap.size w wr) (fun _ vs _ => k - (intOf vs).toNat)
  case atStart => exact ⟨0, Nat.zero_le _, rfl, rfl, Below.refl _ _⟩
  case round =>
    obtain ⟨c, hc, rfl, rfl, hB⟩ := hrel
    have HB := Lib.hid hB
    have HIr := Lib.hid (HI.out.belowAll hB)
    have hsz := hB.size
    clear hB
    have HSm : Hid (sumTo (fun c => if okTo q xs c L then waysN q k m (xs ++ [(c : Int)]) else 0) (c + 1) = sumTo (fun c => if okTo q xs c L then waysN q k m (xs ++ [(c : Int)]) else 0) c + (if okTo q xs c L then waysN q k m (xs ++ [(c : Int)]) else 0)) := Lib.hid rfl
    have hcb := HCb.out c hc
    by_cases hlt : c < k
    · have hcw := HCw.out c
      generalize sumTo (fun c => if okTo q xs c L then waysN q k m (xs ++ [(c : Int)]) else 0) c = S at *
      have c1 : (c : Int) < (k : Int) := by omega
      go_wp2
      go_loop [13, 14] (fun u v => ∃ j : Nat, j ≤ L ∧ u = .bool (okTo q xs c j) ∧ v = .int .i64 (j : Int)) (fun _ v => L - (intOf v).toNat)
      case atStart => exact ⟨0, Nat.zero_le _, rfl, rfl⟩
      case round =>
        obtain ⟨j, hj, rfl, rfl⟩ := hrel
        by_cases hjl : j < L
        · have HOk : Hid (okTo q xs c (j + 1) = (okTo q xs c j && (!q.testBit (L - j) || !decide (xs.getD j 0 = (c : Int))))) := Lib.hid (by rw [← HL.out]; rfl)
          have cj := HIr.out.cell (i := j) (by rw [HL.out]; exact hjl)
          obtain ⟨Dd, hD⟩ : ∃ Dd, L - j = Dd := ⟨_, rfl⟩
          rw [hD] at HOk
          have dI : (L : Int) - (j : Int) = (Dd : Int) := by omega
          have d1 : IntKind.i64.wrap ((L : Int) - (j : Int)) = (Dd : Int) := by rw [dI]; exact IntWalk.i64_in _ ⟨by omega, by omega⟩
          have d2 : wrap64 ((L : Int) - (j : Int)) = (Dd : Int) := by rw [dI]; exact IntWalk.wrap64_in _ ⟨by omega, by omega⟩
          have hD64 : min Dd 64 = Dd := by omega
          have hbt := has_nat0 q Dd (by omega)
          have i1 : (0 : Int) ≤ (j : Int) := by omega
          have i2 : (j : Int) < (L : Int) := by omega
          have i3 : (0 : Int) ≤ (Dd : Int) := by omega
          generalize xs.getD j 0 = z at *
          clear hD dI
          cases ho : okTo q xs c j
          · rw [ho] at HOk
            have HOk2 : Hid (okTo q xs c (j + 1) = false) := HOk
            clear HOk ho hbt
            go_wp2
            go_round
            case rel => exact ⟨j + 1, by omega, by rw [HOk2.out], by go_num⟩
            case measure => simp [intOf]; omega
          · rw [ho] at HOk
            cases hb : q.testBit Dd
            · rw [hb] at hbt HOk
              have HOk2 : Hid (okTo q xs c (j + 1) = true) := HOk
              clear HOk ho hb
              go_wp2
              go_round
              case rel => exact ⟨j + 1, by omega, by rw [HOk2.out], by go_num⟩
              case measure => simp [intOf]; omega
            · rw [hb] at hbt HOk
              by_cases hz : z = (c : Int)
              · rw [decide_eq_true hz] at HOk
                have HOk2 : Hid (okTo q xs c (j + 1) = false) := HOk
                have e1 : (z == (c : Int)) = true := by simp [hz]
                have e2 : (z != (c : Int)) = false := by simp [hz]
                clear HOk ho hb hz
                go_wp2
                go_round
                case rel => exact ⟨j + 1, by omega, by rw [HOk2.out], by go_num⟩
                case measure => simp [intOf]; omega
              · rw [decide_eq_false hz] at HOk
                have HOk2 : Hid (okTo q xs c (j + 1) = true) := HOk
                have e1 : (z == (c : Int)) = false := by simp [hz]
                have e2 : (z != (c : Int)) = true := by simp [hz]
                clear HOk ho hb hz
                go_wp2
                go_round
                case rel => exact ⟨j + 1, by omega, by rw [HOk2.out], by go_num⟩
                case measure => simp [intOf]; omega
        · obtain rfl : j = L := by omega
          cases ho : okTo q xs c j
          · rw [ho] at HSm
            have HS2 : Hid (sumTo (fun c => if okTo q xs c j then waysN q k m (xs ++ [(c : Int)]) else 0) (c + 1) = S) := HSm
            clear HSm ho
            go_wp2
            go_roundw
            case rel => exact ⟨c + 1, by omega, by rw [HS2.out], by go_num, HB.out⟩
            case measure => simp [intOf]; omega
          · rw [ho] at HSm
            have HIH1 := Lib.hid (fun b' g' cap' W h => HIH.out c b' g' cap' W hlt h)
            generalize waysN q k m (xs ++ [(c : Int)]) = y at *
            have HS2 : Hid (sumTo (fun c => if okTo q xs c j then waysN q k m (xs ++ [(c : Int)]) else 0) (c + 1) = S + y) := HSm
            clear HSm ho
            have hHB := HB.out
            have hBa := hHB.alloc hsz (.cells #[] 3)
            have HIa := Lib.hid (show IsInts (wr.alloc (.cells #[] 3)) b (.slice (some ⟨g, 0, none⟩) j cap) xs from World.ownsRow.alloc HIr.out _)
            have HX1 := Lib.hid (nil_made wr wr.heap.size (Nat.le_refl _))
            have hzW : wr.heap.size ≤ (wr.alloc (.cells #[] 3)).heap.size := by simp
            have HBa := Lib.hid hBa
            have HzW := Lib.hid hzW
            clear hBa hzW hHB
            go_wp2_with (first
              | (at_builtin; refine wpList_append_any rfl (.tmp 56) (.tmp 57) rfl (.slice (some ⟨wr.heap.size, 0, none⟩) 0 0) [] xs (wr.alloc (.cells #[] 3)) wr.heap.size g cap b rfl (by rw [HL.out]; rfl) HX1.out (by rw [HL.out]; exact HIa.out) HLs.out HzW.out (fun v2 W5 hX2 hkeep2 hbelow2 hgrow2 => ?_);
                  have HX2 := Lib.hid (show IsInts W5 wr.heap.size v2 xs from hX2); have HB5 := Lib.hid (hbelow2 _ _ hsz HBa.out); have HG5 := Lib.hid (Nat.le_trans HzW.out hgrow2); clear hX2 hkeep2 hbelow2 hgrow2)
              | (at_builtin; refine wpList_append_any rfl (.tmp 58) (.tmp 60) rfl v2 xs [(c : Int)] (W5.alloc (.cells #[.int .i64 (c : Int)] 3)) wr.heap.size W5.heap.size 1 wr.heap.size rfl rfl (World.ownsRow.alloc HX2.out _) (lit_one W5 wr.heap.size (c : Int) HG5.out) (HLs2.out c) (Nat.le_trans HG5.out (by simp)) (fun v3 W7 hX3 hkeep3 hbelow3 hgrow3 => ?_);
                  have HX3 := Lib.hid hX3; have HB7 := Lib.hid (hbelow3 _ _ hsz (HB5.out.alloc (Nat.le_trans hsz HG5.out) (.cells #[.int .i64 (c : Int)] 3))); clear hX3 hkeep3 hbelow3 hgrow3)
              | fail)
            clear HX2 HIa HX1
            rcases HX3.out.shape with ⟨_, e⟩ | ⟨g3, cap3, hv3, hg31, hg32, hg33⟩
            · exact absurd e (by simp)
            subst hv3
            refine (HIH1.out _ _ _ _ HX3.out).mono ?_
            rintro e W9 ⟨rfl, hb9⟩
            have HB9 := Lib.hid (HB7.out.trans (hb9.mono HB7.out.size))
            clear hb9 hg33
            obtain ⟨Z, hZ⟩ : ∃ Z, S + y = Z := ⟨_, rfl⟩
            rw [hZ] at HS2
            have s2 : IntKind.i64.wrap ((S : Int) + (y : Int)) = (Z : Int) := by rw [show (S : Int) + (y : Int) = (Z : Int) by omega]; exact IntWalk.i64_in _ ⟨by omega, by omega⟩
            have s3 : wrap64 ((S : Int) + (y : Int)) = (Z : Int) := by rw [show (S : Int) + (y : Int) = (Z : Int) by omega]; exact IntWalk.wrap64_in _ ⟨by omega, by omega⟩
            clear hZ hcw hcb
            go_wp2
            go_roundw
            case rel => exact ⟨c + 1, by omega, by rw [HS2.out], by go_num, HB9.out⟩
            case measure => simp [intOf]; omega
    · obtain rfl : c = k := by omega
      rw [HSe.out]
      go_wp2
      go_ret
      exact ⟨rfl, HB.out⟩
theorem l6fWays_any (m n s k b g cap : Nat) (xs : List Int) (w : World) (h1 : 1 ≤ n) (h2 : n ≤ 8) (hs : s < 2 ^ n) (hk : k ≤ 4) (hl : xs.length + m = n)
    (hI : IsInts w b (.slice (some ⟨g, 0, none⟩) xs.length cap) xs) :
    Calls Try.prog 40 #[.int .i64 (n:Int), .int .i64 (s:Int), .int .i64 (k:Int), .slice (some ⟨g, 0, none⟩) xs.length cap] w fun e w' => e = .returned (.int .i64 ((waysN (bothN n s) k m xs : Nat) : Int)) ∧ Below w.heap.size w w' := by
  induction m generalizing xs b g cap w with
  | zero => exact l6fWays_zero n s k b g cap xs w (by omega)
  | succ m ih =>
    exact l6fWays_succ m n s k b g cap xs w h1 h2 hs hk hl hI fun v b' g' cap' W hv hX => ih b' g' cap' (xs ++ [(v : Int)]) W (by rw [List.length_append, List.length_singleton]; omega) hX
def waysF (n s k : Nat) : Nat := waysN (bothN n s) k n []
/-- Where FreeWays tells nothing. -/
def NoWays (n s k : Int) : Prop := NoStep n s ∨ ¬ n ≤ 8 ∨ ¬ (0 ≤ k ∧ k ≤ 4)
theorem specFreeWays_yes (n s k : Nat) (w : World) (h1 : 1 ≤ n) (h2 : n ≤ 8) (hs : s < 2 ^ n) (h0 : s.testBit 0 = false) (hk : k ≤ 4) :
    Calls Try.prog 17 #[.int .i64 (n:Int), .int .i64 (s:Int), .int .i64 (k:Int)] w fun e w' => e = .returned (.tuple #[.int .i64 ((waysF n s k : Nat) : Int), .bool true]) ∧ Below w.heap.size w w' := by
  have HI := Lib.hid (fun W => specStep_yes n s W h1 (by omega) hs h0)
  have HK := Lib.hid (fun W => l6In_yes (k : Int) 0 4 W (by omega) (by omega))
  have HL := Lib.hid (l6fWays_any n n s k w.heap.size w.heap.size 0 [] (w.alloc (.cells #[] 3)) h1 h2 hs hk (by simp) (nil_made w w.heap.size (Nat.le_refl _)))
  have HF : Hid (waysN (bothN n s) k n [] = waysF n s k) := Lib.hid rfl
  have HB := Lib.hid ((Below.refl w.heap.size w).alloc (Nat.le_refl _) (.cells #[] 3))
  generalize waysN (bothN n s) k n [] = q at *
  have k1 : ¬ (8 : Int) < (n : Int) := by omega
  have k2 : decide ((8 : Int) < (n : Int)) = false := decide_eq_false k1
  clear h0
  go_enter Try.func17, Try.ntmps17
  go_wp2_with (first
    | (go_at_call 30; refine (HI.out _).mono ?_; rintro e w' ⟨rfl, rfl⟩)
    | (go_at_call 39; refine (HK.out _).mono ?_; rintro e w' ⟨rfl, rfl⟩)
    | (go_at_call 40; refine HL.out.mono ?_; rintro e w2 ⟨rfl, hb2⟩))
  go_ret2
  exact ⟨by rw [HF.out]; rfl, HB.out.trans (hb2.mono HB.out.size)⟩
theorem specFreeWays_no (n s k : Int) (w : World) (h : NoWays n s k) :
    Calls Try.prog 17 #[.int .i64 n, .int .i64 s, .int .i64 k] w fun e w' => e = .returned (.tuple #[.int .i64 0, .bool false]) ∧ w = w' := by
  by_cases hn : NoStep n s
  · have HI := Lib.hid (specStep_no n s w hn)
    clear h hn
    go_enter Try.func17, Try.ntmps17
    go_wp2_with (go_at_call 30; refine HI.out.mono ?_; rintro e w' ⟨rfl, rfl⟩)
    go_ret2
    exact ⟨rfl, rfl⟩
  · obtain ⟨m, t, rfl, rfl, h1, h2, h3, h4⟩ := not_noStep hn
    have HI := Lib.hid (specStep_yes m t w h1 h2 h3 h4)
    by_cases h8 : (m : Int) ≤ 8
    · have hk : ¬ (0 ≤ k ∧ k ≤ 4) := (h.resolve_left hn).resolve_left (fun c => c h8)
      have HK := Lib.hid (fun W => l6In_any k 0 4 W)
      rw [decide_eq_false hk] at HK
      have k1 : ¬ (8 : Int) < (m : Int) := by omega
      have k2 : decide ((8 : Int) < (m : Int)) = false := decide_eq_false k1
      clear h hn hk h8
      go_enter Try.func17, Try.ntmps17
      go_wp2_with (first
        | (go_at_call 30; refine HI.out.mono ?_; rintro e w' ⟨rfl, rfl⟩)
        | (go_at_call 39; refine (HK.out _).mono ?_; rintro e w' ⟨rfl, rfl⟩))
      go_ret2
      exact ⟨rfl, rfl⟩
    · have k1 : (8 : Int) < (m : Int) := by omega
      have k2 : decide ((8 : Int) < (m : Int)) = true := decide_eq_true k1
      clear h hn h8
      go_enter Try.func17, Try.ntmps17
      go_wp2_with (go_at_call 30; refine HI.out.mono ?_; rintro e w' ⟨rfl, rfl⟩)
      go_ret2
      exact ⟨rfl, rfl⟩
end Go.Proofs.Ytcmobeeneleidaa
