/- Determinants: the model. -/
import Derived.Test.YtookciehnjnmnaaTreeR
import Derived.Test.YtookciehnjnmnaaGA
namespace Go.Proofs.Ytookciehnjnmnaa
open Go.RowKit Go.Shelf
set_option linter.unusedVariables false
attribute [local go_sem] Oper.semAt_some
/-- The rows of which those before i have been replaced. -/
def stR (M : Nat → Nat → Int) (k : Nat) (last : Int) (i a b : Nat) : Int := if k < a ∧ a < i then (if k < b then elimN M k last a b else 0) else M a b
/-- The row that is being made, its places before j. -/
def rowR (M : Nat → Nat → Int) (k : Nat) (last : Int) (i j b : Nat) : Int := if k < b ∧ b < j then elimN M k last i b else 0
theorem stR_start (M : Nat → Nat → Int) (k : Nat) (last : Int) (a b : Nat) : M a b = stR M k last (k + 1) a b := by
  unfold stR
  rw [if_neg (by omega)]
theorem stR_old (M : Nat → Nat → Int) (k : Nat) (last : Int) (i a b : Nat) (h : ¬ (k < a ∧ a < i)) : stR M k last i a b = M a b := by
  unfold stR
  rw [if_neg h]
theorem stR_put (M : Nat → Nat → Int) (k : Nat) (last : Int) (i m a b : Nat) (hi : k < i) (hb : b < m) : (if a = i then rowR M k last i m b else stR M k last i a b) = stR M k last (i + 1) a b := by
  unfold stR rowR
  by_cases e : a = i
  · subst e
    rw [if_pos rfl, if_pos (show k < a ∧ a < a + 1 by omega)]
    by_cases c : k < b
    · rw [if_pos ⟨c, hb⟩, if_pos c]
    · rw [if_neg (fun h => c h.1), if_neg c]
  · rw [if_neg e]
    by_cases c : k < a ∧ a < i
    · rw [if_pos c, if_pos (show k < a ∧ a < i + 1 by omega)]
    · rw [if_neg c, if_neg (show ¬ (k < a ∧ a < i + 1) by omega)]
theorem rowR_start (M : Nat → Nat → Int) (k : Nat) (last : Int) (i b : Nat) : (0 : Int) = rowR M k last i (k + 1) b := by
  unfold rowR
  rw [if_neg (by omega)]
theorem rowR_put (M : Nat → Nat → Int) (k : Nat) (last : Int) (i j b : Nat) (hj : k < j) (Q : Int) (hQ : Q = elimN M k last i j) : (if b = j then (Value.int .i64 Q) else .int .i64 (rowR M k last i j b)) = .int .i64 (rowR M k last i (j + 1) b) := by
  unfold rowR
  by_cases e : b = j
  · subst e
    rw [if_pos rfl, if_pos (show k < b ∧ b < b + 1 by omega), hQ]
  · rw [if_neg e]
    by_cases c : k < b ∧ b < j
    · rw [if_pos c, if_pos (show k < b ∧ b < j + 1 by omega)]
    · rw [if_neg c, if_neg (show ¬ (k < b ∧ b < j + 1) by omega)]
/-- What goes on with the rows M, the pivot in its place. -/
def Next (m k : Nat) (M : Nat → Nat → Int) (last sign T : Int) : Prop :=
  M k k ≠ 0 ∧ (-10000000000 ≤ M k k ∧ M k k ≤ 10000000000) ∧ (k + 1 < m → ∀ i j, k ≤ i → i < m → k ≤ j → j < m → -2000000000 ≤ M i j ∧ M i j ≤ 2000000000) ∧
  ∀ M' : Nat → Nat → Int, (∀ a b, k < a → a < m → k < b → b < m → M' a b = elimN M k last a b) → ∃ R', Sub m (k + 1) M' R' ∧ detF (m - (k + 1)) (M k k) sign R' = T ∧ okF (m - (k + 1)) (M k k) R' = true
theorem next_cases {m k : Nat} {M : Nat → Nat → Int} {R : List (List Int)} {last sign T : Int} (h : Sub m k M R) (hk : k < m) (ho : okF (m - k) last R = true) (hT : detF (m - k) last sign R = T) :
    (∃ i, k < i ∧ i < m ∧ atN M k (m - k) = (i : Int) ∧ Next m k (swapM M i k) last (0 - sign) T) ∨ (atN M k (m - k) = (k : Int) ∧ Next m k M last sign T) ∨ (atN M k (m - k) = -1 ∧ T = 0) := by
  obtain ⟨b1, b2⟩ := ok_get h (okF_head h hk ho)
  rcases det_cases last sign h hk with ⟨i, h1, h2, h3, h4, h5⟩ | ⟨h3, h4, h5⟩ | ⟨h3, h4⟩
  · refine .inl ⟨i, h1, h2, h3, ?_⟩
    have e1 : swapM M i k k k = M i k := by unfold swapM; rw [if_neg (by omega), if_pos rfl]
    have e2 : ∀ b, swapM M i k k b = M i b := fun b => by unfold swapM; rw [if_neg (by omega), if_pos rfl]
    refine ⟨by rw [e1]; exact h4, by rw [e1]; exact b1 i k (by omega) h2 (Nat.le_refl _) hk, fun hkm a b ha ham hb hbm => ?_, fun M' hM' => ?_⟩
    · unfold swapM
      split
      · exact b2 hkm k b (Nat.le_refl _) hk hb hbm
      · split
        · exact b2 hkm i b (by omega) h2 hb hbm
        · exact b2 hkm a b ha ham hb hbm
    · obtain ⟨R', g1, g2, g3⟩ := h5 M' (fun a b ha ham hb hbm => by
        rw [hM' a b ha ham hb hbm]
        unfold elimN
        rw [e1, e2])
      rw [e1]
      exact ⟨R', g1, g2.symm.trans hT, g3 ho⟩
  · refine .inr (.inl ⟨h3, h4, b1 k k (Nat.le_refl _) hk (Nat.le_refl _) hk, b2, fun M' hM' => ?_⟩)
    obtain ⟨R', g1, g2, g3⟩ := h5 M' hM'
    exact ⟨R', g1, g2.symm.trans hT, g3 ho⟩
  · exact .inr (.inr ⟨h3, hT.symm.trans h4⟩)
theorem atN_step (M : Nat → Nat → Int) (k x : Nat) (hx : k ≤ x) : atN M k (x + 1 - k) = if M x k = 0 then atN M k (x - k) else (x : Int) := by
  rw [show x + 1 - k = (x - k) + 1 by omega]
  show (if M (k + (x - k)) k = 0 then atN M k (x - k) else ((k + (x - k) : Nat) : Int)) = _
  rw [show k + (x - k) = x by omega]
theorem sign_in (sign : Int) (h : sign = 1 ∨ sign = -1) : ∃ sg : Int, 0 - sign = sg ∧ (sg = 1 ∨ sg = -1) ∧ wrap64 (0 - sign) = sg ∧ IntKind.i64.wrap (0 - sign) = sg ∧ -sign = sg ∧ wrap64 (-sign) = sg ∧ IntKind.i64.wrap (-sign) = sg := by
  have w : ∀ z : Int, z = 1 ∨ z = -1 → wrap64 z = z ∧ IntKind.i64.wrap z = z := fun z hz => ⟨IntWalk.wrap64_in _ ⟨by omega, by omega⟩, IntWalk.i64_in _ ⟨by omega, by omega⟩⟩
  rcases h with rfl | rfl
  · exact ⟨-1, rfl, .inr rfl, (w _ (.inr rfl)).1, (w _ (.inr rfl)).2, rfl, (w _ (.inr rfl)).1, (w _ (.inr rfl)).2⟩
  · exact ⟨1, rfl, .inl rfl, (w _ (.inl rfl)).1, (w _ (.inl rfl)).2, rfl, (w _ (.inl rfl)).1, (w _ (.inl rfl)).2⟩
set_option maxRecDepth 100000 in
set_option maxHeartbeats 8000000 in
theorem l4Value_any (m g cp N : Nat) (G C : Nat → Nat) (M : Nat → Nat → Int) (R : List (List Int)) (w : World) (hm : m ≤ 10) (hNw : N ≤ w.heap.size) (hG : Grid w N g m m m G C M) (hS : Sub m 0 M R) (ho : okF m 1 R = true) :
    Calls Try.prog 45 #[.slice (some ⟨g, 0, none⟩) m cp] w fun e w' => e = .returned (.int .i64 (detF m 1 1 R)) ∧ Below N w w' := by
  have hmx : Try.prog.follows .mixedOrders = true := by kernel_rfl
  have HG := Lib.hid hG
  have HS := Lib.hid hS
  have HO := Lib.hid ho
  have HT : Hid (∃ T, detF m 1 1 R = T) := Lib.hid ⟨_, rfl⟩
  obtain ⟨T, hT⟩ := HT.out
  have HTe := Lib.hid hT
  have hmi := make_ints m (by omega)
  have HZ := Lib.hid (fun W => World.rowIs_made W (.int .i64 0) m 3)
  clear hG hS ho hT HT
  go_enter Try.func45, Try.ntmps45
  go_wp2
  go_loopw [3, 4, 5] (fun a c u wr => ∃ (k : Nat) (last sign : Int) (G C : Nat → Nat) (M : Nat → Nat → Int) (R : List (List Int)), k ≤ m ∧ Hid (Sub m k M R) ∧ Hid (okF (m - k) last R = true) ∧ Hid (detF (m - k) last sign R = T) ∧ last ≠ 0 ∧ (-10000000000 ≤ last ∧ last ≤ 10000000000) ∧ (sign = 1 ∨ sign = -1) ∧ a = .int .i64 last ∧ c = .int .i64 sign ∧ u = .int .i64 (k : Int) ∧ Grid wr N g m m m G C M ∧ Below N w wr) (fun _ _ u _ => m - (intOf u).toNat)
  case atStart => exact ⟨0, 1, 1, G, C, M, R, Nat.zero_le _, HS, HO, HTe, by omega, by omega, .inl rfl, rfl, rfl, rfl, HG.out, Below.refl _ _⟩
  case round =>
    obtain ⟨k, last, sign, G, C, M, R, hk, HS, HO, HT, hl0, hlb, hsg, rfl, rfl, rfl, hG, hB⟩ := hrel
    clear HG
    have HG := Lib.hid hG
    have HB := Lib.hid hB
    clear hG hB
    by_cases hlt : k < m
    · have HC := Lib.hid (next_cases HS.out hlt HO.out HT.out)
      have HAt := Lib.hid (fun x hx => atN_step M k x hx)
      go_wp2
      go_loop [6, 7] (fun a u => ∃ (x : Nat) (z : Int), k ≤ x ∧ x ≤ m ∧ Hid (z = atN M k (x - k)) ∧ a = .int .i64 z ∧ u = .int .i64 (x : Int)) (fun _ u => m - (intOf u).toNat)
      case atStart => exact ⟨k, -1, Nat.le_refl _, hk, Lib.hid (by rw [Nat.sub_self]; rfl), rfl, rfl⟩
      case round =>
        obtain ⟨x, z, hkx, hxm, HZz, rfl, rfl⟩ := hrel
        by_cases hlx : x < m
        · have co := HG.out.outer x hlx
          have ci := HG.out.inner x k hlx hlt
          have i1 : (0 : Int) ≤ (x : Int) := by omega
          have i2 : (x : Int) < (m : Int) := by omega
          have i3 : (0 : Int) ≤ (k : Int) := by omega
          have i4 : (k : Int) < (m : Int) := by omega
          have HA := Lib.hid (HAt.out x hkx)
          generalize M x k = y at *
          by_cases hy : y = 0
          · subst hy
            rw [if_pos rfl] at HA
            go_wp2
            go_round
            case rel => exact ⟨x + 1, z, by omega, by omega, Lib.hid (HZz.out.trans HA.out.symm), rfl, by go_num⟩
            case measure => simp [intOf]; omega
          · rw [if_neg hy] at HA
            have y1 : (y == 0) = false := by simpa using hy
            have y2 : (y != 0) = true := by simpa using hy
            clear hy
            go_wp2
            go_round
            case rel => exact ⟨x + 1, (x : Int), by omega, by omega, Lib.hid HA.out.symm, rfl, by go_num⟩
            case measure => simp [intOf]; omega
        · obtain rfl : x = m := by omega
          clear HAt hlx hxm hkx
          rcases HC.out with ⟨i, hki, him, hat, hN⟩ | ⟨hat, hN⟩ | ⟨hat, hT0⟩
          · obtain rfl : z = (i : Int) := HZz.out.trans hat
            have HN := Lib.hid hN
            clear hN hat HZz HC
            have co1 := HG.out.outer i him
            have co2 := HG.out.outer k hlt
            have fr1 := (HG.out.room i him).2
            have fr2 := (HG.out.room k hlt).2
            have zg := HG.out.base
            have i1 : (0 : Int) ≤ (i : Int) := by omega
            have i2 : (i : Int) < (x : Int) := by omega
            have i3 : (0 : Int) ≤ (k : Int) := by omega
            have i4 : (k : Int) < (x : Int) := by omega
            have n1 : ((i : Int) == (k : Int)) = false := by simp; omega
            have n2 : ((i : Int) != (k : Int)) = true := by simp; omega
            have n3 : ¬ (i : Int) < 0 := by omega
            have n4 : ¬ i = k := Nat.ne_of_gt hki
            have n5 : ¬ k = i := Nat.ne_of_lt hki
            have co3 : (wr.setCell ⟨g, i, none⟩ (.slice (some ⟨G k, 0, none⟩) x (C k))).cell? ⟨g, k, none⟩ = some (.slice (some ⟨G k, 0, none⟩) x (C k)) := (World.cell?_setCell_other _ _ _ _ (by intro e; injection e with e1 e2; first | exact n4 e2 | exact n5 e2)).trans co2
            have HG1 := Lib.hid (HG.out.exch i k him hlt (Nat.ne_of_gt hki))
            have HB1 := Lib.hid ((HB.out.setCell (p := ⟨g, i, none⟩) zg (.slice (some ⟨G k, 0, none⟩) x (C k))).setCell (p := ⟨g, k, none⟩) zg (.slice (some ⟨G i, 0, none⟩) x (C i)))
            obtain ⟨K1, hK1⟩ : ∃ K1, K1 = k + 1 := ⟨_, rfl⟩
            have eK : (k : Int) + 1 = (K1 : Int) := by omega
            have eW : wrap64 ((k : Int) + 1) = (K1 : Int) := by rw [eK]; exact IntWalk.wrap64_in _ ⟨by omega, by omega⟩
            have eV : IntKind.i64.wrap ((k : Int) + 1) = (K1 : Int) := by rw [eK]; exact IntWalk.i64_in _ ⟨by omega, by omega⟩
            have HK := Lib.hid hK1
            clear hK1
            obtain ⟨sg, hsg2, hsg3, s1, s2, s3, s4, s5⟩ := sign_in sign hsg
            rw [hsg2] at HN
            clear hsg2
            go_wp2
            obtain ⟨W0, hW0⟩ : ∃ W0, (wr.setCell ⟨g, i, none⟩ (.slice (some ⟨G k, 0, none⟩) x (C k))).setCell ⟨g, k, none⟩ (.slice (some ⟨G i, 0, none⟩) x (C i)) = W0 := ⟨_, rfl⟩
            rw [hW0] at HG1 HB1 ⊢
            clear hW0 co1 co2 co3 fr1 fr2 n4 n5 n1 n2 n3 s1 s2 s3 s4 s5 i1 i2 i3 i4 zg
            obtain ⟨M2, hM2⟩ : ∃ M2, swapM M i k = M2 := ⟨_, rfl⟩
            have hsw : (fun a b => if a = i then M k b else if a = k then M i b else M a b) = swapM M i k := rfl
            rw [hsw, hM2] at HG1
            rw [hM2] at HN
            clear hsw hM2 hki him
            clear HG HB
            go_loopw [9] (fun u wr => ∃ (i : Nat) (G C : Nat → Nat), k < i ∧ i ≤ x ∧ u = .int .i64 (i : Int) ∧ Grid wr N g x x x G C (stR M2 k last i) ∧ Below N w wr) (fun u _ => x - (intOf u).toNat)
            case atStart => exact ⟨k + 1, _, _, by omega, hlt, by rw [← HK.out], HG1.out.congr (fun a b _ _ => stR_start M2 k last a b), HB1.out⟩
            case round =>
              obtain ⟨i, G, C, hki, hix, rfl, hG, hB⟩ := hrel
              clear HG1 HB1
              have HG := Lib.hid hG
              have HB := Lib.hid hB
              clear hG hB
              by_cases hli : i < x
              · have zg := HG.out.ltg (by omega)
                have zw := HB.out.size
                have zN := HG.out.base
                have HGa := Lib.hid (HG.out.alloc (.cells (madeCells #[.int .i64 0] x) 3))
                have HRa := Lib.hid ((HZ.out wr).congr (g := fun b => .int .i64 (rowR M2 k last i (k + 1) b)) (fun b _ => by rw [← rowR_start]))
                have HBa := Lib.hid (HB.out.alloc (by omega) (.cells (madeCells #[.int .i64 0] x) 3))
                have HNe := Lib.hid (fun y (hy : y < x) => HG.out.lt y hy (by omega))
                obtain ⟨h, hh⟩ : ∃ h, wr.heap.size = h := ⟨_, rfl⟩
                go_wp2
                rw [hh] at HRa HNe zg zw
                obtain ⟨W1, hW1⟩ : ∃ W1, wr.alloc (.cells (madeCells #[.int .i64 0] x) 3) = W1 := ⟨_, rfl⟩
                rw [hW1] at HGa HRa HBa ⊢
                clear hW1 hh HG HB
                go_loopw [11] (fun u wr => ∃ j : Nat, k < j ∧ j ≤ x ∧ u = .int .i64 (j : Int) ∧ Grid wr N g x x x G C (stR M2 k last i) ∧ wr.rowIs h 3 x (fun b => .int .i64 (rowR M2 k last i j b)) ∧ Below N w wr) (fun u _ => x - (intOf u).toNat)
                case atStart => exact ⟨k + 1, by omega, hlt, by rw [← HK.out], HGa.out, HRa.out, HBa.out⟩
                case round =>
                  obtain ⟨j, hkj, hjx, rfl, hG, hR, hB⟩ := hrel
                  clear HGa HRa HBa
                  have HG := Lib.hid hG
                  have HR := Lib.hid hR
                  have HB := Lib.hid hB
                  clear hG hR hB
                  by_cases hlj : j < x
                  · have hbd := HN.out.2.2.1 (by omega)
                    have by1 := hbd i j (by omega) hli (by omega) hlj
                    have bp1 := hbd k k (Nat.le_refl _) hlt (Nat.le_refl _) hlt
                    have bz1 := hbd k j (Nat.le_refl _) hlt (by omega) hlj
                    have ba1 := hbd i k (by omega) hli (Nat.le_refl _) hlt
                    have HF : Hid (∀ W9, Grid W9 N g x x x G C (stR M2 k last i) → W9.cell? ⟨g, i, none⟩ = some (.slice (some ⟨G i, 0, none⟩) x (C i)) ∧ W9.cell? ⟨g, k, none⟩ = some (.slice (some ⟨G k, 0, none⟩) x (C k)) ∧ W9.cell? ⟨G i, j, none⟩ = some (.int .i64 (M2 i j)) ∧ W9.cell? ⟨G i, k, none⟩ = some (.int .i64 (M2 i k)) ∧ W9.cell? ⟨G k, j, none⟩ = some (.int .i64 (M2 k j)) ∧ W9.cell? ⟨G k, k, none⟩ = some (.int .i64 (M2 k k))) := Lib.hid (fun W9 hA => by
                      refine ⟨hA.outer i hli, hA.outer k hlt, ?_, ?_, ?_, ?_⟩
                      · have c := hA.inner i j hli hlj
                        rwa [stR_old M2 k last i i j (by omega)] at c
                      · have c := hA.inner i k hli hlt
                        rwa [stR_old M2 k last i i k (by omega)] at c
                      · have c := hA.inner k j hlt hlj
                        rwa [stR_old M2 k last i k j (by omega)] at c
                      · have c := hA.inner k k hlt hlt
                        rwa [stR_old M2 k last i k k (by omega)] at c)
                    have HEl : Hid (elimN M2 k last i j = Int.tdiv (M2 i j * M2 k k - M2 k j * M2 i k) last) := Lib.hid rfl
                    have HRd := Lib.hid HR.out.drew
                    have ch := HRd.out.cell hlj
                    have fh := HRd.out.frozen j
                    have hput := fun Q hQ => (HRd.out.set j (.int .i64 Q)).congr (g := fun b => .int .i64 (rowR M2 k last i (j + 1) b)) (fun b _ => rowR_put M2 k last i j b hkj Q hQ)
                    have HPut := Lib.hid hput
                    have HG2 : Hid (∀ v, Grid (wr.drew.setCell ⟨h, j, none⟩ v) N g x x x G C (stR M2 k last i)) := Lib.hid (fun v => HG.out.drew.other ⟨h, j, none⟩ v (by simp; omega) (fun y hy => by have := HNe.out y hy; simp; omega))
                    have HB2 : Hid (∀ v, Below N w (wr.drew.setCell ⟨h, j, none⟩ v)) := Lib.hid (fun v => HB.out.drew.setCell (p := ⟨h, j, none⟩) (by simp; omega) v)
                    obtain ⟨P1, P2, D, Q, HQ, w1, w2, w3, w4, w5, w6, w7, w8, w9, w10⟩ := elim_in (M2 i j) (M2 k k) (M2 k j) (M2 i k) last by1 bp1 bz1 ba1
                    have HQe : Hid (Q = elimN M2 k last i j) := Lib.hid (by
                      obtain ⟨q1, q2, q3, q4, q5⟩ := HQ.out
                      rw [HEl.out, q1, q3, q4, q5])
                    have HP2 := Lib.hid (HPut.out Q HQe.out)
                    have i1 : (0 : Int) ≤ (i : Int) := by omega
                    have i2 : (i : Int) < (x : Int) := by omega
                    have i3 : (0 : Int) ≤ (k : Int) := by omega
                    have i4 : (k : Int) < (x : Int) := by omega
                    have i5 : (0 : Int) ≤ (j : Int) := by omega
                    have i6 : (j : Int) < (x : Int) := by omega
                    have hA0 : Grid wr.drew N g x x x G C (stR M2 k last i) := HG.out.drew
                    clear hput HPut HEl hbd by1 bp1 bz1 ba1 HQ HQe
                    generalize M2 i j = y at *
                    generalize M2 k j = z at *
                    generalize M2 i k = a at *
                    generalize M2 k k = p at *
                    generalize rowR M2 k last i j j = r0 at *
                    go_wp2
                    refine wp_region_held_drew (S := fun W => Grid W N g x x x G C (stR M2 k last i)) hmx hA0 (fun _ => ?_)
                    generalize wr.drew = W3 at *
                    refine take1 0 (v := ?_) rfl (by kernel_rfl) (by kernel_rfl) (by kernel_rfl) (fun _ _ _ h => h) (by rfl) ?_ hA0 ?_
                    rotate_left
                    · intro W9 hA
                      clear hA
                      go_simp
                      try with_reducible rfl
                    try simp only [Act.put, List.setIfInBounds_toArray, List.set_cons_zero, List.set_cons_succ]
                    refine take1 1 (v := ?_) rfl (by kernel_rfl) (by kernel_rfl) (by kernel_rfl) (fun _ _ _ h => h) (by rfl) ?_ hA0 ?_
                    rotate_left
                    · intro W9 hA
                      clear hA
                      go_simp
                      try with_reducible rfl
                    try simp only [Act.put, List.setIfInBounds_toArray, List.set_cons_zero, List.set_cons_succ]
                    refine take1 2 (v := ?_) rfl (by kernel_rfl) (by kernel_rfl) (by kernel_rfl) (fun _ _ _ h => h) (by rfl) ?_ hA0 ?_
                    rotate_left
                    · intro W9 hA
                      clear hA
                      go_simp
                      try with_reducible rfl
                    try simp only [Act.put, List.setIfInBounds_toArray, List.set_cons_zero, List.set_cons_succ]
                    refine take1 3 (v := ?_) rfl (by kernel_rfl) (by kernel_rfl) (by kernel_rfl) (fun _ _ _ h => h) (by rfl) ?_ hA0 ?_
                    rotate_left
                    · intro W9 hA
                      clear hA
                      go_simp
                      try with_reducible rfl
                    try simp only [Act.put, List.setIfInBounds_toArray, List.set_cons_zero, List.set_cons_succ]
                    refine take1 4 (v := ?_) rfl (by kernel_rfl) (by kernel_rfl) (by kernel_rfl) (fun _ _ _ h => h) (by rfl) ?_ hA0 ?_
                    rotate_left
                    · intro W9 hA
                      clear hA
                      go_simp
                      try with_reducible rfl
                    try simp only [Act.put, List.setIfInBounds_toArray, List.set_cons_zero, List.set_cons_succ]
                    refine take1 5 (v := ?_) rfl (by kernel_rfl) (by kernel_rfl) (by kernel_rfl) (fun _ _ _ h => h) (by rfl) ?_ hA0 ?_
                    rotate_left
                    · intro W9 hA
                      obtain ⟨co1, co2, c1, c2, c3, c4⟩ := HF.out W9 hA
                      clear co2 c1 c2 c3 c4
                      clear hA
                      go_simp
                      try with_reducible rfl
                    try simp only [Act.put, List.setIfInBounds_toArray, List.set_cons_zero, List.set_cons_succ]
                    refine take1 6 (v := ?_) rfl (by kernel_rfl) (by kernel_rfl) (by kernel_rfl) (fun _ _ _ h => h) (by rfl) ?_ hA0 ?_
                    rotate_left
                    · intro W9 hA
                      clear hA
                      go_simp
                      try with_reducible rfl
                    try simp only [Act.put, List.setIfInBounds_toArray, List.set_cons_zero, List.set_cons_succ]
                    refine take1 7 (v := ?_) rfl (by kernel_rfl) (by kernel_rfl) (by kernel_rfl) (fun _ _ _ h => h) (by rfl) ?_ hA0 ?_
                    rotate_left
                    · intro W9 hA
                      clear hA
                      go_simp
                      try with_reducible rfl
                    try simp only [Act.put, List.setIfInBounds_toArray, List.set_cons_zero, List.set_cons_succ]
                    refine take1 8 (v := ?_) rfl (by kernel_rfl) (by kernel_rfl) (by kernel_rfl) (fun _ _ _ h => h) (by rfl) ?_ hA0 ?_
                    rotate_left
                    · intro W9 hA
                      obtain ⟨co1, co2, c1, c2, c3, c4⟩ := HF.out W9 hA
                      clear co1 co2 c2 c3 c4
                      clear hA
                      go_simp
                      try with_reducible rfl
                    try simp only [Act.put, List.setIfInBounds_toArray, List.set_cons_zero, List.set_cons_succ]
                    refine take1 9 (v := ?_) rfl (by kernel_rfl) (by kernel_rfl) (by kernel_rfl) (fun _ _ _ h => h) (by rfl) ?_ hA0 ?_
                    rotate_left
                    · intro W9 hA
                      clear hA
                      go_simp
                      try with_reducible rfl
                    try simp only [Act.put, List.setIfInBounds_toArray, List.set_cons_zero, List.set_cons_succ]
                    refine take1 10 (v := ?_) rfl (by kernel_rfl) (by kernel_rfl) (by kernel_rfl) (fun _ _ _ h => h) (by rfl) ?_ hA0 ?_
                    rotate_left
                    · intro W9 hA
                      clear hA
                      go_simp
                      try with_reducible rfl
                    try simp only [Act.put, List.setIfInBounds_toArray, List.set_cons_zero, List.set_cons_succ]
                    refine take1 11 (v := ?_) rfl (by kernel_rfl) (by kernel_rfl) (by kernel_rfl) (fun _ _ _ h => h) (by rfl) ?_ hA0 ?_
                    rotate_left
                    · intro W9 hA
                      clear hA
                      go_simp
                      try with_reducible rfl
                    try simp only [Act.put, List.setIfInBounds_toArray, List.set_cons_zero, List.set_cons_succ]
                    refine take1 12 (v := ?_) rfl (by kernel_rfl) (by kernel_rfl) (by kernel_rfl) (fun _ _ _ h => h) (by rfl) ?_ hA0 ?_
                    rotate_left
                    · intro W9 hA
                      obtain ⟨co1, co2, c1, c2, c3, c4⟩ := HF.out W9 hA
                      clear co1 c1 c2 c3 c4
                      clear hA
                      go_simp
                      try with_reducible rfl
                    try simp only [Act.put, List.setIfInBounds_toArray, List.set_cons_zero, List.set_cons_succ]
                    refine take1 13 (v := ?_) rfl (by kernel_rfl) (by kernel_rfl) (by kernel_rfl) (fun _ _ _ h => h) (by rfl) ?_ hA0 ?_
                    rotate_left
                    · intro W9 hA
                      clear hA
                      go_simp
                      try with_reducible rfl
                    try simp only [Act.put, List.setIfInBounds_toArray, List.set_cons_zero, List.set_cons_succ]
                    refine take1 14 (v := ?_) rfl (by kernel_rfl) (by kernel_rfl) (by kernel_rfl) (fun _ _ _ h => h) (by rfl) ?_ hA0 ?_
                    rotate_left
                    · intro W9 hA
                      clear hA
                      go_simp
                      try with_reducible rfl
                    try simp only [Act.put, List.setIfInBounds_toArray, List.set_cons_zero, List.set_cons_succ]
                    refine take1 15 (v := ?_) rfl (by kernel_rfl) (by kernel_rfl) (by kernel_rfl) (fun _ _ _ h => h) (by rfl) ?_ hA0 ?_
                    rotate_left
                    · intro W9 hA
                      obtain ⟨co1, co2, c1, c2, c3, c4⟩ := HF.out W9 hA
                      clear co1 co2 c1 c2 c3
                      clear hA
                      go_simp
                      try with_reducible rfl
                    try simp only [Act.put, List.setIfInBounds_toArray, List.set_cons_zero, List.set_cons_succ]
                    refine take1 16 (v := ?_) rfl (by kernel_rfl) (by kernel_rfl) (by kernel_rfl) (fun _ _ _ h => h) (by rfl) ?_ hA0 ?_
                    rotate_left
                    · intro W9 hA
                      clear hA
                      go_simp
                      try with_reducible rfl
                    try simp only [Act.put, List.setIfInBounds_toArray, List.set_cons_zero, List.set_cons_succ]
                    refine take1 17 (v := ?_) rfl (by kernel_rfl) (by kernel_rfl) (by kernel_rfl) (fun _ _ _ h => h) (by rfl) ?_ hA0 ?_
                    rotate_left
                    · intro W9 hA
                      clear hA
                      go_simp
                      try with_reducible rfl
                    try simp only [Act.put, List.setIfInBounds_toArray, List.set_cons_zero, List.set_cons_succ]
                    refine take1 18 (v := ?_) rfl (by kernel_rfl) (by kernel_rfl) (by kernel_rfl) (fun _ _ _ h => h) (by rfl) ?_ hA0 ?_
                    rotate_left
                    · intro W9 hA
                      clear hA
                      go_simp
                      try with_reducible rfl
                    try simp only [Act.put, List.setIfInBounds_toArray, List.set_cons_zero, List.set_cons_succ]
                    refine take1 19 (v := ?_) rfl (by kernel_rfl) (by kernel_rfl) (by kernel_rfl) (fun _ _ _ h => h) (by rfl) ?_ hA0 ?_
                    rotate_left
                    · intro W9 hA
                      clear hA
                      go_simp
                      try with_reducible rfl
                    try simp only [Act.put, List.setIfInBounds_toArray, List.set_cons_zero, List.set_cons_succ]
                    refine take1 20 (v := ?_) rfl (by kernel_rfl) (by kernel_rfl) (by kernel_rfl) (fun _ _ _ h => h) (by rfl) ?_ hA0 ?_
                    rotate_left
                    · intro W9 hA
                      obtain ⟨co1, co2, c1, c2, c3, c4⟩ := HF.out W9 hA
                      clear co1 c1 c2 c3 c4
                      clear hA
                      go_simp
                      try with_reducible rfl
                    try simp only [Act.put, List.setIfInBounds_toArray, List.set_cons_zero, List.set_cons_succ]
                    refine take1 21 (v := ?_) rfl (by kernel_rfl) (by kernel_rfl) (by kernel_rfl) (fun _ _ _ h => h) (by rfl) ?_ hA0 ?_
                    rotate_left
                    · intro W9 hA
                      clear hA
                      go_simp
                      try with_reducible rfl
                    try simp only [Act.put, List.setIfInBounds_toArray, List.set_cons_zero, List.set_cons_succ]
                    refine take1 22 (v := ?_) rfl (by kernel_rfl) (by kernel_rfl) (by kernel_rfl) (fun _ _ _ h => h) (by rfl) ?_ hA0 ?_
                    rotate_left
                    · intro W9 hA
                      clear hA
                      go_simp
                      try with_reducible rfl
                    try simp only [Act.put, List.setIfInBounds_toArray, List.set_cons_zero, List.set_cons_succ]
                    refine take1 23 (v := ?_) rfl (by kernel_rfl) (by kernel_rfl) (by kernel_rfl) (fun _ _ _ h => h) (by rfl) ?_ hA0 ?_
                    rotate_left
                    · intro W9 hA
                      obtain ⟨co1, co2, c1, c2, c3, c4⟩ := HF.out W9 hA
                      clear co1 co2 c1 c2 c4
                      clear hA
                      go_simp
                      try with_reducible rfl
                    try simp only [Act.put, List.setIfInBounds_toArray, List.set_cons_zero, List.set_cons_succ]
                    refine take1 24 (v := ?_) rfl (by kernel_rfl) (by kernel_rfl) (by kernel_rfl) (fun _ _ _ h => h) (by rfl) ?_ hA0 ?_
                    rotate_left
                    · intro W9 hA
                      clear hA
                      go_simp
                      try with_reducible rfl
                    try simp only [Act.put, List.setIfInBounds_toArray, List.set_cons_zero, List.set_cons_succ]
                    refine take1 25 (v := ?_) rfl (by kernel_rfl) (by kernel_rfl) (by kernel_rfl) (fun _ _ _ h => h) (by rfl) ?_ hA0 ?_
                    rotate_left
                    · intro W9 hA
                      clear hA
                      go_simp
                      try with_reducible rfl
                    try simp only [Act.put, List.setIfInBounds_toArray, List.set_cons_zero, List.set_cons_succ]
                    refine take1 26 (v := ?_) rfl (by kernel_rfl) (by kernel_rfl) (by kernel_rfl) (fun _ _ _ h => h) (by rfl) ?_ hA0 ?_
                    rotate_left
                    · intro W9 hA
                      clear hA
                      go_simp
                      try with_reducible rfl
                    try simp only [Act.put, List.setIfInBounds_toArray, List.set_cons_zero, List.set_cons_succ]
                    refine take1 27 (v := ?_) rfl (by kernel_rfl) (by kernel_rfl) (by kernel_rfl) (fun _ _ _ h => h) (by rfl) ?_ hA0 ?_
                    rotate_left
                    · intro W9 hA
                      obtain ⟨co1, co2, c1, c2, c3, c4⟩ := HF.out W9 hA
                      clear co2 c1 c2 c3 c4
                      clear hA
                      go_simp
                      try with_reducible rfl
                    try simp only [Act.put, List.setIfInBounds_toArray, List.set_cons_zero, List.set_cons_succ]
                    refine take1 28 (v := ?_) rfl (by kernel_rfl) (by kernel_rfl) (by kernel_rfl) (fun _ _ _ h => h) (by rfl) ?_ hA0 ?_
                    rotate_left
                    · intro W9 hA
                      clear hA
                      go_simp
                      try with_reducible rfl
                    try simp only [Act.put, List.setIfInBounds_toArray, List.set_cons_zero, List.set_cons_succ]
                    refine take1 29 (v := ?_) rfl (by kernel_rfl) (by kernel_rfl) (by kernel_rfl) (fun _ _ _ h => h) (by rfl) ?_ hA0 ?_
                    rotate_left
                    · intro W9 hA
                      clear hA
                      go_simp
                      try with_reducible rfl
                    try simp only [Act.put, List.setIfInBounds_toArray, List.set_cons_zero, List.set_cons_succ]
                    refine take1 30 (v := ?_) rfl (by kernel_rfl) (by kernel_rfl) (by kernel_rfl) (fun _ _ _ h => h) (by rfl) ?_ hA0 ?_
                    rotate_left
                    · intro W9 hA
                      obtain ⟨co1, co2, c1, c2, c3, c4⟩ := HF.out W9 hA
                      clear co1 co2 c1 c3 c4
                      clear hA
                      go_simp
                      try with_reducible rfl
                    try simp only [Act.put, List.setIfInBounds_toArray, List.set_cons_zero, List.set_cons_succ]
                    refine take1 31 (v := ?_) rfl (by kernel_rfl) (by kernel_rfl) (by kernel_rfl) (fun _ _ _ h => h) (by rfl) ?_ hA0 ?_
                    rotate_left
                    · intro W9 hA
                      clear hA
                      go_simp
                      try with_reducible rfl
                    try simp only [Act.put, List.setIfInBounds_toArray, List.set_cons_zero, List.set_cons_succ]
                    refine take1 32 (v := ?_) rfl (by kernel_rfl) (by kernel_rfl) (by kernel_rfl) (fun _ _ _ h => h) (by rfl) ?_ hA0 ?_
                    rotate_left
                    · intro W9 hA
                      clear hA
                      go_simp
                      try with_reducible rfl
                    try simp only [Act.put, List.setIfInBounds_toArray, List.set_cons_zero, List.set_cons_succ]
                    refine take1 33 (v := ?_) rfl (by kernel_rfl) (by kernel_rfl) (by kernel_rfl) (fun _ _ _ h => h) (by rfl) ?_ hA0 ?_
                    rotate_left
                    · intro W9 hA
                      clear hA
                      go_simp
                      try with_reducible rfl
                    try simp only [Act.put, List.setIfInBounds_toArray, List.set_cons_zero, List.set_cons_succ]
                    refine take1 34 (v := ?_) rfl (by kernel_rfl) (by kernel_rfl) (by kernel_rfl) (fun _ _ _ h => h) (by rfl) ?_ hA0 ?_
                    rotate_left
                    · intro W9 hA
                      clear hA
                      go_simp
                      try with_reducible rfl
                    try simp only [Act.put, List.setIfInBounds_toArray, List.set_cons_zero, List.set_cons_succ]
                    refine take1 35 (v := ?_) rfl (by kernel_rfl) (by kernel_rfl) (by kernel_rfl) (fun _ _ _ h => h) (by rfl) ?_ hA0 ?_
                    rotate_left
                    · intro W9 hA
                      clear hA
                      go_simp
                      try with_reducible rfl
                    try simp only [Act.put, List.setIfInBounds_toArray, List.set_cons_zero, List.set_cons_succ]
                    refine step1 36 (by kernel_rfl) rfl (fun K hK => ?_)
                    go_simp
                    refine hK.out _ _ (HG2.out _) ?_
                    clear hK K
                    try simp only [Act.put, List.setIfInBounds_toArray, List.set_cons_zero, List.set_cons_succ]
                    refine stop1 (by kernel_rfl) ?_
                    go_wp2
                    go_roundw
                    case rel => exact ⟨j + 1, by omega, by omega, by go_num, HG2.out _, HP2.out, HB2.out _⟩
                    case measure => simp [intOf]; omega
                  · obtain rfl : j = x := by omega
                    have zh : N ≤ h := by omega
                    have co := HG.out.outer i hli
                    have fr := (HG.out.room i hli).2
                    have i1 : (0 : Int) ≤ (i : Int) := by omega
                    have i2 : (i : Int) < (j : Int) := by omega
                    have HG2 := Lib.hid ((HG.out.repl i hli h j (fun b => rowR M2 k last i j b) zh (by omega) (fun y hy e => by have := HNe.out y hy; omega) (fun b hb => HR.out.cell hb) (fun b _ => HR.out.frozen b)).congr (M' := stR M2 k last (i + 1)) (fun a b _ hb => stR_put M2 k last i j a b hki hb))
                    have HB2 := Lib.hid (HB.out.setCell (p := ⟨g, i, none⟩) zN (.slice (some ⟨h, 0, none⟩) j j))
                    go_wp2
                    go_roundw
                    case rel => exact ⟨i + 1, _, _, by omega, by omega, by go_num, HG2.out, HB2.out⟩
                    case measure => simp [intOf]; omega
              · obtain rfl : i = x := by omega
                obtain ⟨hp0, hpb, _, hnx⟩ := HN.out
                obtain ⟨R', g1, g2, g3⟩ := hnx (stR M2 k last i) (fun a b ha hai hb hbi => by unfold stR; rw [if_pos ⟨ha, hai⟩, if_pos hb])
                have HS' := Lib.hid g1
                have HT' := Lib.hid g2
                have HO' := Lib.hid g3
                have co := HG.out.outer k hlt
                have ci := HG.out.inner k k hlt hlt
                rw [stR_old M2 k last i k k (by omega)] at ci
                have i1 : (0 : Int) ≤ (k : Int) := by omega
                have i2 : (k : Int) < (i : Int) := by omega
                clear g1 g2 g3 hnx
                generalize M2 k k = p at *
                go_wp2
                go_roundw
                case rel => exact ⟨K1, p, sg, G, C, _, R', by have := HK.out; omega, by rw [HK.out]; exact HS', by rw [HK.out]; exact HO', by rw [HK.out]; exact HT', hp0, hpb, hsg3, rfl, rfl, rfl, HG.out, HB.out⟩
                case measure => have := HK.out; simp [intOf]; omega
          · obtain rfl : z = (k : Int) := HZz.out.trans hat
            have HN := Lib.hid hN
            clear hN hat HZz HC
            have HG1 := HG
            have HB1 := HB
            have hsg3 := hsg
            obtain ⟨K1, hK1⟩ : ∃ K1, K1 = k + 1 := ⟨_, rfl⟩
            have eK : (k : Int) + 1 = (K1 : Int) := by omega
            have eW : wrap64 ((k : Int) + 1) = (K1 : Int) := by rw [eK]; exact IntWalk.wrap64_in _ ⟨by omega, by omega⟩
            have eV : IntKind.i64.wrap ((k : Int) + 1) = (K1 : Int) := by rw [eK]; exact IntWalk.i64_in _ ⟨by omega, by omega⟩
            have HK := Lib.hid hK1
            clear hK1
            go_wp2
            obtain ⟨M2, hM2⟩ : ∃ M2, M = M2 := ⟨_, rfl⟩
            rw [hM2] at HG1 HN
            clear hM2
            clear HG HB
            go_loopw [9] (fun u wr => ∃ (i : Nat) (G C : Nat → Nat), k < i ∧ i ≤ x ∧ u = .int .i64 (i : Int) ∧ Grid wr N g x x x G C (stR M2 k last i) ∧ Below N w wr) (fun u _ => x - (intOf u).toNat)
            case atStart => exact ⟨k + 1, _, _, by omega, hlt, by rw [← HK.out], HG1.out.congr (fun a b _ _ => stR_start M2 k last a b), HB1.out⟩
            case round =>
              obtain ⟨i, G, C, hki, hix, rfl, hG, hB⟩ := hrel
              clear HG1 HB1
              have HG := Lib.hid hG
              have HB := Lib.hid hB
              clear hG hB
              by_cases hli : i < x
              · have zg := HG.out.ltg (by omega)
                have zw := HB.out.size
                have zN := HG.out.base
                have HGa := Lib.hid (HG.out.alloc (.cells (madeCells #[.int .i64 0] x) 3))
                have HRa := Lib.hid ((HZ.out wr).congr (g := fun b => .int .i64 (rowR M2 k last i (k + 1) b)) (fun b _ => by rw [← rowR_start]))
                have HBa := Lib.hid (HB.out.alloc (by omega) (.cells (madeCells #[.int .i64 0] x) 3))
                have HNe := Lib.hid (fun y (hy : y < x) => HG.out.lt y hy (by omega))
                obtain ⟨h, hh⟩ : ∃ h, wr.heap.size = h := ⟨_, rfl⟩
                go_wp2
                rw [hh] at HRa HNe zg zw
                obtain ⟨W1, hW1⟩ : ∃ W1, wr.alloc (.cells (madeCells #[.int .i64 0] x) 3) = W1 := ⟨_, rfl⟩
                rw [hW1] at HGa HRa HBa ⊢
                clear hW1 hh HG HB
                go_loopw [11] (fun u wr => ∃ j : Nat, k < j ∧ j ≤ x ∧ u = .int .i64 (j : Int) ∧ Grid wr N g x x x G C (stR M2 k last i) ∧ wr.rowIs h 3 x (fun b => .int .i64 (rowR M2 k last i j b)) ∧ Below N w wr) (fun u _ => x - (intOf u).toNat)
                case atStart => exact ⟨k + 1, by omega, hlt, by rw [← HK.out], HGa.out, HRa.out, HBa.out⟩
                case round =>
                  obtain ⟨j, hkj, hjx, rfl, hG, hR, hB⟩ := hrel
                  clear HGa HRa HBa
                  have HG := Lib.hid hG
                  have HR := Lib.hid hR
                  have HB := Lib.hid hB
                  clear hG hR hB
                  by_cases hlj : j < x
                  · have hbd := HN.out.2.2.1 (by omega)
                    have by1 := hbd i j (by omega) hli (by omega) hlj
                    have bp1 := hbd k k (Nat.le_refl _) hlt (Nat.le_refl _) hlt
                    have bz1 := hbd k j (Nat.le_refl _) hlt (by omega) hlj
                    have ba1 := hbd i k (by omega) hli (Nat.le_refl _) hlt
                    have HF : Hid (∀ W9, Grid W9 N g x x x G C (stR M2 k last i) → W9.cell? ⟨g, i, none⟩ = some (.slice (some ⟨G i, 0, none⟩) x (C i)) ∧ W9.cell? ⟨g, k, none⟩ = some (.slice (some ⟨G k, 0, none⟩) x (C k)) ∧ W9.cell? ⟨G i, j, none⟩ = some (.int .i64 (M2 i j)) ∧ W9.cell? ⟨G i, k, none⟩ = some (.int .i64 (M2 i k)) ∧ W9.cell? ⟨G k, j, none⟩ = some (.int .i64 (M2 k j)) ∧ W9.cell? ⟨G k, k, none⟩ = some (.int .i64 (M2 k k))) := Lib.hid (fun W9 hA => by
                      refine ⟨hA.outer i hli, hA.outer k hlt, ?_, ?_, ?_, ?_⟩
                      · have c := hA.inner i j hli hlj
                        rwa [stR_old M2 k last i i j (by omega)] at c
                      · have c := hA.inner i k hli hlt
                        rwa [stR_old M2 k last i i k (by omega)] at c
                      · have c := hA.inner k j hlt hlj
                        rwa [stR_old M2 k last i k j (by omega)] at c
                      · have c := hA.inner k k hlt hlt
                        rwa [stR_old M2 k last i k k (by omega)] at c)
                    have HEl : Hid (elimN M2 k last i j = Int.tdiv (M2 i j * M2 k k - M2 k j * M2 i k) last) := Lib.hid rfl
                    have HRd := Lib.hid HR.out.drew
                    have ch := HRd.out.cell hlj
                    have fh := HRd.out.frozen j
                    have hput := fun Q hQ => (HRd.out.set j (.int .i64 Q)).congr (g := fun b => .int .i64 (rowR M2 k last i (j + 1) b)) (fun b _ => rowR_put M2 k last i j b hkj Q hQ)
                    have HPut := Lib.hid hput
                    have HG2 : Hid (∀ v, Grid (wr.drew.setCell ⟨h, j, none⟩ v) N g x x x G C (stR M2 k last i)) := Lib.hid (fun v => HG.out.drew.other ⟨h, j, none⟩ v (by simp; omega) (fun y hy => by have := HNe.out y hy; simp; omega))
                    have HB2 : Hid (∀ v, Below N w (wr.drew.setCell ⟨h, j, none⟩ v)) := Lib.hid (fun v => HB.out.drew.setCell (p := ⟨h, j, none⟩) (by simp; omega) v)
                    obtain ⟨P1, P2, D, Q, HQ, w1, w2, w3, w4, w5, w6, w7, w8, w9, w10⟩ := elim_in (M2 i j) (M2 k k) (M2 k j) (M2 i k) last by1 bp1 bz1 ba1
                    have HQe : Hid (Q = elimN M2 k last i j) := Lib.hid (by
                      obtain ⟨q1, q2, q3, q4, q5⟩ := HQ.out
                      rw [HEl.out, q1, q3, q4, q5])
                    have HP2 := Lib.hid (HPut.out Q HQe.out)
                    have i1 : (0 : Int) ≤ (i : Int) := by omega
                    have i2 : (i : Int) < (x : Int) := by omega
                    have i3 : (0 : Int) ≤ (k : Int) := by omega
                    have i4 : (k : Int) < (x : Int) := by omega
                    have i5 : (0 : Int) ≤ (j : Int) := by omega
                    have i6 : (j : Int) < (x : Int) := by omega
                    have hA0 : Grid wr.drew N g x x x G C (stR M2 k last i) := HG.out.drew
                    clear hput HPut HEl hbd by1 bp1 bz1 ba1 HQ HQe
                    generalize M2 i j = y at *
                    generalize M2 k j = z at *
                    generalize M2 i k = a at *
                    generalize M2 k k = p at *
                    generalize rowR M2 k last i j j = r0 at *
                    go_wp2
                    refine wp_region_held_drew (S := fun W => Grid W N g x x x G C (stR M2 k last i)) hmx hA0 (fun _ => ?_)
                    generalize wr.drew = W3 at *
                    refine take1 0 (v := ?_) rfl (by kernel_rfl) (by kernel_rfl) (by kernel_rfl) (fun _ _ _ h => h) (by rfl) ?_ hA0 ?_
                    rotate_left
                    · intro W9 hA
                      clear hA
                      go_simp
                      try with_reducible rfl
                    try simp only [Act.put, List.setIfInBounds_toArray, List.set_cons_zero, List.set_cons_succ]
                    refine take1 1 (v := ?_) rfl (by kernel_rfl) (by kernel_rfl) (by kernel_rfl) (fun _ _ _ h => h) (by rfl) ?_ hA0 ?_
                    rotate_left
                    · intro W9 hA
                      clear hA
                      go_simp
                      try with_reducible rfl
                    try simp only [Act.put, List.setIfInBounds_toArray, List.set_cons_zero, List.set_cons_succ]
                    refine take1 2 (v := ?_) rfl (by kernel_rfl) (by kernel_rfl) (by kernel_rfl) (fun _ _ _ h => h) (by rfl) ?_ hA0 ?_
                    rotate_left
                    · intro W9 hA
                      clear hA
                      go_simp
                      try with_reducible rfl
                    try simp only [Act.put, List.setIfInBounds_toArray, List.set_cons_zero, List.set_cons_succ]
                    refine take1 3 (v := ?_) rfl (by kernel_rfl) (by kernel_rfl) (by kernel_rfl) (fun _ _ _ h => h) (by rfl) ?_ hA0 ?_
                    rotate_left
                    · intro W9 hA
                      clear hA
                      go_simp
                      try with_reducible rfl
                    try simp only [Act.put, List.setIfInBounds_toArray, List.set_cons_zero, List.set_cons_succ]
                    refine take1 4 (v := ?_) rfl (by kernel_rfl) (by kernel_rfl) (by kernel_rfl) (fun _ _ _ h => h) (by rfl) ?_ hA0 ?_
                    rotate_left
                    · intro W9 hA
                      clear hA
                      go_simp
                      try with_reducible rfl
                    try simp only [Act.put, List.setIfInBounds_toArray, List.set_cons_zero, List.set_cons_succ]
                    refine take1 5 (v := ?_) rfl (by kernel_rfl) (by kernel_rfl) (by kernel_rfl) (fun _ _ _ h => h) (by rfl) ?_ hA0 ?_
                    rotate_left
                    · intro W9 hA
                      obtain ⟨co1, co2, c1, c2, c3, c4⟩ := HF.out W9 hA
                      clear co2 c1 c2 c3 c4
                      clear hA
                      go_simp
                      try with_reducible rfl
                    try simp only [Act.put, List.setIfInBounds_toArray, List.set_cons_zero, List.set_cons_succ]
                    refine take1 6 (v := ?_) rfl (by kernel_rfl) (by kernel_rfl) (by kernel_rfl) (fun _ _ _ h => h) (by rfl) ?_ hA0 ?_
                    rotate_left
                    · intro W9 hA
                      clear hA
                      go_simp
                      try with_reducible rfl
                    try simp only [Act.put, List.setIfInBounds_toArray, List.set_cons_zero, List.set_cons_succ]
                    refine take1 7 (v := ?_) rfl (by kernel_rfl) (by kernel_rfl) (by kernel_rfl) (fun _ _ _ h => h) (by rfl) ?_ hA0 ?_
                    rotate_left
                    · intro W9 hA
                      clear hA
                      go_simp
                      try with_reducible rfl
                    try simp only [Act.put, List.setIfInBounds_toArray, List.set_cons_zero, List.set_cons_succ]
                    refine take1 8 (v := ?_) rfl (by kernel_rfl) (by kernel_rfl) (by kernel_rfl) (fun _ _ _ h => h) (by rfl) ?_ hA0 ?_
                    rotate_left
                    · intro W9 hA
                      obtain ⟨co1, co2, c1, c2, c3, c4⟩ := HF.out W9 hA
                      clear co1 co2 c2 c3 c4
                      clear hA
                      go_simp
                      try with_reducible rfl
                    try simp only [Act.put, List.setIfInBounds_toArray, List.set_cons_zero, List.set_cons_succ]
                    refine take1 9 (v := ?_) rfl (by kernel_rfl) (by kernel_rfl) (by kernel_rfl) (fun _ _ _ h => h) (by rfl) ?_ hA0 ?_
                    rotate_left
                    · intro W9 hA
                      clear hA
                      go_simp
                      try with_reducible rfl
                    try simp only [Act.put, List.setIfInBounds_toArray, List.set_cons_zero, List.set_cons_succ]
                    refine take1 10 (v := ?_) rfl (by kernel_rfl) (by kernel_rfl) (by kernel_rfl) (fun _ _ _ h => h) (by rfl) ?_ hA0 ?_
                    rotate_left
                    · intro W9 hA
                      clear hA
                      go_simp
                      try with_reducible rfl
                    try simp only [Act.put, List.setIfInBounds_toArray, List.set_cons_zero, List.set_cons_succ]
                    refine take1 11 (v := ?_) rfl (by kernel_rfl) (by kernel_rfl) (by kernel_rfl) (fun _ _ _ h => h) (by rfl) ?_ hA0 ?_
                    rotate_left
                    · intro W9 hA
                      clear hA
                      go_simp
                      try with_reducible rfl
                    try simp only [Act.put, List.setIfInBounds_toArray, List.set_cons_zero, List.set_cons_succ]
                    refine take1 12 (v := ?_) rfl (by kernel_rfl) (by kernel_rfl) (by kernel_rfl) (fun _ _ _ h => h) (by rfl) ?_ hA0 ?_
                    rotate_left
                    · intro W9 hA
                      obtain ⟨co1, co2, c1, c2, c3, c4⟩ := HF.out W9 hA
                      clear co1 c1 c2 c3 c4
                      clear hA
                      go_simp
                      try with_reducible rfl
                    try simp only [Act.put, List.setIfInBounds_toArray, List.set_cons_zero, List.set_cons_succ]
                    refine take1 13 (v := ?_) rfl (by kernel_rfl) (by kernel_rfl) (by kernel_rfl) (fun _ _ _ h => h) (by rfl) ?_ hA0 ?_
                    rotate_left
                    · intro W9 hA
                      clear hA
                      go_simp
                      try with_reducible rfl
                    try simp only [Act.put, List.setIfInBounds_toArray, List.set_cons_zero, List.set_cons_succ]
                    refine take1 14 (v := ?_) rfl (by kernel_rfl) (by kernel_rfl) (by kernel_rfl) (fun _ _ _ h => h) (by rfl) ?_ hA0 ?_
                    rotate_left
                    · intro W9 hA
                      clear hA
                      go_simp
                      try with_reducible rfl
                    try simp only [Act.put, List.setIfInBounds_toArray, List.set_cons_zero, List.set_cons_succ]
                    refine take1 15 (v := ?_) rfl (by kernel_rfl) (by kernel_rfl) (by kernel_rfl) (fun _ _ _ h => h) (by rfl) ?_ hA0 ?_
                    rotate_left
                    · intro W9 hA
                      obtain ⟨co1, co2, c1, c2, c3, c4⟩ := HF.out W9 hA
                      clear co1 co2 c1 c2 c3
                      clear hA
                      go_simp
                      try with_reducible rfl
                    try simp only [Act.put, List.setIfInBounds_toArray, List.set_cons_zero, List.set_cons_succ]
                    refine take1 16 (v := ?_) rfl (by kernel_rfl) (by kernel_rfl) (by kernel_rfl) (fun _ _ _ h => h) (by rfl) ?_ hA0 ?_
                    rotate_left
                    · intro W9 hA
                      clear hA
                      go_simp
                      try with_reducible rfl
                    try simp only [Act.put, List.setIfInBounds_toArray, List.set_cons_zero, List.set_cons_succ]
                    refine take1 17 (v := ?_) rfl (by kernel_rfl) (by kernel_rfl) (by kernel_rfl) (fun _ _ _ h => h) (by rfl) ?_ hA0 ?_
                    rotate_left
                    · intro W9 hA
                      clear hA
                      go_simp
                      try with_reducible rfl
                    try simp only [Act.put, List.setIfInBounds_toArray, List.set_cons_zero, List.set_cons_succ]
                    refine take1 18 (v := ?_) rfl (by kernel_rfl) (by kernel_rfl) (by kernel_rfl) (fun _ _ _ h => h) (by rfl) ?_ hA0 ?_
                    rotate_left
                    · intro W9 hA
                      clear hA
                      go_simp
                      try with_reducible rfl
                    try simp only [Act.put, List.setIfInBounds_toArray, List.set_cons_zero, List.set_cons_succ]
                    refine take1 19 (v := ?_) rfl (by kernel_rfl) (by kernel_rfl) (by kernel_rfl) (fun _ _ _ h => h) (by rfl) ?_ hA0 ?_
                    rotate_left
                    · intro W9 hA
                      clear hA
                      go_simp
                      try with_reducible rfl
                    try simp only [Act.put, List.setIfInBounds_toArray, List.set_cons_zero, List.set_cons_succ]
                    refine take1 20 (v := ?_) rfl (by kernel_rfl) (by kernel_rfl) (by kernel_rfl) (fun _ _ _ h => h) (by rfl) ?_ hA0 ?_
                    rotate_left
                    · intro W9 hA
                      obtain ⟨co1, co2, c1, c2, c3, c4⟩ := HF.out W9 hA
                      clear co1 c1 c2 c3 c4
                      clear hA
                      go_simp
                      try with_reducible rfl
                    try simp only [Act.put, List.setIfInBounds_toArray, List.set_cons_zero, List.set_cons_succ]
                    refine take1 21 (v := ?_) rfl (by kernel_rfl) (by kernel_rfl) (by kernel_rfl) (fun _ _ _ h => h) (by rfl) ?_ hA0 ?_
                    rotate_left
                    · intro W9 hA
                      clear hA
                      go_simp
                      try with_reducible rfl
                    try simp only [Act.put, List.setIfInBounds_toArray, List.set_cons_zero, List.set_cons_succ]
                    refine take1 22 (v := ?_) rfl (by kernel_rfl) (by kernel_rfl) (by kernel_rfl) (fun _ _ _ h => h) (by rfl) ?_ hA0 ?_
                    rotate_left
                    · intro W9 hA
                      clear hA
                      go_simp
                      try with_reducible rfl
                    try simp only [Act.put, List.setIfInBounds_toArray, List.set_cons_zero, List.set_cons_succ]
                    refine take1 23 (v := ?_) rfl (by kernel_rfl) (by kernel_rfl) (by kernel_rfl) (fun _ _ _ h => h) (by rfl) ?_ hA0 ?_
                    rotate_left
                    · intro W9 hA
                      obtain ⟨co1, co2, c1, c2, c3, c4⟩ := HF.out W9 hA
                      clear co1 co2 c1 c2 c4
                      clear hA
                      go_simp
                      try with_reducible rfl
                    try simp only [Act.put, List.setIfInBounds_toArray, List.set_cons_zero, List.set_cons_succ]
                    refine take1 24 (v := ?_) rfl (by kernel_rfl) (by kernel_rfl) (by kernel_rfl) (fun _ _ _ h => h) (by rfl) ?_ hA0 ?_
                    rotate_left
                    · intro W9 hA
                      clear hA
                      go_simp
                      try with_reducible rfl
                    try simp only [Act.put, List.setIfInBounds_toArray, List.set_cons_zero, List.set_cons_succ]
                    refine take1 25 (v := ?_) rfl (by kernel_rfl) (by kernel_rfl) (by kernel_rfl) (fun _ _ _ h => h) (by rfl) ?_ hA0 ?_
                    rotate_left
                    · intro W9 hA
                      clear hA
                      go_simp
                      try with_reducible rfl
                    try simp only [Act.put, List.setIfInBounds_toArray, List.set_cons_zero, List.set_cons_succ]
                    refine take1 26 (v := ?_) rfl (by kernel_rfl) (by kernel_rfl) (by kernel_rfl) (fun _ _ _ h => h) (by rfl) ?_ hA0 ?_
                    rotate_left
                    · intro W9 hA
                      clear hA
                      go_simp
                      try with_reducible rfl
                    try simp only [Act.put, List.setIfInBounds_toArray, List.set_cons_zero, List.set_cons_succ]
                    refine take1 27 (v := ?_) rfl (by kernel_rfl) (by kernel_rfl) (by kernel_rfl) (fun _ _ _ h => h) (by rfl) ?_ hA0 ?_
                    rotate_left
                    · intro W9 hA
                      obtain ⟨co1, co2, c1, c2, c3, c4⟩ := HF.out W9 hA
                      clear co2 c1 c2 c3 c4
                      clear hA
                      go_simp
                      try with_reducible rfl
                    try simp only [Act.put, List.setIfInBounds_toArray, List.set_cons_zero, List.set_cons_succ]
                    refine take1 28 (v := ?_) rfl (by kernel_rfl) (by kernel_rfl) (by kernel_rfl) (fun _ _ _ h => h) (by rfl) ?_ hA0 ?_
                    rotate_left
                    · intro W9 hA
                      clear hA
                      go_simp
                      try with_reducible rfl
                    try simp only [Act.put, List.setIfInBounds_toArray, List.set_cons_zero, List.set_cons_succ]
                    refine take1 29 (v := ?_) rfl (by kernel_rfl) (by kernel_rfl) (by kernel_rfl) (fun _ _ _ h => h) (by rfl) ?_ hA0 ?_
                    rotate_left
                    · intro W9 hA
                      clear hA
                      go_simp
                      try with_reducible rfl
                    try simp only [Act.put, List.setIfInBounds_toArray, List.set_cons_zero, List.set_cons_succ]
                    refine take1 30 (v := ?_) rfl (by kernel_rfl) (by kernel_rfl) (by kernel_rfl) (fun _ _ _ h => h) (by rfl) ?_ hA0 ?_
                    rotate_left
                    · intro W9 hA
                      obtain ⟨co1, co2, c1, c2, c3, c4⟩ := HF.out W9 hA
                      clear co1 co2 c1 c3 c4
                      clear hA
                      go_simp
                      try with_reducible rfl
                    try simp only [Act.put, List.setIfInBounds_toArray, List.set_cons_zero, List.set_cons_succ]
                    refine take1 31 (v := ?_) rfl (by kernel_rfl) (by kernel_rfl) (by kernel_rfl) (fun _ _ _ h => h) (by rfl) ?_ hA0 ?_
                    rotate_left
                    · intro W9 hA
                      clear hA
                      go_simp
                      try with_reducible rfl
                    try simp only [Act.put, List.setIfInBounds_toArray, List.set_cons_zero, List.set_cons_succ]
                    refine take1 32 (v := ?_) rfl (by kernel_rfl) (by kernel_rfl) (by kernel_rfl) (fun _ _ _ h => h) (by rfl) ?_ hA0 ?_
                    rotate_left
                    · intro W9 hA
                      clear hA
                      go_simp
                      try with_reducible rfl
                    try simp only [Act.put, List.setIfInBounds_toArray, List.set_cons_zero, List.set_cons_succ]
                    refine take1 33 (v := ?_) rfl (by kernel_rfl) (by kernel_rfl) (by kernel_rfl) (fun _ _ _ h => h) (by rfl) ?_ hA0 ?_
                    rotate_left
                    · intro W9 hA
                      clear hA
                      go_simp
                      try with_reducible rfl
                    try simp only [Act.put, List.setIfInBounds_toArray, List.set_cons_zero, List.set_cons_succ]
                    refine take1 34 (v := ?_) rfl (by kernel_rfl) (by kernel_rfl) (by kernel_rfl) (fun _ _ _ h => h) (by rfl) ?_ hA0 ?_
                    rotate_left
                    · intro W9 hA
                      clear hA
                      go_simp
                      try with_reducible rfl
                    try simp only [Act.put, List.setIfInBounds_toArray, List.set_cons_zero, List.set_cons_succ]
                    refine take1 35 (v := ?_) rfl (by kernel_rfl) (by kernel_rfl) (by kernel_rfl) (fun _ _ _ h => h) (by rfl) ?_ hA0 ?_
                    rotate_left
                    · intro W9 hA
                      clear hA
                      go_simp
                      try with_reducible rfl
                    try simp only [Act.put, List.setIfInBounds_toArray, List.set_cons_zero, List.set_cons_succ]
                    refine step1 36 (by kernel_rfl) rfl (fun K hK => ?_)
                    go_simp
                    refine hK.out _ _ (HG2.out _) ?_
                    clear hK K
                    try simp only [Act.put, List.setIfInBounds_toArray, List.set_cons_zero, List.set_cons_succ]
                    refine stop1 (by kernel_rfl) ?_
                    go_wp2
                    go_roundw
                    case rel => exact ⟨j + 1, by omega, by omega, by go_num, HG2.out _, HP2.out, HB2.out _⟩
                    case measure => simp [intOf]; omega
                  · obtain rfl : j = x := by omega
                    have zh : N ≤ h := by omega
                    have co := HG.out.outer i hli
                    have fr := (HG.out.room i hli).2
                    have i1 : (0 : Int) ≤ (i : Int) := by omega
                    have i2 : (i : Int) < (j : Int) := by omega
                    have HG2 := Lib.hid ((HG.out.repl i hli h j (fun b => rowR M2 k last i j b) zh (by omega) (fun y hy e => by have := HNe.out y hy; omega) (fun b hb => HR.out.cell hb) (fun b _ => HR.out.frozen b)).congr (M' := stR M2 k last (i + 1)) (fun a b _ hb => stR_put M2 k last i j a b hki hb))
                    have HB2 := Lib.hid (HB.out.setCell (p := ⟨g, i, none⟩) zN (.slice (some ⟨h, 0, none⟩) j j))
                    go_wp2
                    go_roundw
                    case rel => exact ⟨i + 1, _, _, by omega, by omega, by go_num, HG2.out, HB2.out⟩
                    case measure => simp [intOf]; omega
              · obtain rfl : i = x := by omega
                obtain ⟨hp0, hpb, _, hnx⟩ := HN.out
                obtain ⟨R', g1, g2, g3⟩ := hnx (stR M2 k last i) (fun a b ha hai hb hbi => by unfold stR; rw [if_pos ⟨ha, hai⟩, if_pos hb])
                have HS' := Lib.hid g1
                have HT' := Lib.hid g2
                have HO' := Lib.hid g3
                have co := HG.out.outer k hlt
                have ci := HG.out.inner k k hlt hlt
                rw [stR_old M2 k last i k k (by omega)] at ci
                have i1 : (0 : Int) ≤ (k : Int) := by omega
                have i2 : (k : Int) < (i : Int) := by omega
                clear g1 g2 g3 hnx
                generalize M2 k k = p at *
                go_wp2
                go_roundw
                case rel => exact ⟨K1, p, sign, G, C, _, R', by have := HK.out; omega, by rw [HK.out]; exact HS', by rw [HK.out]; exact HO', by rw [HK.out]; exact HT', hp0, hpb, hsg3, rfl, rfl, rfl, HG.out, HB.out⟩
                case measure => have := HK.out; simp [intOf]; omega
          · obtain rfl : z = -1 := HZz.out.trans hat
            have HT0 := Lib.hid hT0
            clear hat HZz HC hT0
            go_wp2
            go_ret
            exact ⟨ret_int (by rw [HTe.out, HT0.out]), HB.out⟩
    · obtain rfl : k = m := by omega
      have HE : Hid (sign * last = T) := Lib.hid (by
        have h := HT.out
        rw [Nat.sub_self] at h
        exact h)
      have e1 : -10000000000 ≤ sign * last ∧ sign * last ≤ 10000000000 := by
        rcases hsg with rfl | rfl
        · rw [Int.one_mul]; exact hlb
        · rw [show (-1 : Int) * last = -last by omega]; omega
      have e2 := IntWalk.i64_in (sign * last) ⟨by omega, by omega⟩
      have e3 := IntWalk.wrap64_in (sign * last) ⟨by omega, by omega⟩
      obtain ⟨P, hP⟩ : ∃ P, sign * last = P := ⟨_, rfl⟩
      rw [hP] at HE
      have e4 := e2.trans hP
      have e5 := e3.trans hP
      clear hP e1 e2 e3
      go_wp2
      go_ret
      exact ⟨ret_int (by rw [HE.out, HTe.out]), HB.out⟩
end Go.Proofs.Ytookciehnjnmnaa
